/-
  The document's owners by their contract.
  The document's purse (bakehouseref1.Purse) by its contracts.
  The document's purse (bakehouseref1.Purse) by its contracts: what is done to it.
-/
import Derived.Test.YtaihcceobnfmhaaGreatDoorProgPurseX
import Derived.Test.YtaihcceobnfmhaaGreatDoorAidX
import Derived.Deep.OwnRows
namespace Go.Proofs.YtaihcceobnfmhaaGreatDoor
open Go.RowKit

theorem isOwner_yes (o : Int) (h0 : 0 ≤ o) (h6 : o < 6) (w : World) :
    Calls Tryz.prog 130 #[.int .i64 o] w fun e w' => e = .returned (.bool true) ∧ w' = w := by
  go_enter Tryz.func130, Tryz.ntmps130
  go_wp2
  go_ret
  exact ⟨rfl, rfl⟩
theorem isOwner_no (o : Int) (h : ¬ (0 ≤ o ∧ o < 6)) (w : World) :
    Calls Tryz.prog 130 #[.int .i64 o] w fun e w' => e = .returned (.bool false) ∧ w' = w := by
  by_cases h0 : 0 ≤ o
  · have h6 : ¬ o < 6 := by omega
    clear h
    go_enter Tryz.func130, Tryz.ntmps130
    go_wp2
    go_ret
    exact ⟨rfl, rfl⟩
  · clear h
    go_enter Tryz.func130, Tryz.ntmps130
    go_wp2
    go_ret
    exact ⟨rfl, rfl⟩
end Go.Proofs.YtaihcceobnfmhaaGreatDoor

namespace Go.Proofs.YtaihcceobnfmhaaGreatDoor
open Go.RowKit

theorem amount_is (n : Int) (h : Amt n) (w : World) : Calls Tryz.prog 170 #[.int .i64 n] w fun e w' => e = .returned (.bool true) ∧ w' = w := by
  obtain ⟨h0, h1⟩ := h
  go_enter Tryz.func170, Tryz.ntmps170
  go_wp2
  go_ret
  exact ⟨rfl, rfl⟩
theorem amount_not (n : Int) (h : ¬ Amt n) (w : World) : Calls Tryz.prog 170 #[.int .i64 n] w fun e w' => e = .returned (.bool false) ∧ w' = w := by
  unfold Amt at h
  by_cases h0 : 0 ≤ n
  · have h1 : ¬ n ≤ 1125899906842624 := by omega
    clear h
    go_enter Tryz.func170, Tryz.ntmps170
    go_wp2
    go_ret
    exact ⟨rfl, rfl⟩
  · clear h
    go_enter Tryz.func170, Tryz.ntmps170
    go_wp2
    go_ret
    exact ⟨rfl, rfl⟩

/-- the document's purse, as it lies in memory -/
structure RPu (w : World) (b q : Nat) (x : Pu) : Prop where
  c0 : w.cell? ⟨b, 0, none⟩ = some (.slice (some ⟨q, 0, none⟩) 6 6)
  c1 : w.cell? ⟨b, 1, none⟩ = some (.int .i64 x.S)
  s : ∀ i : Nat, i < 6 → w.cell? ⟨q, i, none⟩ = some (.int .i64 (x.s i))
  f1 : w.frozen? ⟨b, 1, none⟩ = false
  fs : ∀ i : Nat, i < 6 → w.frozen? ⟨q, i, none⟩ = false
  ne : b ≠ q
theorem RPu.drewN {w : World} {b q : Nat} {x : Pu} (h : RPu w b q x) (n : Nat) : RPu (w.drewN n) b q x := ⟨h.c0, h.c1, h.s, h.f1, h.fs, h.ne⟩
theorem RPu.kept {w w' : World} {b q : Nat} {x : Pu} {X : List Nat} (h : RPu w b q x) (hK : Kept X w w') (hb : b ∉ X) (hq : q ∉ X) : RPu w' b q x where
  c0 := hK.old h.c0 hb
  c1 := hK.old h.c1 hb
  s := fun i hi => hK.old (h.s i hi) hq
  f1 := by rw [hK.frozen (cell_lt h.c1) hb]; exact h.f1
  fs := fun i hi => by rw [hK.frozen (cell_lt (h.s i hi)) hq]; exact h.fs i hi
  ne := h.ne
theorem RPu.lt {w : World} {b q : Nat} {x : Pu} (h : RPu w b q x) : b < w.heap.size ∧ q < w.heap.size := ⟨cell_lt h.c0, cell_lt (h.s 0 (by omega))⟩
/-- an owner's and the supply written -/
theorem RPu.setS {w : World} {b q : Nat} {x : Pu} (h : RPu w b q x) (v : Int) : RPu (w.setCell ⟨b, 1, none⟩ (.int .i64 v)) b q ⟨x.s, v⟩ where
  c0 := by rw [World.cell?_setCell_other _ _ _ _ (by simp)]; exact h.c0
  c1 := World.cell?_setCell_same _ _ _ h.c1
  s := fun i hi => by rw [World.cell?_setCell_other _ _ _ _ (by simp; intro e; exact absurd e h.ne)]; exact h.s i hi
  f1 := by rw [World.frozen?_setCell]; exact h.f1
  fs := fun i hi => by rw [World.frozen?_setCell]; exact h.fs i hi
  ne := h.ne
theorem RPu.setO {w : World} {b q : Nat} {x : Pu} (h : RPu w b q x) (k : Nat) (hk : k < 6) (v : Int) : RPu (w.setCell ⟨q, k, none⟩ (.int .i64 v)) b q ⟨put x.s k v, x.S⟩ where
  c0 := by rw [World.cell?_setCell_other _ _ _ _ (by simp; intro e; exact absurd e.symm h.ne)]; exact h.c0
  c1 := by rw [World.cell?_setCell_other _ _ _ _ (by simp; intro e; exact absurd e.symm h.ne)]; exact h.c1
  s := fun i hi => by
    by_cases e : i = k
    · subst e
      rw [World.cell?_setCell_same _ _ _ (h.s i hi)]
      show _ = some (Value.int .i64 (put x.s i v i))
      rw [put_same]
    · rw [World.cell?_setCell_other _ _ _ _ (by simp; try omega)]
      show _ = some (Value.int .i64 (put x.s k v i))
      rw [put_other _ _ _ _ (by omega)]; exact h.s i hi
  f1 := by rw [World.frozen?_setCell]; exact h.f1
  fs := fun i hi => by rw [World.frozen?_setCell]; exact h.fs i hi
  ne := h.ne
theorem RPu.as {w w' : World} {b q : Nat} {x y : Pu} (h : RPu w' b q x ∧ Kept [b, q] w w') (e : x = y) : RPu w' b q y ∧ Kept [b, q] w w' := by rw [← e]; exact h

/-- the first so many owners' -/
def sumP (x : Pu) : Nat → Int
  | 0 => 0
  | k + 1 => sumP x k + x.s k
theorem sumP_six (x : Pu) : sumP x 6 = x.sum := by simp [sumP, Pu.sum]
theorem sumP_bd {x : Pu} (h : x.Ok) : ∀ k, k ≤ 6 → 0 ≤ sumP x k ∧ sumP x k ≤ x.sum
  | 0, _ => ⟨Int.le_refl _, h.sum0⟩
  | k + 1, hk => by
    have h0 := h.pos 0
    have h1 := h.pos 1
    have h2 := h.pos 2
    have h3 := h.pos 3
    have h4 := h.pos 4
    have h5 := h.pos 5
    have : k = 0 ∨ k = 1 ∨ k = 2 ∨ k = 3 ∨ k = 4 ∨ k = 5 := by omega
    rcases this with rfl | rfl | rfl | rfl | rfl | rfl <;> (simp [sumP, Pu.sum]; omega)
set_option maxRecDepth 100000 in
set_option maxHeartbeats 1000000 in
theorem rp_sum (b q : Nat) (x : Pu) (hx : x.Ok) (w : World) (h : RPu w b q x) :
    Calls Tryz.prog 36 #[.pointer (some ⟨b, 0, none⟩)] w fun e w' => e = .returned (.int .i64 x.sum) ∧ w' = w := by
  have c0 := h.c0
  have a1 := hx.le
  have a2 := hx.top
  go_enter Tryz.func36, Tryz.ntmps36
  go_wp2
  go_loop [3, 4] (fun n i => ∃ k : Nat, k ≤ 6 ∧ i = .int .i64 k ∧ n = .int .i64 (sumP x k)) (fun _ i => 6 - (intOf i).toNat)
  case atStart => exact ⟨0, by omega, rfl, rfl⟩
  case round =>
    obtain ⟨k, hk, rfl, rfl⟩ := hrel
    by_cases hlt : k < 6
    · have cs := h.s k hlt
      have hp := sumP_bd hx k (by omega)
      have hq := sumP_bd hx (k + 1) (by omega)
      have he : sumP x (k + 1) = sumP x k + x.s k := rfl
      rw [he] at hq
      clear he
      go_wp2
      go_round
      case rel => exact ⟨k + 1, by omega, by go_num, rfl⟩
      case measure => simp [intOf]; omega
    · obtain rfl : k = 6 := by omega
      have he := hide (sumP_six x)
      go_wp2
      go_ret
      exact ⟨ret_int he.out, rfl⟩
theorem rp_error_no (b : Nat) (o n : Int) (h : Own o ∧ Amt n) (w : World) :
    Calls Tryz.prog 121 #[.pointer (some ⟨b, 0, none⟩), .int .i64 o, .int .i64 n] w fun e w' => e = .returned (.int .i64 0) ∧ w' = w := by
  have I := isOwner_yes o h.1.1 h.1.2
  have J := amount_is n h.2
  clear h
  go_enter Tryz.func121, Tryz.ntmps121
  go_wp2_with (first | (go_at_call 130; refine (I _).mono ?_; rintro e w' ⟨rfl, rfl⟩) | (go_at_call 170; refine (J _).mono ?_; rintro e w' ⟨rfl, rfl⟩))
  go_ret
  exact ⟨rfl, rfl⟩
theorem rp_error_yes (b : Nat) (o n : Int) (h : ¬ (Own o ∧ Amt n)) (w : World) :
    Calls Tryz.prog 121 #[.pointer (some ⟨b, 0, none⟩), .int .i64 o, .int .i64 n] w fun e w' => e = .returned (.int .i64 2) ∧ w' = w := by
  by_cases ho : Own o
  · have I := isOwner_yes o ho.1 ho.2
    have J := amount_not n (fun g => h ⟨ho, g⟩)
    clear h ho
    go_enter Tryz.func121, Tryz.ntmps121
    go_wp2_with (first | (go_at_call 130; refine (I _).mono ?_; rintro e w' ⟨rfl, rfl⟩) | (go_at_call 170; refine (J _).mono ?_; rintro e w' ⟨rfl, rfl⟩))
    go_ret
    exact ⟨rfl, rfl⟩
  · have I := isOwner_no o ho
    clear h ho
    go_enter Tryz.func121, Tryz.ntmps121
    go_wp2_with (first | (go_at_call 130; refine (I _).mono ?_; rintro e w' ⟨rfl, rfl⟩))
    go_ret
    exact ⟨rfl, rfl⟩
end Go.Proofs.YtaihcceobnfmhaaGreatDoor

namespace Go.Proofs.YtaihcceobnfmhaaGreatDoor
open Go.RowKit

theorem rp_stay {w : World} {b q : Nat} {x y : Pu} (h : RPu w b q x) (e : y = x) : RPu w b q y ∧ Kept [b, q] w w := by rw [e]; exact ⟨h, Kept.refl _ _⟩
theorem rp_drew {b q : Nat} {x : Pu} {w w' : World} (h : RPu w' b q x ∧ Kept [b, q] w w') : RPu w'.drew b q x ∧ Kept [b, q] w w'.drew := ⟨⟨h.1.c0, h.1.c1, h.1.s, h.1.f1, h.1.fs, h.1.ne⟩, h.2.drew⟩
theorem rp_setS {w w0 : World} {b q : Nat} {x : Pu} (h : RPu w b q x ∧ Kept [b, q] w0 w) (v : Int) : RPu (w.setCell ⟨b, 1, none⟩ (.int .i64 v)) b q ⟨x.s, v⟩ ∧ Kept [b, q] w0 (w.setCell ⟨b, 1, none⟩ (.int .i64 v)) := ⟨h.1.setS v, h.2.setCell (by simp) _⟩
theorem rp_setO {w w0 : World} {b q : Nat} {x : Pu} (h : RPu w b q x ∧ Kept [b, q] w0 w) (k : Nat) (hk : k < 6) (v : Int) : RPu (w.setCell ⟨q, k, none⟩ (.int .i64 v)) b q ⟨put x.s k v, x.S⟩ ∧ Kept [b, q] w0 (w.setCell ⟨q, k, none⟩ (.int .i64 v)) := ⟨h.1.setO k hk v, h.2.setCell (by simp) _⟩
theorem rp_own {o : Int} (h : Own o) : ∃ k : Nat, o = k ∧ k < 6 := ⟨o.toNat, by have := h.1; omega, by have := h.2; have := h.1; omega⟩

set_option maxRecDepth 100000 in
set_option maxHeartbeats 1000000 in
theorem rp_grow (b q : Nat) (x : Pu) (hx : x.Ok) (n : Int) (w : World) (h : RPu w b q x) :
    Calls Tryz.prog 135 #[.pointer (some ⟨b, 0, none⟩), .int .i64 n] w fun e w' => e = .returned (.int .i64 (x.growC n)) ∧ RPu w' b q (x.grow n) ∧ Kept [b, q] w w' := by
  have c0 := h.c0
  have c1 := h.c1
  have f1 := h.f1
  have ne := h.ne
  have s0 := hx.sum0
  have a1 := hx.le
  have a2 := hx.top
  by_cases hb : Amt n
  · have n0 := hb.1
    have n1 := hb.2
    by_cases ht : x.S + n ≤ 1125899906842624
    · have e1 : x.growC n = 0 := if_pos ⟨hb, ht⟩
      have e2 : x.grow n = ⟨x.s, x.S + n⟩ := if_pos e1
      have E := hide (show 0 = x.growC n ∧ (⟨x.s, x.S + n⟩ : Pu) = x.grow n from ⟨e1.symm, e2.symm⟩)
      clear e1 e2
      go_enter Tryz.func135, Tryz.ntmps135
      go_wp2_with (go_at_call 170; refine (amount_is n hb _).mono ?_; rintro e w' ⟨rfl, rfl⟩)
      go_ret
      exact ⟨ret_int E.out.1, RPu.as (rp_setS ⟨h, Kept.refl _ _⟩ _) E.out.2⟩
    · have e1 : x.growC n = 2 := if_neg (fun g => ht g.2)
      have e2 : x.grow n = x := if_neg (by rw [e1]; decide)
      have E := hide (show 2 = x.growC n ∧ x.grow n = x from ⟨e1.symm, e2⟩)
      clear e1 e2
      go_enter Tryz.func135, Tryz.ntmps135
      go_wp2_with (go_at_call 170; refine (amount_is n hb _).mono ?_; rintro e w' ⟨rfl, rfl⟩)
      go_ret
      exact ⟨ret_int E.out.1, rp_stay h E.out.2⟩
  · have e1 : x.growC n = 2 := if_neg (fun g => hb g.1)
    have e2 : x.grow n = x := if_neg (by rw [e1]; decide)
    have E := hide (show 2 = x.growC n ∧ x.grow n = x from ⟨e1.symm, e2⟩)
    clear e1 e2
    go_enter Tryz.func135, Tryz.ntmps135
    go_wp2_with (go_at_call 170; refine (amount_not n hb _).mono ?_; rintro e w' ⟨rfl, rfl⟩)
    go_ret
    exact ⟨ret_int E.out.1, rp_stay h E.out.2⟩
set_option maxRecDepth 100000 in
set_option maxHeartbeats 1000000 in
theorem rp_burn (b q : Nat) (x : Pu) (hx : x.Ok) (n : Int) (w : World) (h : RPu w b q x) :
    Calls Tryz.prog 179 #[.pointer (some ⟨b, 0, none⟩), .int .i64 n] w fun e w' => e = .returned (.int .i64 (x.burnC n)) ∧ RPu w' b q (x.burn n) ∧ Kept [b, q] w w' := by
  have c0 := h.c0
  have c1 := h.c1
  have f1 := h.f1
  have ne := h.ne
  have s0 := hx.sum0
  have a1 := hx.le
  have a2 := hx.top
  by_cases hb : Amt n
  · have n0 := hb.1
    have n1 := hb.2
    by_cases ht : x.S - x.sum < n
    · have e1 : x.burnC n = 6 := by unfold Pu.burnC; rw [if_neg (fun g => g hb), if_pos ht]
      have e2 : x.burn n = x := if_neg (by rw [e1]; decide)
      have E := hide (show 6 = x.burnC n ∧ x.burn n = x from ⟨e1.symm, e2⟩)
      clear e1 e2
      go_enter Tryz.func179, Tryz.ntmps179
      go_wp2_with (go_at_call 170; refine (amount_is n hb _).mono ?_; rintro e w' ⟨rfl, rfl⟩)
      go_quiet (first | (go_at_call 36; exact Calls.quiet_of_same (rp_sum b q x hx _ (h.drewN _))))
      go_wp2
      go_ret
      exact ⟨ret_int E.out.1, RPu.as ⟨h.drewN _, (Kept.refl _ _).drewN _⟩ E.out.2.symm⟩
    · have e1 : x.burnC n = 0 := by unfold Pu.burnC; rw [if_neg (fun g => g hb), if_neg ht]
      have e2 : x.burn n = ⟨x.s, x.S - n⟩ := if_pos e1
      have E := hide (show 0 = x.burnC n ∧ (⟨x.s, x.S - n⟩ : Pu) = x.burn n from ⟨e1.symm, e2.symm⟩)
      clear e1 e2
      go_enter Tryz.func179, Tryz.ntmps179
      go_wp2_with (go_at_call 170; refine (amount_is n hb _).mono ?_; rintro e w' ⟨rfl, rfl⟩)
      go_quiet (first | (go_at_call 36; exact Calls.quiet_of_same (rp_sum b q x hx _ (h.drewN _))))
      go_wp2
      go_ret
      exact ⟨ret_int E.out.1, RPu.as (rp_setS ⟨h.drewN _, (Kept.refl _ _).drewN _⟩ _) E.out.2⟩
  · have e1 : x.burnC n = 2 := if_pos hb
    have e2 : x.burn n = x := if_neg (by rw [e1]; decide)
    have E := hide (show 2 = x.burnC n ∧ x.burn n = x from ⟨e1.symm, e2⟩)
    clear e1 e2
    go_enter Tryz.func179, Tryz.ntmps179
    go_wp2_with (go_at_call 170; refine (amount_not n hb _).mono ?_; rintro e w' ⟨rfl, rfl⟩)
    go_ret
    exact ⟨ret_int E.out.1, rp_stay h E.out.2⟩
set_option maxRecDepth 100000 in
set_option maxHeartbeats 1000000 in
theorem rp_mint (b q : Nat) (x : Pu) (hx : x.Ok) (o n : Int) (w : World) (h : RPu w b q x) :
    Calls Tryz.prog 67 #[.pointer (some ⟨b, 0, none⟩), .int .i64 o, .int .i64 n] w fun e w' => e = .returned (.int .i64 (x.mintC o n)) ∧ RPu w' b q (x.mint o n) ∧ Kept [b, q] w w' := by
  have c0 := h.c0
  have c1 := h.c1
  have f1 := h.f1
  have ne := h.ne
  have s0 := hx.sum0
  have a1 := hx.le
  have a2 := hx.top
  by_cases hb : Own o ∧ Amt n
  · obtain ⟨k, rfl, hk⟩ := rp_own hb.1
    have cs := h.s k hk
    have fs := h.fs k hk
    have p0 := hx.pos k
    have p1 := hx.one k
    have n0 := hb.2.1
    have n1 := hb.2.2
    by_cases ht : x.S + n ≤ 1125899906842624
    · have e1 : x.mintC k n = 0 := if_pos ⟨hb.1, hb.2, ht⟩
      have e2 : x.mint k n = ⟨put x.s k (x.s k + n), x.S + n⟩ := if_pos e1
      have E := hide (show 0 = x.mintC k n ∧ (⟨put x.s k (x.s k + n), x.S + n⟩ : Pu) = x.mint k n from ⟨e1.symm, e2.symm⟩)
      clear e1 e2
      go_enter Tryz.func67, Tryz.ntmps67
      go_wp2_with (go_at_call 121; refine (rp_error_no b k n hb _).mono ?_; rintro e w' ⟨rfl, rfl⟩)
      go_region
      go_wp2
      go_ret
      exact ⟨ret_int E.out.1, RPu.as (rp_setS (rp_drew (rp_setO ⟨h, Kept.refl _ _⟩ k hk _)) _) E.out.2⟩
    · have e1 : x.mintC k n = 2 := if_neg (fun g => ht g.2.2)
      have e2 : x.mint k n = x := if_neg (by rw [e1]; decide)
      have E := hide (show 2 = x.mintC k n ∧ x.mint k n = x from ⟨e1.symm, e2⟩)
      clear e1 e2
      go_enter Tryz.func67, Tryz.ntmps67
      go_wp2_with (go_at_call 121; refine (rp_error_no b k n hb _).mono ?_; rintro e w' ⟨rfl, rfl⟩)
      go_ret
      exact ⟨ret_int E.out.1, rp_stay h E.out.2⟩
  · have e1 : x.mintC o n = 2 := if_neg (fun g => hb ⟨g.1, g.2.1⟩)
    have e2 : x.mint o n = x := if_neg (by rw [e1]; decide)
    have E := hide (show 2 = x.mintC o n ∧ x.mint o n = x from ⟨e1.symm, e2⟩)
    clear e1 e2
    go_enter Tryz.func67, Tryz.ntmps67
    go_wp2_with (go_at_call 121; refine (rp_error_yes b o n hb _).mono ?_; rintro e w' ⟨rfl, rfl⟩)
    go_ret
    exact ⟨ret_int E.out.1, rp_stay h E.out.2⟩
set_option maxRecDepth 100000 in
set_option maxHeartbeats 1000000 in
theorem rp_out (b q : Nat) (x : Pu) (hx : x.Ok) (o n : Int) (w : World) (h : RPu w b q x) :
    Calls Tryz.prog 69 #[.pointer (some ⟨b, 0, none⟩), .int .i64 o, .int .i64 n] w fun e w' => e = .returned (.int .i64 (x.outC o n)) ∧ RPu w' b q (x.out o n) ∧ Kept [b, q] w w' := by
  have c0 := h.c0
  have c1 := h.c1
  have f1 := h.f1
  have ne := h.ne
  have s0 := hx.sum0
  have a1 := hx.le
  have a2 := hx.top
  by_cases hb : Own o ∧ Amt n
  · obtain ⟨k, rfl, hk⟩ := rp_own hb.1
    have cs := h.s k hk
    have fs := h.fs k hk
    have p0 := hx.pos k
    have p1 := hx.one k
    have n0 := hb.2.1
    have n1 := hb.2.2
    by_cases ht : x.s k < n
    · have e1 : x.outC k n = 6 := by unfold Pu.outC; rw [if_neg (fun g => g hb), if_pos ht]
      have e2 : x.out k n = x := if_neg (by rw [e1]; decide)
      have E := hide (show 6 = x.outC k n ∧ x.out k n = x from ⟨e1.symm, e2⟩)
      clear e1 e2
      go_enter Tryz.func69, Tryz.ntmps69
      go_wp2_with (go_at_call 121; refine (rp_error_no b k n hb _).mono ?_; rintro e w' ⟨rfl, rfl⟩)
      go_ret
      exact ⟨ret_int E.out.1, rp_stay h E.out.2⟩
    · have e1 : x.outC k n = 0 := by unfold Pu.outC; rw [if_neg (fun g => g hb), if_neg ht]
      have e2 : x.out k n = ⟨put x.s k (x.s k - n), x.S⟩ := if_pos e1
      have E := hide (show 0 = x.outC k n ∧ (⟨put x.s k (x.s k - n), x.S⟩ : Pu) = x.out k n from ⟨e1.symm, e2.symm⟩)
      clear e1 e2
      go_enter Tryz.func69, Tryz.ntmps69
      go_wp2_with (go_at_call 121; refine (rp_error_no b k n hb _).mono ?_; rintro e w' ⟨rfl, rfl⟩)
      go_region
      go_wp2
      go_ret
      exact ⟨ret_int E.out.1, RPu.as (rp_drew (rp_setO ⟨h, Kept.refl _ _⟩ k hk _)) E.out.2⟩
  · have e1 : x.outC o n = 2 := if_pos hb
    have e2 : x.out o n = x := if_neg (by rw [e1]; decide)
    have E := hide (show 2 = x.outC o n ∧ x.out o n = x from ⟨e1.symm, e2⟩)
    clear e1 e2
    go_enter Tryz.func69, Tryz.ntmps69
    go_wp2_with (go_at_call 121; refine (rp_error_yes b o n hb _).mono ?_; rintro e w' ⟨rfl, rfl⟩)
    go_ret
    exact ⟨ret_int E.out.1, rp_stay h E.out.2⟩
set_option maxRecDepth 100000 in
set_option maxHeartbeats 1000000 in
theorem rp_in (b q : Nat) (x : Pu) (hx : x.Ok) (o n : Int) (w : World) (h : RPu w b q x) :
    Calls Tryz.prog 125 #[.pointer (some ⟨b, 0, none⟩), .int .i64 o, .int .i64 n] w fun e w' => e = .returned (.int .i64 (x.inC o n)) ∧ RPu w' b q (x.in' o n) ∧ Kept [b, q] w w' := by
  have c0 := h.c0
  have c1 := h.c1
  have ne := h.ne
  have s0 := hx.sum0
  have a1 := hx.le
  have a2 := hx.top
  by_cases hb : Own o ∧ Amt n
  · obtain ⟨k, rfl, hk⟩ := rp_own hb.1
    have cs := h.s k hk
    have fs := h.fs k hk
    have p0 := hx.pos k
    have p1 := hx.one k
    have n0 := hb.2.1
    have n1 := hb.2.2
    by_cases ht : x.S - x.sum < n
    · have e1 : x.inC k n = 6 := by unfold Pu.inC; rw [if_neg (fun g => g hb), if_pos ht]
      have e2 : x.in' k n = x := if_neg (by rw [e1]; decide)
      have E := hide (show 6 = x.inC k n ∧ x.in' k n = x from ⟨e1.symm, e2⟩)
      clear e1 e2
      go_enter Tryz.func125, Tryz.ntmps125
      go_wp2_with (go_at_call 121; refine (rp_error_no b k n hb _).mono ?_; rintro e w' ⟨rfl, rfl⟩)
      go_quiet (first | (go_at_call 36; exact Calls.quiet_of_same (rp_sum b q x hx _ (h.drewN _))))
      go_wp2
      go_ret
      exact ⟨ret_int E.out.1, RPu.as ⟨h.drewN _, (Kept.refl _ _).drewN _⟩ E.out.2.symm⟩
    · have e1 : x.inC k n = 0 := by unfold Pu.inC; rw [if_neg (fun g => g hb), if_neg ht]
      have e2 : x.in' k n = ⟨put x.s k (x.s k + n), x.S⟩ := if_pos e1
      have E := hide (show 0 = x.inC k n ∧ (⟨put x.s k (x.s k + n), x.S⟩ : Pu) = x.in' k n from ⟨e1.symm, e2.symm⟩)
      clear e1 e2
      go_enter Tryz.func125, Tryz.ntmps125
      go_wp2_with (go_at_call 121; refine (rp_error_no b k n hb _).mono ?_; rintro e w' ⟨rfl, rfl⟩)
      go_quiet (first | (go_at_call 36; exact Calls.quiet_of_same (rp_sum b q x hx _ (h.drewN _))))
      go_wp2
      go_region
      go_wp2
      go_ret
      exact ⟨ret_int E.out.1, RPu.as (rp_setO ⟨h.drewN _, (Kept.refl _ _).drewN _⟩ k hk _) E.out.2⟩
  · have e1 : x.inC o n = 2 := if_pos hb
    have e2 : x.in' o n = x := if_neg (by rw [e1]; decide)
    have E := hide (show 2 = x.inC o n ∧ x.in' o n = x from ⟨e1.symm, e2⟩)
    clear e1 e2
    go_enter Tryz.func125, Tryz.ntmps125
    go_wp2_with (go_at_call 121; refine (rp_error_yes b o n hb _).mono ?_; rintro e w' ⟨rfl, rfl⟩)
    go_quiet (fail)
    go_wp2
    go_ret
    exact ⟨ret_int E.out.1, RPu.as ⟨h.drewN _, (Kept.refl _ _).drewN _⟩ E.out.2.symm⟩
set_option maxRecDepth 100000 in
set_option maxHeartbeats 2000000 in
theorem rp_move (b q : Nat) (x : Pu) (hx : x.Ok) (o t n : Int) (w : World) (h : RPu w b q x) :
    Calls Tryz.prog 72 #[.pointer (some ⟨b, 0, none⟩), .int .i64 o, .int .i64 t, .int .i64 n] w fun e w' => e = .returned (.int .i64 (x.moveC o t n)) ∧ RPu w' b q (x.move o t n) ∧ Kept [b, q] w w' := by
  have c0 := h.c0
  have ne := h.ne
  have s0 := hx.sum0
  have a1 := hx.le
  have a2 := hx.top
  by_cases hb : Own o ∧ Own t ∧ Amt n
  · obtain ⟨ho, ht, hn⟩ := hb
    have hb : Own o ∧ Own t ∧ Amt n := ⟨ho, ht, hn⟩
    have n0 := hn.1
    have n1 := hn.2
    have E1 := rp_error_no b t n ⟨ht, hn⟩
    have E2 := rp_error_no b o n ⟨ho, hn⟩
    obtain ⟨k, rfl, hk⟩ := rp_own ho
    obtain ⟨j, rfl, hj⟩ := rp_own ht
    have cs := h.s k hk
    have fs := h.fs k hk
    have p0 := hx.pos k
    have p1 := hx.one k
    by_cases hl : x.s k < n
    · have e1 : x.moveC k j n = 6 := by unfold Pu.moveC; rw [if_neg (fun g => g hb), if_pos hl]
      have e2 : x.move k j n = x := if_neg (by rw [e1]; decide)
      have E := hide (show 6 = x.moveC k j n ∧ x.move k j n = x from ⟨e1.symm, e2⟩)
      clear e1 e2 hb ho ht hn
      go_enter Tryz.func72, Tryz.ntmps72
      go_wp2_with fail
      refine (E1 _).mono ?_
      rintro e w' ⟨rfl, rfl⟩
      go_wp2_with fail
      refine (E2 _).mono ?_
      rintro e w' ⟨rfl, rfl⟩
      go_wp2_with fail
      go_ret
      exact ⟨ret_int E.out.1, rp_stay h E.out.2⟩
    · have e1 : x.moveC k j n = 0 := by unfold Pu.moveC; rw [if_neg (fun g => g hb), if_neg hl]
      have e2 : x.move k j n = ⟨put (put x.s k (x.s k - n)) j (put x.s k (x.s k - n) j + n), x.S⟩ := if_pos e1
      have E := hide (show 0 = x.moveC k j n ∧ (⟨put (put x.s k (x.s k - n)) j (put x.s k (x.s k - n) j + n), x.S⟩ : Pu) = x.move k j n from ⟨e1.symm, e2.symm⟩)
      have M1 : ∀ y, RPu y b q x ∧ Kept [b, q] w y → RPu (y.setCell ⟨q, k, none⟩ (.int .i64 (x.s k - n))).drew b q ⟨put x.s k (x.s k - n), x.S⟩ ∧ Kept [b, q] w (y.setCell ⟨q, k, none⟩ (.int .i64 (x.s k - n))).drew := fun y hy => rp_drew (rp_setO hy k hk _)
      have hP : 0 ≤ put x.s k (x.s k - n) j ∧ put x.s k (x.s k - n) j ≤ 1125899906842624 := by
        have := hx.pos j
        have := hx.one j
        unfold put; split <;> omega
      clear e1 e2 hb ho ht hn
      go_enter Tryz.func72, Tryz.ntmps72
      go_wp2_with fail
      refine (E1 _).mono ?_
      rintro e w0 ⟨rfl, rfl⟩
      go_wp2_with fail
      refine (E2 _).mono ?_
      rintro e w0 ⟨rfl, rfl⟩
      have M2 := M1 w0 ⟨h, Kept.refl _ _⟩
      go_wp2_with fail
      go_region
      clear h c0 cs fs M1
      generalize (w0.setCell ⟨q, k, none⟩ (.int .i64 (x.s k - n))).drew = w1 at *
      obtain ⟨h1, hK⟩ := M2
      have c0 := h1.c0
      have cs := h1.s j hj
      have fs := h1.fs j hj
      go_wp2_with fail
      go_region
      go_wp2_with fail
      go_ret
      exact ⟨ret_int E.out.1, RPu.as (rp_drew (rp_setO ⟨h1, hK⟩ j hj _)) E.out.2⟩
  · have e1 : x.moveC o t n = 2 := if_pos hb
    have e2 : x.move o t n = x := if_neg (by rw [e1]; decide)
    have E := hide (show 2 = x.moveC o t n ∧ x.move o t n = x from ⟨e1.symm, e2⟩)
    clear e1 e2
    by_cases ht : Own t ∧ Amt n
    · have E1 := rp_error_no b t n ht
      have E2 := rp_error_yes b o n (fun g => hb ⟨g.1, ht.1, g.2⟩)
      clear hb ht
      go_enter Tryz.func72, Tryz.ntmps72
      go_wp2_with fail
      refine (E1 _).mono ?_
      rintro e w' ⟨rfl, rfl⟩
      go_wp2_with fail
      refine (E2 _).mono ?_
      rintro e w' ⟨rfl, rfl⟩
      go_wp2_with fail
      go_ret
      exact ⟨ret_int E.out.1, rp_stay h E.out.2⟩
    · have E1 := rp_error_yes b t n ht
      clear hb ht
      go_enter Tryz.func72, Tryz.ntmps72
      go_wp2_with fail
      refine (E1 _).mono ?_
      rintro e w' ⟨rfl, rfl⟩
      go_wp2_with fail
      go_ret
      exact ⟨ret_int E.out.1, rp_stay h E.out.2⟩
theorem Tryz.infoIntP : (Tryz.prog.info? 3).map (fun i => (i.zero, i.size, i.bytes)) = some (some (.int .i64 0), 1, 8) := by kernel_rfl
abbrev sixP : Array Value := #[.int .i64 0, .int .i64 0, .int .i64 0, .int .i64 0, .int .i64 0, .int .i64 0]
theorem made_sixP : madeCells #[.int .i64 0] 6 = sixP := by kernel_rfl
theorem make_sixP (w : World) : (Instr.makeSlice 31 (.int .i64 6) (.int .i64 6)).run Tryz.prog w = .ok (.slice (some ⟨w.heap.size, 0, none⟩) 6 6) (w.alloc (.cells sixP 3)) := by
  have h := run_make_row' (P := Tryz.prog) 31 3 (.int .i64 0) 8 Tryz.underlying31 Tryz.infoIntP rfl .i64 .i64 6 (by omega) (by omega) w
  rw [made_sixP] at h
  exact h
theorem sixP_at (i : Nat) (h : i < 6) : sixP[i]? = some (.int .i64 0) := by
  have : i = 0 ∨ i = 1 ∨ i = 2 ∨ i = 3 ∨ i = 4 ∨ i = 5 := by omega
  rcases this with rfl | rfl | rfl | rfl | rfl | rfl <;> rfl
theorem rp_fresh (w : World) (t u : TypeId) : RPu ((w.alloc (.cells sixP t)).alloc (.cells #[.slice (some ⟨w.heap.size, 0, none⟩) 6 6, .int .i64 0] u)) (w.heap.size + 1) w.heap.size none' where
  c0 := cell_new _ _ _ _ _ _ (by simp) rfl
  c1 := cell_new _ _ _ _ _ _ (by simp) rfl
  s := fun i hi => by
    rw [World.cell?_alloc_lt _ _ _ (by simp)]
    exact cell_new _ _ _ _ _ _ rfl (sixP_at i hi)
  f1 := World.frozen?_alloc_at _ _ _ _ (by simp)
  fs := fun i _ => by
    rw [World.frozen?_alloc_past _ _ _ (by simp)]
    exact World.frozen?_alloc_at _ _ _ _ rfl
  ne := by omega
set_option maxRecDepth 100000 in
theorem rp_new (w : World) :
    Calls Tryz.prog 65 #[] w fun e w' => ∃ b q, e = .returned (.pointer (some ⟨b, 0, none⟩)) ∧ w.heap.size ≤ b ∧ w.heap.size ≤ q ∧ RPu w' b q none' ∧ Below w.heap.size w w' := by
  have hm := make_sixP
  go_enter Tryz.func65, Tryz.ntmps65
  go_wp2
  go_ret
  exact ⟨w.heap.size + 1, w.heap.size, rfl, by omega, by omega, rp_fresh w _ _, ((Below.refl _ _).alloc (Nat.le_refl _) _).alloc (by simp) _⟩
end Go.Proofs.YtaihcceobnfmhaaGreatDoor
