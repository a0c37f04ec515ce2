/-
  The document's purse (bakehouseref1.Purse) by its contracts: what is done to it.
-/
import Derived.Test.YtamjnkjgdaojiaaDoorRefPurse
import Derived.Deep.OwnRows
namespace Go.Proofs.YtamjnkjgdaojiaaDoor
open Go.RowKit

theorem rp_stay {w : World} {b q : Nat} {x y : Pu} (h : RPu w b q x) (e : y = x) : RPu w b q y ∧ Kept [b, q] w w := by rw [e]; exact ⟨h, Kept.refl _ _⟩
theorem rp_drew {b q : Nat} {x : Pu} {w w' : World} (h : RPu w' b q x ∧ Kept [b, q] w w') : RPu w'.drew b q x ∧ Kept [b, q] w w'.drew := ⟨⟨h.1.c0, h.1.c1, h.1.s, h.1.f1, h.1.fs, h.1.ne⟩, h.2.drew⟩
theorem rp_setS {w w0 : World} {b q : Nat} {x : Pu} (h : RPu w b q x ∧ Kept [b, q] w0 w) (v : Int) : RPu (w.setCell ⟨b, 1, none⟩ (.int .i64 v)) b q ⟨x.s, v⟩ ∧ Kept [b, q] w0 (w.setCell ⟨b, 1, none⟩ (.int .i64 v)) := ⟨h.1.setS v, h.2.setCell (by simp) _⟩
theorem rp_setO {w w0 : World} {b q : Nat} {x : Pu} (h : RPu w b q x ∧ Kept [b, q] w0 w) (k : Nat) (hk : k < 6) (v : Int) : RPu (w.setCell ⟨q, k, none⟩ (.int .i64 v)) b q ⟨put x.s k v, x.S⟩ ∧ Kept [b, q] w0 (w.setCell ⟨q, k, none⟩ (.int .i64 v)) := ⟨h.1.setO k hk v, h.2.setCell (by simp) _⟩
theorem rp_own {o : Int} (h : Own o) : ∃ k : Nat, o = k ∧ k < 6 := ⟨o.toNat, by have := h.1; omega, by have := h.2; have := h.1; omega⟩

set_option maxRecDepth 100000 in
set_option maxHeartbeats 1000000 in
theorem rp_grow (b q : Nat) (x : Pu) (hx : x.Ok) (n : Int) (w : World) (h : RPu w b q x) :
    Calls Tryd.prog 24 #[.pointer (some ⟨b, 0, none⟩), .int .i64 n] w fun e w' => e = .returned (.int .i64 (x.growC n)) ∧ RPu w' b q (x.grow n) ∧ Kept [b, q] w w' := by
  have c0 := h.c0
  have c1 := h.c1
  have f1 := h.f1
  have ne := h.ne
  have s0 := hx.sum0
  have a1 := hx.le
  have a2 := hx.top
  by_cases hb : Amt n
  · have n0 := hb.1
    have n1 := hb.2
    by_cases ht : x.S + n ≤ 1125899906842624
    · have e1 : x.growC n = 0 := if_pos ⟨hb, ht⟩
      have e2 : x.grow n = ⟨x.s, x.S + n⟩ := if_pos e1
      have E := hide (show 0 = x.growC n ∧ (⟨x.s, x.S + n⟩ : Pu) = x.grow n from ⟨e1.symm, e2.symm⟩)
      clear e1 e2
      go_enter Tryd.func24, Tryd.ntmps24
      go_wp2_with (go_at_call 17; refine (amount_is n hb _).mono ?_; rintro e w' ⟨rfl, rfl⟩)
      go_ret
      exact ⟨ret_int E.out.1, RPu.as (rp_setS ⟨h, Kept.refl _ _⟩ _) E.out.2⟩
    · have e1 : x.growC n = 2 := if_neg (fun g => ht g.2)
      have e2 : x.grow n = x := if_neg (by rw [e1]; decide)
      have E := hide (show 2 = x.growC n ∧ x.grow n = x from ⟨e1.symm, e2⟩)
      clear e1 e2
      go_enter Tryd.func24, Tryd.ntmps24
      go_wp2_with (go_at_call 17; refine (amount_is n hb _).mono ?_; rintro e w' ⟨rfl, rfl⟩)
      go_ret
      exact ⟨ret_int E.out.1, rp_stay h E.out.2⟩
  · have e1 : x.growC n = 2 := if_neg (fun g => hb g.1)
    have e2 : x.grow n = x := if_neg (by rw [e1]; decide)
    have E := hide (show 2 = x.growC n ∧ x.grow n = x from ⟨e1.symm, e2⟩)
    clear e1 e2
    go_enter Tryd.func24, Tryd.ntmps24
    go_wp2_with (go_at_call 17; refine (amount_not n hb _).mono ?_; rintro e w' ⟨rfl, rfl⟩)
    go_ret
    exact ⟨ret_int E.out.1, rp_stay h E.out.2⟩
set_option maxRecDepth 100000 in
set_option maxHeartbeats 1000000 in
theorem rp_burn (b q : Nat) (x : Pu) (hx : x.Ok) (n : Int) (w : World) (h : RPu w b q x) :
    Calls Tryd.prog 23 #[.pointer (some ⟨b, 0, none⟩), .int .i64 n] w fun e w' => e = .returned (.int .i64 (x.burnC n)) ∧ RPu w' b q (x.burn n) ∧ Kept [b, q] w w' := by
  have c0 := h.c0
  have c1 := h.c1
  have f1 := h.f1
  have ne := h.ne
  have s0 := hx.sum0
  have a1 := hx.le
  have a2 := hx.top
  by_cases hb : Amt n
  · have n0 := hb.1
    have n1 := hb.2
    by_cases ht : x.S - x.sum < n
    · have e1 : x.burnC n = 6 := by unfold Pu.burnC; rw [if_neg (fun g => g hb), if_pos ht]
      have e2 : x.burn n = x := if_neg (by rw [e1]; decide)
      have E := hide (show 6 = x.burnC n ∧ x.burn n = x from ⟨e1.symm, e2⟩)
      clear e1 e2
      go_enter Tryd.func23, Tryd.ntmps23
      go_wp2_with (go_at_call 17; refine (amount_is n hb _).mono ?_; rintro e w' ⟨rfl, rfl⟩)
      go_quiet (first | (go_at_call 26; exact Calls.quiet_of_same (rp_sum b q x hx _ (h.drewN _))))
      go_wp2
      go_ret
      exact ⟨ret_int E.out.1, RPu.as ⟨h.drewN _, (Kept.refl _ _).drewN _⟩ E.out.2.symm⟩
    · have e1 : x.burnC n = 0 := by unfold Pu.burnC; rw [if_neg (fun g => g hb), if_neg ht]
      have e2 : x.burn n = ⟨x.s, x.S - n⟩ := if_pos e1
      have E := hide (show 0 = x.burnC n ∧ (⟨x.s, x.S - n⟩ : Pu) = x.burn n from ⟨e1.symm, e2.symm⟩)
      clear e1 e2
      go_enter Tryd.func23, Tryd.ntmps23
      go_wp2_with (go_at_call 17; refine (amount_is n hb _).mono ?_; rintro e w' ⟨rfl, rfl⟩)
      go_quiet (first | (go_at_call 26; exact Calls.quiet_of_same (rp_sum b q x hx _ (h.drewN _))))
      go_wp2
      go_ret
      exact ⟨ret_int E.out.1, RPu.as (rp_setS ⟨h.drewN _, (Kept.refl _ _).drewN _⟩ _) E.out.2⟩
  · have e1 : x.burnC n = 2 := if_pos hb
    have e2 : x.burn n = x := if_neg (by rw [e1]; decide)
    have E := hide (show 2 = x.burnC n ∧ x.burn n = x from ⟨e1.symm, e2⟩)
    clear e1 e2
    go_enter Tryd.func23, Tryd.ntmps23
    go_wp2_with (go_at_call 17; refine (amount_not n hb _).mono ?_; rintro e w' ⟨rfl, rfl⟩)
    go_ret
    exact ⟨ret_int E.out.1, rp_stay h E.out.2⟩
set_option maxRecDepth 100000 in
set_option maxHeartbeats 1000000 in
theorem rp_mint (b q : Nat) (x : Pu) (hx : x.Ok) (o n : Int) (w : World) (h : RPu w b q x) :
    Calls Tryd.prog 20 #[.pointer (some ⟨b, 0, none⟩), .int .i64 o, .int .i64 n] w fun e w' => e = .returned (.int .i64 (x.mintC o n)) ∧ RPu w' b q (x.mint o n) ∧ Kept [b, q] w w' := by
  have c0 := h.c0
  have c1 := h.c1
  have f1 := h.f1
  have ne := h.ne
  have s0 := hx.sum0
  have a1 := hx.le
  have a2 := hx.top
  by_cases hb : Own o ∧ Amt n
  · obtain ⟨k, rfl, hk⟩ := rp_own hb.1
    have cs := h.s k hk
    have fs := h.fs k hk
    have p0 := hx.pos k
    have p1 := hx.one k
    have n0 := hb.2.1
    have n1 := hb.2.2
    by_cases ht : x.S + n ≤ 1125899906842624
    · have e1 : x.mintC k n = 0 := if_pos ⟨hb.1, hb.2, ht⟩
      have e2 : x.mint k n = ⟨put x.s k (x.s k + n), x.S + n⟩ := if_pos e1
      have E := hide (show 0 = x.mintC k n ∧ (⟨put x.s k (x.s k + n), x.S + n⟩ : Pu) = x.mint k n from ⟨e1.symm, e2.symm⟩)
      clear e1 e2
      go_enter Tryd.func20, Tryd.ntmps20
      go_wp2_with (go_at_call 40; refine (rp_error_no b k n hb _).mono ?_; rintro e w' ⟨rfl, rfl⟩)
      go_region
      go_wp2
      go_ret
      exact ⟨ret_int E.out.1, RPu.as (rp_setS (rp_drew (rp_setO ⟨h, Kept.refl _ _⟩ k hk _)) _) E.out.2⟩
    · have e1 : x.mintC k n = 2 := if_neg (fun g => ht g.2.2)
      have e2 : x.mint k n = x := if_neg (by rw [e1]; decide)
      have E := hide (show 2 = x.mintC k n ∧ x.mint k n = x from ⟨e1.symm, e2⟩)
      clear e1 e2
      go_enter Tryd.func20, Tryd.ntmps20
      go_wp2_with (go_at_call 40; refine (rp_error_no b k n hb _).mono ?_; rintro e w' ⟨rfl, rfl⟩)
      go_ret
      exact ⟨ret_int E.out.1, rp_stay h E.out.2⟩
  · have e1 : x.mintC o n = 2 := if_neg (fun g => hb ⟨g.1, g.2.1⟩)
    have e2 : x.mint o n = x := if_neg (by rw [e1]; decide)
    have E := hide (show 2 = x.mintC o n ∧ x.mint o n = x from ⟨e1.symm, e2⟩)
    clear e1 e2
    go_enter Tryd.func20, Tryd.ntmps20
    go_wp2_with (go_at_call 40; refine (rp_error_yes b o n hb _).mono ?_; rintro e w' ⟨rfl, rfl⟩)
    go_ret
    exact ⟨ret_int E.out.1, rp_stay h E.out.2⟩
set_option maxRecDepth 100000 in
set_option maxHeartbeats 1000000 in
theorem rp_out (b q : Nat) (x : Pu) (hx : x.Ok) (o n : Int) (w : World) (h : RPu w b q x) :
    Calls Tryd.prog 21 #[.pointer (some ⟨b, 0, none⟩), .int .i64 o, .int .i64 n] w fun e w' => e = .returned (.int .i64 (x.outC o n)) ∧ RPu w' b q (x.out o n) ∧ Kept [b, q] w w' := by
  have c0 := h.c0
  have c1 := h.c1
  have f1 := h.f1
  have ne := h.ne
  have s0 := hx.sum0
  have a1 := hx.le
  have a2 := hx.top
  by_cases hb : Own o ∧ Amt n
  · obtain ⟨k, rfl, hk⟩ := rp_own hb.1
    have cs := h.s k hk
    have fs := h.fs k hk
    have p0 := hx.pos k
    have p1 := hx.one k
    have n0 := hb.2.1
    have n1 := hb.2.2
    by_cases ht : x.s k < n
    · have e1 : x.outC k n = 6 := by unfold Pu.outC; rw [if_neg (fun g => g hb), if_pos ht]
      have e2 : x.out k n = x := if_neg (by rw [e1]; decide)
      have E := hide (show 6 = x.outC k n ∧ x.out k n = x from ⟨e1.symm, e2⟩)
      clear e1 e2
      go_enter Tryd.func21, Tryd.ntmps21
      go_wp2_with (go_at_call 40; refine (rp_error_no b k n hb _).mono ?_; rintro e w' ⟨rfl, rfl⟩)
      go_ret
      exact ⟨ret_int E.out.1, rp_stay h E.out.2⟩
    · have e1 : x.outC k n = 0 := by unfold Pu.outC; rw [if_neg (fun g => g hb), if_neg ht]
      have e2 : x.out k n = ⟨put x.s k (x.s k - n), x.S⟩ := if_pos e1
      have E := hide (show 0 = x.outC k n ∧ (⟨put x.s k (x.s k - n), x.S⟩ : Pu) = x.out k n from ⟨e1.symm, e2.symm⟩)
      clear e1 e2
      go_enter Tryd.func21, Tryd.ntmps21
      go_wp2_with (go_at_call 40; refine (rp_error_no b k n hb _).mono ?_; rintro e w' ⟨rfl, rfl⟩)
      go_region
      go_wp2
      go_ret
      exact ⟨ret_int E.out.1, RPu.as (rp_drew (rp_setO ⟨h, Kept.refl _ _⟩ k hk _)) E.out.2⟩
  · have e1 : x.outC o n = 2 := if_pos hb
    have e2 : x.out o n = x := if_neg (by rw [e1]; decide)
    have E := hide (show 2 = x.outC o n ∧ x.out o n = x from ⟨e1.symm, e2⟩)
    clear e1 e2
    go_enter Tryd.func21, Tryd.ntmps21
    go_wp2_with (go_at_call 40; refine (rp_error_yes b o n hb _).mono ?_; rintro e w' ⟨rfl, rfl⟩)
    go_ret
    exact ⟨ret_int E.out.1, rp_stay h E.out.2⟩
set_option maxRecDepth 100000 in
set_option maxHeartbeats 1000000 in
theorem rp_in (b q : Nat) (x : Pu) (hx : x.Ok) (o n : Int) (w : World) (h : RPu w b q x) :
    Calls Tryd.prog 22 #[.pointer (some ⟨b, 0, none⟩), .int .i64 o, .int .i64 n] w fun e w' => e = .returned (.int .i64 (x.inC o n)) ∧ RPu w' b q (x.in' o n) ∧ Kept [b, q] w w' := by
  have c0 := h.c0
  have c1 := h.c1
  have ne := h.ne
  have s0 := hx.sum0
  have a1 := hx.le
  have a2 := hx.top
  by_cases hb : Own o ∧ Amt n
  · obtain ⟨k, rfl, hk⟩ := rp_own hb.1
    have cs := h.s k hk
    have fs := h.fs k hk
    have p0 := hx.pos k
    have p1 := hx.one k
    have n0 := hb.2.1
    have n1 := hb.2.2
    by_cases ht : x.S - x.sum < n
    · have e1 : x.inC k n = 6 := by unfold Pu.inC; rw [if_neg (fun g => g hb), if_pos ht]
      have e2 : x.in' k n = x := if_neg (by rw [e1]; decide)
      have E := hide (show 6 = x.inC k n ∧ x.in' k n = x from ⟨e1.symm, e2⟩)
      clear e1 e2
      go_enter Tryd.func22, Tryd.ntmps22
      go_wp2_with (go_at_call 40; refine (rp_error_no b k n hb _).mono ?_; rintro e w' ⟨rfl, rfl⟩)
      go_quiet (first | (go_at_call 26; exact Calls.quiet_of_same (rp_sum b q x hx _ (h.drewN _))))
      go_wp2
      go_ret
      exact ⟨ret_int E.out.1, RPu.as ⟨h.drewN _, (Kept.refl _ _).drewN _⟩ E.out.2.symm⟩
    · have e1 : x.inC k n = 0 := by unfold Pu.inC; rw [if_neg (fun g => g hb), if_neg ht]
      have e2 : x.in' k n = ⟨put x.s k (x.s k + n), x.S⟩ := if_pos e1
      have E := hide (show 0 = x.inC k n ∧ (⟨put x.s k (x.s k + n), x.S⟩ : Pu) = x.in' k n from ⟨e1.symm, e2.symm⟩)
      clear e1 e2
      go_enter Tryd.func22, Tryd.ntmps22
      go_wp2_with (go_at_call 40; refine (rp_error_no b k n hb _).mono ?_; rintro e w' ⟨rfl, rfl⟩)
      go_quiet (first | (go_at_call 26; exact Calls.quiet_of_same (rp_sum b q x hx _ (h.drewN _))))
      go_wp2
      go_region
      go_wp2
      go_ret
      exact ⟨ret_int E.out.1, RPu.as (rp_setO ⟨h.drewN _, (Kept.refl _ _).drewN _⟩ k hk _) E.out.2⟩
  · have e1 : x.inC o n = 2 := if_pos hb
    have e2 : x.in' o n = x := if_neg (by rw [e1]; decide)
    have E := hide (show 2 = x.inC o n ∧ x.in' o n = x from ⟨e1.symm, e2⟩)
    clear e1 e2
    go_enter Tryd.func22, Tryd.ntmps22
    go_wp2_with (go_at_call 40; refine (rp_error_yes b o n hb _).mono ?_; rintro e w' ⟨rfl, rfl⟩)
    go_quiet (fail)
    go_wp2
    go_ret
    exact ⟨ret_int E.out.1, RPu.as ⟨h.drewN _, (Kept.refl _ _).drewN _⟩ E.out.2.symm⟩
set_option maxRecDepth 100000 in
set_option maxHeartbeats 2000000 in
theorem rp_move (b q : Nat) (x : Pu) (hx : x.Ok) (o t n : Int) (w : World) (h : RPu w b q x) :
    Calls Tryd.prog 25 #[.pointer (some ⟨b, 0, none⟩), .int .i64 o, .int .i64 t, .int .i64 n] w fun e w' => e = .returned (.int .i64 (x.moveC o t n)) ∧ RPu w' b q (x.move o t n) ∧ Kept [b, q] w w' := by
  have c0 := h.c0
  have ne := h.ne
  have s0 := hx.sum0
  have a1 := hx.le
  have a2 := hx.top
  by_cases hb : Own o ∧ Own t ∧ Amt n
  · obtain ⟨ho, ht, hn⟩ := hb
    have hb : Own o ∧ Own t ∧ Amt n := ⟨ho, ht, hn⟩
    have n0 := hn.1
    have n1 := hn.2
    have E1 := rp_error_no b t n ⟨ht, hn⟩
    have E2 := rp_error_no b o n ⟨ho, hn⟩
    obtain ⟨k, rfl, hk⟩ := rp_own ho
    obtain ⟨j, rfl, hj⟩ := rp_own ht
    have cs := h.s k hk
    have fs := h.fs k hk
    have p0 := hx.pos k
    have p1 := hx.one k
    by_cases hl : x.s k < n
    · have e1 : x.moveC k j n = 6 := by unfold Pu.moveC; rw [if_neg (fun g => g hb), if_pos hl]
      have e2 : x.move k j n = x := if_neg (by rw [e1]; decide)
      have E := hide (show 6 = x.moveC k j n ∧ x.move k j n = x from ⟨e1.symm, e2⟩)
      clear e1 e2 hb ho ht hn
      go_enter Tryd.func25, Tryd.ntmps25
      go_wp2_with fail
      refine (E1 _).mono ?_
      rintro e w' ⟨rfl, rfl⟩
      go_wp2_with fail
      refine (E2 _).mono ?_
      rintro e w' ⟨rfl, rfl⟩
      go_wp2_with fail
      go_ret
      exact ⟨ret_int E.out.1, rp_stay h E.out.2⟩
    · have e1 : x.moveC k j n = 0 := by unfold Pu.moveC; rw [if_neg (fun g => g hb), if_neg hl]
      have e2 : x.move k j n = ⟨put (put x.s k (x.s k - n)) j (put x.s k (x.s k - n) j + n), x.S⟩ := if_pos e1
      have E := hide (show 0 = x.moveC k j n ∧ (⟨put (put x.s k (x.s k - n)) j (put x.s k (x.s k - n) j + n), x.S⟩ : Pu) = x.move k j n from ⟨e1.symm, e2.symm⟩)
      have M1 : ∀ y, RPu y b q x ∧ Kept [b, q] w y → RPu (y.setCell ⟨q, k, none⟩ (.int .i64 (x.s k - n))).drew b q ⟨put x.s k (x.s k - n), x.S⟩ ∧ Kept [b, q] w (y.setCell ⟨q, k, none⟩ (.int .i64 (x.s k - n))).drew := fun y hy => rp_drew (rp_setO hy k hk _)
      have hP : 0 ≤ put x.s k (x.s k - n) j ∧ put x.s k (x.s k - n) j ≤ 1125899906842624 := by
        have := hx.pos j
        have := hx.one j
        unfold put; split <;> omega
      clear e1 e2 hb ho ht hn
      go_enter Tryd.func25, Tryd.ntmps25
      go_wp2_with fail
      refine (E1 _).mono ?_
      rintro e w0 ⟨rfl, rfl⟩
      go_wp2_with fail
      refine (E2 _).mono ?_
      rintro e w0 ⟨rfl, rfl⟩
      have M2 := M1 w0 ⟨h, Kept.refl _ _⟩
      go_wp2_with fail
      go_region
      clear h c0 cs fs M1
      generalize (w0.setCell ⟨q, k, none⟩ (.int .i64 (x.s k - n))).drew = w1 at *
      obtain ⟨h1, hK⟩ := M2
      have c0 := h1.c0
      have cs := h1.s j hj
      have fs := h1.fs j hj
      go_wp2_with fail
      go_region
      go_wp2_with fail
      go_ret
      exact ⟨ret_int E.out.1, RPu.as (rp_drew (rp_setO ⟨h1, hK⟩ j hj _)) E.out.2⟩
  · have e1 : x.moveC o t n = 2 := if_pos hb
    have e2 : x.move o t n = x := if_neg (by rw [e1]; decide)
    have E := hide (show 2 = x.moveC o t n ∧ x.move o t n = x from ⟨e1.symm, e2⟩)
    clear e1 e2
    by_cases ht : Own t ∧ Amt n
    · have E1 := rp_error_no b t n ht
      have E2 := rp_error_yes b o n (fun g => hb ⟨g.1, ht.1, g.2⟩)
      clear hb ht
      go_enter Tryd.func25, Tryd.ntmps25
      go_wp2_with fail
      refine (E1 _).mono ?_
      rintro e w' ⟨rfl, rfl⟩
      go_wp2_with fail
      refine (E2 _).mono ?_
      rintro e w' ⟨rfl, rfl⟩
      go_wp2_with fail
      go_ret
      exact ⟨ret_int E.out.1, rp_stay h E.out.2⟩
    · have E1 := rp_error_yes b t n ht
      clear hb ht
      go_enter Tryd.func25, Tryd.ntmps25
      go_wp2_with fail
      refine (E1 _).mono ?_
      rintro e w' ⟨rfl, rfl⟩
      go_wp2_with fail
      go_ret
      exact ⟨ret_int E.out.1, rp_stay h E.out.2⟩
theorem Tryd.infoIntP : (Tryd.prog.info? 3).map (fun i => (i.zero, i.size, i.bytes)) = some (some (.int .i64 0), 1, 8) := by kernel_rfl
abbrev sixP : Array Value := #[.int .i64 0, .int .i64 0, .int .i64 0, .int .i64 0, .int .i64 0, .int .i64 0]
theorem made_sixP : madeCells #[.int .i64 0] 6 = sixP := by kernel_rfl
theorem make_sixP (w : World) : (Instr.makeSlice 23 (.int .i64 6) (.int .i64 6)).run Tryd.prog w = .ok (.slice (some ⟨w.heap.size, 0, none⟩) 6 6) (w.alloc (.cells sixP 3)) := by
  have h := run_make_row' (P := Tryd.prog) 23 3 (.int .i64 0) 8 Tryd.underlying23 Tryd.infoIntP rfl .i64 .i64 6 (by omega) (by omega) w
  rw [made_sixP] at h
  exact h
theorem sixP_at (i : Nat) (h : i < 6) : sixP[i]? = some (.int .i64 0) := by
  have : i = 0 ∨ i = 1 ∨ i = 2 ∨ i = 3 ∨ i = 4 ∨ i = 5 := by omega
  rcases this with rfl | rfl | rfl | rfl | rfl | rfl <;> rfl
theorem rp_fresh (w : World) (t u : TypeId) : RPu ((w.alloc (.cells sixP t)).alloc (.cells #[.slice (some ⟨w.heap.size, 0, none⟩) 6 6, .int .i64 0] u)) (w.heap.size + 1) w.heap.size none' where
  c0 := cell_new _ _ _ _ _ _ (by simp) rfl
  c1 := cell_new _ _ _ _ _ _ (by simp) rfl
  s := fun i hi => by
    rw [World.cell?_alloc_lt _ _ _ (by simp)]
    exact cell_new _ _ _ _ _ _ rfl (sixP_at i hi)
  f1 := World.frozen?_alloc_at _ _ _ _ (by simp)
  fs := fun i _ => by
    rw [World.frozen?_alloc_past _ _ _ (by simp)]
    exact World.frozen?_alloc_at _ _ _ _ rfl
  ne := by omega
set_option maxRecDepth 100000 in
theorem rp_new (w : World) :
    Calls Tryd.prog 18 #[] w fun e w' => ∃ b q, e = .returned (.pointer (some ⟨b, 0, none⟩)) ∧ w.heap.size ≤ b ∧ w.heap.size ≤ q ∧ RPu w' b q none' ∧ Below w.heap.size w w' := by
  have hm := make_sixP
  go_enter Tryd.func18, Tryd.ntmps18
  go_wp2
  go_ret
  exact ⟨w.heap.size + 1, w.heap.size, rfl, by omega, by omega, rp_fresh w _ _, ((Below.refl _ _).alloc (Nat.le_refl _) _).alloc (by simp) _⟩
end Go.Proofs.YtamjnkjgdaojiaaDoor
