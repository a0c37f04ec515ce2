/-
  The document's purse (bakehouseref1.Purse) by its contracts.
-/
import Derived.Test.YtamjnkjgdaojiaaDoorRefIs
import Derived.Test.YtamjnkjgdaojiaaDoorPurseMath
namespace Go.Proofs.YtamjnkjgdaojiaaDoor
open Go.RowKit

theorem amount_is (n : Int) (h : Amt n) (w : World) : Calls Tryd.prog 17 #[.int .i64 n] w fun e w' => e = .returned (.bool true) ∧ w' = w := by
  obtain ⟨h0, h1⟩ := h
  go_enter Tryd.func17, Tryd.ntmps17
  go_wp2
  go_ret
  exact ⟨rfl, rfl⟩
theorem amount_not (n : Int) (h : ¬ Amt n) (w : World) : Calls Tryd.prog 17 #[.int .i64 n] w fun e w' => e = .returned (.bool false) ∧ w' = w := by
  unfold Amt at h
  by_cases h0 : 0 ≤ n
  · have h1 : ¬ n ≤ 1125899906842624 := by omega
    clear h
    go_enter Tryd.func17, Tryd.ntmps17
    go_wp2
    go_ret
    exact ⟨rfl, rfl⟩
  · clear h
    go_enter Tryd.func17, Tryd.ntmps17
    go_wp2
    go_ret
    exact ⟨rfl, rfl⟩

/-- the document's purse, as it lies in memory -/
structure RPu (w : World) (b q : Nat) (x : Pu) : Prop where
  c0 : w.cell? ⟨b, 0, none⟩ = some (.slice (some ⟨q, 0, none⟩) 6 6)
  c1 : w.cell? ⟨b, 1, none⟩ = some (.int .i64 x.S)
  s : ∀ i : Nat, i < 6 → w.cell? ⟨q, i, none⟩ = some (.int .i64 (x.s i))
  f1 : w.frozen? ⟨b, 1, none⟩ = false
  fs : ∀ i : Nat, i < 6 → w.frozen? ⟨q, i, none⟩ = false
  ne : b ≠ q
theorem RPu.drewN {w : World} {b q : Nat} {x : Pu} (h : RPu w b q x) (n : Nat) : RPu (w.drewN n) b q x := ⟨h.c0, h.c1, h.s, h.f1, h.fs, h.ne⟩
theorem RPu.kept {w w' : World} {b q : Nat} {x : Pu} {X : List Nat} (h : RPu w b q x) (hK : Kept X w w') (hb : b ∉ X) (hq : q ∉ X) : RPu w' b q x where
  c0 := hK.old h.c0 hb
  c1 := hK.old h.c1 hb
  s := fun i hi => hK.old (h.s i hi) hq
  f1 := by rw [hK.frozen (cell_lt h.c1) hb]; exact h.f1
  fs := fun i hi => by rw [hK.frozen (cell_lt (h.s i hi)) hq]; exact h.fs i hi
  ne := h.ne
theorem RPu.lt {w : World} {b q : Nat} {x : Pu} (h : RPu w b q x) : b < w.heap.size ∧ q < w.heap.size := ⟨cell_lt h.c0, cell_lt (h.s 0 (by omega))⟩
/-- an owner's and the supply written -/
theorem RPu.setS {w : World} {b q : Nat} {x : Pu} (h : RPu w b q x) (v : Int) : RPu (w.setCell ⟨b, 1, none⟩ (.int .i64 v)) b q ⟨x.s, v⟩ where
  c0 := by rw [World.cell?_setCell_other _ _ _ _ (by simp)]; exact h.c0
  c1 := World.cell?_setCell_same _ _ _ h.c1
  s := fun i hi => by rw [World.cell?_setCell_other _ _ _ _ (by simp; intro e; exact absurd e h.ne)]; exact h.s i hi
  f1 := by rw [World.frozen?_setCell]; exact h.f1
  fs := fun i hi => by rw [World.frozen?_setCell]; exact h.fs i hi
  ne := h.ne
theorem RPu.setO {w : World} {b q : Nat} {x : Pu} (h : RPu w b q x) (k : Nat) (hk : k < 6) (v : Int) : RPu (w.setCell ⟨q, k, none⟩ (.int .i64 v)) b q ⟨put x.s k v, x.S⟩ where
  c0 := by rw [World.cell?_setCell_other _ _ _ _ (by simp; intro e; exact absurd e.symm h.ne)]; exact h.c0
  c1 := by rw [World.cell?_setCell_other _ _ _ _ (by simp; intro e; exact absurd e.symm h.ne)]; exact h.c1
  s := fun i hi => by
    by_cases e : i = k
    · subst e
      rw [World.cell?_setCell_same _ _ _ (h.s i hi)]
      show _ = some (Value.int .i64 (put x.s i v i))
      rw [put_same]
    · rw [World.cell?_setCell_other _ _ _ _ (by simp; try omega)]
      show _ = some (Value.int .i64 (put x.s k v i))
      rw [put_other _ _ _ _ (by omega)]; exact h.s i hi
  f1 := by rw [World.frozen?_setCell]; exact h.f1
  fs := fun i hi => by rw [World.frozen?_setCell]; exact h.fs i hi
  ne := h.ne
theorem RPu.as {w w' : World} {b q : Nat} {x y : Pu} (h : RPu w' b q x ∧ Kept [b, q] w w') (e : x = y) : RPu w' b q y ∧ Kept [b, q] w w' := by rw [← e]; exact h

/-- the first so many owners' -/
def sumP (x : Pu) : Nat → Int
  | 0 => 0
  | k + 1 => sumP x k + x.s k
theorem sumP_six (x : Pu) : sumP x 6 = x.sum := by simp [sumP, Pu.sum]
theorem sumP_bd {x : Pu} (h : x.Ok) : ∀ k, k ≤ 6 → 0 ≤ sumP x k ∧ sumP x k ≤ x.sum
  | 0, _ => ⟨Int.le_refl _, h.sum0⟩
  | k + 1, hk => by
    have h0 := h.pos 0
    have h1 := h.pos 1
    have h2 := h.pos 2
    have h3 := h.pos 3
    have h4 := h.pos 4
    have h5 := h.pos 5
    have : k = 0 ∨ k = 1 ∨ k = 2 ∨ k = 3 ∨ k = 4 ∨ k = 5 := by omega
    rcases this with rfl | rfl | rfl | rfl | rfl | rfl <;> (simp [sumP, Pu.sum]; omega)
set_option maxRecDepth 100000 in
set_option maxHeartbeats 1000000 in
theorem rp_sum (b q : Nat) (x : Pu) (hx : x.Ok) (w : World) (h : RPu w b q x) :
    Calls Tryd.prog 26 #[.pointer (some ⟨b, 0, none⟩)] w fun e w' => e = .returned (.int .i64 x.sum) ∧ w' = w := by
  have c0 := h.c0
  have a1 := hx.le
  have a2 := hx.top
  go_enter Tryd.func26, Tryd.ntmps26
  go_wp2
  go_loop [3, 4] (fun n i => ∃ k : Nat, k ≤ 6 ∧ i = .int .i64 k ∧ n = .int .i64 (sumP x k)) (fun _ i => 6 - (intOf i).toNat)
  case atStart => exact ⟨0, by omega, rfl, rfl⟩
  case round =>
    obtain ⟨k, hk, rfl, rfl⟩ := hrel
    by_cases hlt : k < 6
    · have cs := h.s k hlt
      have hp := sumP_bd hx k (by omega)
      have hq := sumP_bd hx (k + 1) (by omega)
      have he : sumP x (k + 1) = sumP x k + x.s k := rfl
      rw [he] at hq
      clear he
      go_wp2
      go_round
      case rel => exact ⟨k + 1, by omega, by go_num, rfl⟩
      case measure => simp [intOf]; omega
    · obtain rfl : k = 6 := by omega
      have he := hide (sumP_six x)
      go_wp2
      go_ret
      exact ⟨ret_int he.out, rfl⟩
theorem rp_error_no (b : Nat) (o n : Int) (h : Own o ∧ Amt n) (w : World) :
    Calls Tryd.prog 40 #[.pointer (some ⟨b, 0, none⟩), .int .i64 o, .int .i64 n] w fun e w' => e = .returned (.int .i64 0) ∧ w' = w := by
  have I := isOwner_yes o h.1.1 h.1.2
  have J := amount_is n h.2
  clear h
  go_enter Tryd.func40, Tryd.ntmps40
  go_wp2_with (first | (go_at_call 44; refine (I _).mono ?_; rintro e w' ⟨rfl, rfl⟩) | (go_at_call 17; refine (J _).mono ?_; rintro e w' ⟨rfl, rfl⟩))
  go_ret
  exact ⟨rfl, rfl⟩
theorem rp_error_yes (b : Nat) (o n : Int) (h : ¬ (Own o ∧ Amt n)) (w : World) :
    Calls Tryd.prog 40 #[.pointer (some ⟨b, 0, none⟩), .int .i64 o, .int .i64 n] w fun e w' => e = .returned (.int .i64 2) ∧ w' = w := by
  by_cases ho : Own o
  · have I := isOwner_yes o ho.1 ho.2
    have J := amount_not n (fun g => h ⟨ho, g⟩)
    clear h ho
    go_enter Tryd.func40, Tryd.ntmps40
    go_wp2_with (first | (go_at_call 44; refine (I _).mono ?_; rintro e w' ⟨rfl, rfl⟩) | (go_at_call 17; refine (J _).mono ?_; rintro e w' ⟨rfl, rfl⟩))
    go_ret
    exact ⟨rfl, rfl⟩
  · have I := isOwner_no o ho
    clear h ho
    go_enter Tryd.func40, Tryd.ntmps40
    go_wp2_with (first | (go_at_call 44; refine (I _).mono ?_; rintro e w' ⟨rfl, rfl⟩))
    go_ret
    exact ⟨rfl, rfl⟩
end Go.Proofs.YtamjnkjgdaojiaaDoor
