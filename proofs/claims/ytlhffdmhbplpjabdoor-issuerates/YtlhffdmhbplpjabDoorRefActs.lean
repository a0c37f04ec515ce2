/-
  The document's pool (bakehouseref1.Pool) by its contracts: what is done to it.
-/
import Derived.Test.YtlhffdmhbplpjabDoorRefPool
import Derived.BigRegion
namespace Go.Proofs.YtlhffdmhbplpjabDoor
open Go.RowKit

theorem RefAt.setS {w : World} {b q : Nat} {x : St} (h : RefAt w b q x) (k : Nat) (hk : k < 6) (v : Int) : RefAt (w.setCell ⟨q, k, none⟩ (.int .i64 v)) b q (x.set k v x.T) where
  c0 := by rw [World.cell?_setCell_other _ _ _ _ (by simp; intro e; exact absurd e.symm h.ne)]; exact h.c0
  c1 := h.c1.imp fun _ g => by rw [World.cell?_setCell_other _ _ _ _ (by simp; intro e; exact absurd e.symm h.ne)]; exact g
  s := fun i hi => by
    by_cases e : i = k
    · subst e
      rw [World.cell?_setCell_same _ _ _ (h.s i hi), St.set_same]
    · have ne : (⟨q, k, none⟩ : Addr) ≠ ⟨q, i, none⟩ := fun g => e (by cases g; rfl)
      rw [World.cell?_setCell_other _ _ _ _ ne, St.set_other _ _ _ _ _ (by omega)]
      exact h.s i hi
  f0 := by rw [World.frozen?_setCell]; exact h.f0
  fs := fun i hi => by rw [World.frozen?_setCell]; exact h.fs i hi
  ne := h.ne
theorem RefAt.setT {w : World} {b q : Nat} {x : St} (h : RefAt w b q x) (T : Int) : RefAt (w.setCell ⟨b, 0, none⟩ (.int .i64 T)) b q ⟨T, x.s⟩ where
  c0 := World.cell?_setCell_same _ _ _ h.c0
  c1 := h.c1.imp fun _ g => by rw [World.cell?_setCell_other _ _ _ _ (by simp)]; exact g
  s := fun i hi => by rw [World.cell?_setCell_other _ _ _ _ (by simp; intro e; exact absurd e h.ne)]; exact h.s i hi
  f0 := by rw [World.frozen?_setCell]; exact h.f0
  fs := fun i hi => by rw [World.frozen?_setCell]; exact h.fs i hi
  ne := h.ne
theorem RefAt.wrote {w : World} {b q : Nat} {x : St} (h : RefAt w b q x) (k : Nat) (hk : k < 6) (v T : Int) : RefAt ((w.setCell ⟨q, k, none⟩ (.int .i64 v)).setCell ⟨b, 0, none⟩ (.int .i64 T)) b q (x.set k v T) ∧ Kept [b, q] w ((w.setCell ⟨q, k, none⟩ (.int .i64 v)).setCell ⟨b, 0, none⟩ (.int .i64 T)) :=
  ⟨(h.setS k hk v).setT T, ((Kept.refl _ _).setCell (by simp) _).setCell (by simp) _⟩

theorem isAmount_ref (n : Int) (w : World) :
    Calls Tryd.prog 23 #[.int .i64 n] w fun e w' => e = .returned (.bool (decide (0 ≤ n ∧ n ≤ 1125899906842624))) ∧ w' = w := by
  by_cases h0 : 0 ≤ n
  · by_cases h1 : n ≤ 1125899906842624
    · have e : decide (0 ≤ n ∧ n ≤ 1125899906842624) = true := by simp [h0, h1]
      rw [e]
      go_enter Tryd.func23, Tryd.ntmps23
      go_wp2
      go_ret
      exact ⟨rfl, rfl⟩
    · have e : decide (0 ≤ n ∧ n ≤ 1125899906842624) = false := by simp [h0]; omega
      rw [e]
      go_enter Tryd.func23, Tryd.ntmps23
      go_wp2
      go_ret
      exact ⟨rfl, rfl⟩
  · have e : decide (0 ≤ n ∧ n ≤ 1125899906842624) = false := by simp [h0]
    rw [e]
    go_enter Tryd.func23, Tryd.ntmps23
    go_wp2
    go_ret
    exact ⟨rfl, rfl⟩

/-- what an act leaves where it is refused -/
theorem ref_stay {b q : Nat} {x y : St} {w : World} (h : RefAt w b q x) (e : y = x) : RefAt w b q y ∧ Kept [b, q] w w := by
  subst e; exact ⟨h, Kept.refl _ _⟩
theorem RefAt.as {b q : Nat} {x y : St} {w w' : World} (h : RefAt w' b q x ∧ Kept [b, q] w w') (e : y = x) : RefAt w' b q y ∧ Kept [b, q] w w' := by subst e; exact h

theorem slash_cut (T p : Int) : T / 100 * p + T % 100 * p / 100 = T * p / 100 := by
  have e : T * p = T % 100 * p + T / 100 * p * 100 := by
    have h := Int.emod_add_mul_ediv T 100
    have : T % 100 * p + T / 100 * p * 100 = (T % 100 + 100 * (T / 100)) * p := by grind
    rw [this, h]
  rw [e, Int.add_mul_ediv_right _ _ (by omega)]
  omega
theorem slash_bd (T p : Int) (t0 : 0 ≤ T) (t1 : T ≤ 1125899906842624) (p0 : 0 ≤ p) (p1 : p ≤ 100) : 0 ≤ T / 100 * p ∧ T / 100 * p ≤ 1125899906842624 ∧ 0 ≤ T % 100 * p ∧ T % 100 * p ≤ 10000 ∧ 0 ≤ T * p / 100 ∧ T * p / 100 ≤ T := by
  have h0 : 0 ≤ T / 100 := by omega
  have h1 : 0 ≤ T % 100 ∧ T % 100 < 100 := by omega
  have g1 := Int.mul_nonneg h0 p0
  have g2 : T / 100 * p ≤ T / 100 * 100 := Int.mul_le_mul_of_nonneg_left p1 h0
  have g3 := Int.mul_nonneg h1.1 p0
  have g4 : T % 100 * p ≤ T % 100 * 100 := Int.mul_le_mul_of_nonneg_left p1 h1.1
  have g5 := Int.mul_nonneg t0 p0
  have g6 : T * p ≤ T * 100 := Int.mul_le_mul_of_nonneg_left p1 t0
  omega

end Go.Proofs.YtlhffdmhbplpjabDoor
