/-
  For the law PoolFair: the values as they were, in a slice of six; the act's own copy.
-/
import Derived.Test.YtlhffdmhbplpjaaDoorJoined
import Derived.Test.YtlhffdmhbplpjaaDoorRefNew
import Derived.Test.YtlhffdmhbplpjaaDoorActs
namespace Go.Proofs.YtlhffdmhbplpjaaDoor
open Go.RowKit

/-- the first so many owners' values, in six cells -/
def WasTo (w : World) (nw : Nat) (x : St) (j : Nat) : Prop := ∀ i : Nat, i < 6 → w.cell? ⟨nw, i, none⟩ = some (.int .i64 (if i < j then x.val i else 0)) ∧ w.frozen? ⟨nw, i, none⟩ = false
theorem WasTo.at {w : World} {nw : Nat} {x : St} (h : WasTo w nw x 6) (i : Nat) (hi : i < 6) : w.cell? ⟨nw, i, none⟩ = some (.int .i64 (x.val i)) := by
  have := (h i hi).1
  rw [if_pos hi] at this
  exact this
theorem WasTo.kept {w w' : World} {nw : Nat} {x : St} {j : Nat} {X : List Nat} (h : WasTo w nw x j) (hK : Kept X w w') (hn : nw ∉ X) : WasTo w' nw x j := fun i hi =>
  ⟨hK.old (h i hi).1 hn, by rw [hK.frozen (cell_lt (h i hi).1) hn]; exact (h i hi).2⟩
theorem WasTo.step {w : World} {nw : Nat} {x : St} {j : Nat} (h : WasTo w nw x j) (_ : j < 6) : WasTo (w.setCell ⟨nw, j, none⟩ (.int .i64 (x.val j))) nw x (j + 1) := fun i hi => by
  refine ⟨?_, by rw [World.frozen?_setCell]; exact (h i hi).2⟩
  by_cases e : i = j
  · subst e
    rw [World.cell?_setCell_same _ _ _ (h i hi).1, if_pos (by omega)]
  · have ne : (⟨nw, j, none⟩ : Addr) ≠ ⟨nw, i, none⟩ := fun g => e (by cases g; rfl)
    rw [World.cell?_setCell_other _ _ _ _ ne, (h i hi).1]
    by_cases g : i < j
    · rw [if_pos g, if_pos (by omega)]
    · rw [if_neg g, if_neg (by omega)]
theorem was_none (w : World) (x : St) (t : TypeId) : WasTo (w.alloc (.cells six t)) w.heap.size x 0 := fun i hi =>
  ⟨by rw [if_neg (by omega)]; exact cell_new _ _ _ _ _ _ rfl (six_cell i hi), World.frozen?_alloc_at _ _ _ _ rfl⟩

/-- an act's own copy -/
structure ActAt (w : World) (na : Nat) (K : ByteArray) (O N : Int) : Prop where
  s0 : w.cell? ⟨na, 0, none⟩ = some (.string K)
  s1 : w.cell? ⟨na, 1, none⟩ = some (.int .i64 O)
  s2 : w.cell? ⟨na, 2, none⟩ = some (.int .i64 N)
theorem ActAt.kept {w w' : World} {na : Nat} {K : ByteArray} {O N : Int} {X : List Nat} (h : ActAt w na K O N) (hK : Kept X w w') (hn : na ∉ X) : ActAt w' na K O N := ⟨hK.old h.s0 hn, hK.old h.s1 hn, hK.old h.s2 hn⟩
theorem act_new (w : World) (K : ByteArray) (O N : Int) (t : TypeId) : ActAt (w.alloc (.cells #[.string K, .int .i64 O, .int .i64 N] t)) w.heap.size K O N :=
  ⟨cell_new _ _ _ _ _ _ rfl rfl, cell_new _ _ _ _ _ _ rfl rfl, cell_new _ _ _ _ _ _ rfl rfl⟩

/-- the first so many values together -/
def vs (x : St) : Nat → Int
  | 0 => 0
  | k + 1 => vs x k + x.val k
theorem vs_bd {x : St} (h : x.Ok) : ∀ k, k ≤ 6 → 0 ≤ vs x k ∧ vs x k ≤ 1125899906842624 * k
  | 0, _ => ⟨Int.le_refl _, Int.le_refl _⟩
  | k + 1, hk => by
    have ih := vs_bd h k (by omega)
    have v0 := h.val0 k
    have v1 := h.val1 k
    have t1 := h.t1
    show 0 ≤ vs x k + x.val k ∧ vs x k + x.val k ≤ _
    omega
theorem vs_six {x : St} (h : x.Ok) : vs x 6 ≤ x.T := by
  have := h.sum
  simp [vs]
  omega
end Go.Proofs.YtlhffdmhbplpjaaDoor
