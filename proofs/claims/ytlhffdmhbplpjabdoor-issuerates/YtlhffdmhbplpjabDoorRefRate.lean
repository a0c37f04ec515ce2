/-
  The document's rate (bakehouseref2.RateOf), by its contract.
-/
import Derived.Test.YtlhffdmhbplpjabDoorBend4
import Derived.Test.YtlhffdmhbplpjabDoorBendOf
import Derived.Test.YtlhffdmhbplpjabDoorKept
namespace Go.Proofs.YtlhffdmhbplpjabDoor
open Go.RowKit

theorem ref_bend4 (r : Int) (h0 : 0 ≤ r) (h1 : r ≤ 1000000) (w : World) (t : TypeId) :
    Calls Tryd.prog 109 #[.slice (some ⟨w.heap.size, 0, none⟩) 4 4, .int .i64 r] (w.alloc (.cells four4 t)) fun e w' => e = .returned (.int .i64 (bendR r)) ∧ Below w.heap.size w w' := by
  have B0 : Below w.heap.size w (w.alloc (.cells four4 t)) := (Below.refl _ _).alloc (Nat.le_refl _) _
  rcases at4 h0 h1 with ⟨hx, e⟩ | ⟨i, hi, hx, hx1, e⟩
  · rw [← e]
    exact (bendOf_last w.heap.size 0 4 4 X4 Y4 r _ (by omega) (by omega) (pts4 w t) hx).mono fun e w' ⟨a, b⟩ => ⟨a, B0.trans (b.mono B0.size)⟩
  · rw [← e]
    exact (bendOf_mid w.heap.size 0 4 4 i X4 Y4 r _ (by simp) (by omega) (pts4 w t) good4 hi hx hx1).mono fun e w' ⟨a, b⟩ => ⟨a, B0.trans (b.mono B0.size)⟩
theorem ref_rate (r b : Int) (h : RateOk r b) (w : World) :
    Calls Tryd.prog 57 #[.int .i64 r, .int .i64 b] w fun e w' => e = .returned (.int .i64 (bendR r + b)) ∧ Below w.heap.size w w' := by
  obtain ⟨⟨r0, r1⟩, b0, b1⟩ := h
  have P := ref_bend4 r r0 r1 w 136
  obtain ⟨c0, c1⟩ := bendR_bd r0 r1
  generalize bendR r = q at *
  go_enter Tryd.func57, Tryd.ntmps57
  go_wp2_with (go_at_call 109; refine P.mono ?_; rintro e w1 ⟨rfl, hB⟩)
  go_ret
  exact ⟨rfl, hB⟩
end Go.Proofs.YtlhffdmhbplpjabDoor
