/-
  The bend of what is issued: its four points, laid one behind another, and its value.
-/
import Derived.Test.YtaihcceobnfmhaaDoorIssueMathX
import Derived.Test.YtaihcceobnfmhaaDoorBend
namespace Go.Proofs.YtaihcceobnfmhaaDoor
open Go.RowKit

def X4 : Nat → Int | 0 => 0 | 1 => 250000 | 2 => 500000 | _ => 1000000
def Y4 : Nat → Int | 0 => 40000 | 1 => 20000 | 2 => 10000 | _ => 5000
abbrev four4 : Array Value := #[.int .i64 0, .int .i64 40000, .int .i64 250000, .int .i64 20000, .int .i64 500000, .int .i64 10000, .int .i64 1000000, .int .i64 5000]
theorem good4 : ∀ i, i < 4 → Good X4 Y4 i := fun i hi => by
  have : i = 0 ∨ i = 1 ∨ i = 2 ∨ i = 3 := by omega
  rcases this with rfl | rfl | rfl | rfl <;> (unfold Good X4 Y4; simp)
theorem pts4 (w : World) (t : TypeId) : Pts (w.alloc (.cells four4 t)) w.heap.size 0 4 X4 Y4 := fun i hi => by
  have : i = 0 ∨ i = 1 ∨ i = 2 ∨ i = 3 := by omega
  rcases this with rfl | rfl | rfl | rfl <;> exact ⟨cell_new _ _ _ _ _ _ rfl rfl, cell_new _ _ _ _ _ _ rfl rfl⟩
/-- where a ratio lies on it -/
theorem at4 {r : Int} (h0 : 0 ≤ r) (h1 : r ≤ 1000000) : ((∀ j, j < 4 → X4 j ≤ r) ∧ Y4 3 = bendR r) ∨ ∃ i : Nat, i + 1 < 4 ∧ (∀ j, j ≤ i → X4 j ≤ r) ∧ r < X4 (i + 1) ∧ seg (X4 i) (Y4 i) (X4 (i + 1)) (Y4 (i + 1)) r = bendR r := by
  by_cases a : r < 250000
  · refine .inr ⟨0, by omega, fun j hj => ?_, a, ?_⟩
    · obtain rfl : j = 0 := by omega
      exact h0
    · show (40000 : Int) + (20000 - 40000) * (r - 0) / (250000 - 0) = _
      unfold bendR
      rw [if_pos a, Int.sub_zero, Int.sub_zero]
      rfl
  · by_cases b : r < 500000
    · refine .inr ⟨1, by omega, fun j hj => ?_, b, ?_⟩
      · have : j = 0 ∨ j = 1 := by omega
        rcases this with rfl | rfl
        · exact h0
        · show (250000 : Int) ≤ r; omega
      · show (20000 : Int) + (10000 - 20000) * (r - 250000) / (500000 - 250000) = _
        unfold bendR
        rw [if_neg a, if_pos b]
        rfl
    · by_cases c : r < 1000000
      · refine .inr ⟨2, by omega, fun j hj => ?_, c, ?_⟩
        · have : j = 0 ∨ j = 1 ∨ j = 2 := by omega
          rcases this with rfl | rfl | rfl
          · exact h0
          · show (250000 : Int) ≤ r; omega
          · show (500000 : Int) ≤ r; omega
        · show (10000 : Int) + (5000 - 10000) * (r - 500000) / (1000000 - 500000) = _
          unfold bendR
          rw [if_neg a, if_neg b, if_pos c]
          rfl
      · refine .inl ⟨fun j hj => ?_, ?_⟩
        · have : j = 0 ∨ j = 1 ∨ j = 2 ∨ j = 3 := by omega
          rcases this with rfl | rfl | rfl | rfl
          · exact h0
          · show (250000 : Int) ≤ r; omega
          · show (500000 : Int) ≤ r; omega
          · show (1000000 : Int) ≤ r; omega
        · unfold bendR
          rw [if_neg a, if_neg b, if_neg c]
          rfl
end Go.Proofs.YtaihcceobnfmhaaDoor
