/-
  The law's own look at an error with its place.
-/
import Derived.Test.YtlhffdmhbplpjaaDoorCode
namespace Go.Proofs.YtlhffdmhbplpjaaDoor
open Go.RowKit

set_option maxHeartbeats 400000 in
theorem faulted_of {w : World} {x : Value} {c p : Int} (h : Tells w x c p) : Calls Tryd.prog 23 #[x, .agg #[.int .i64 c, .int .i64 p]] w fun e w' => e = .returned (.bool true) ∧ Below w.heap.size w w' := by
  have H := hide (h (w.alloc (.cells #[.int .i64 c, .int .i64 p] 41)) ((Below.refl _ _).alloc (Nat.le_refl _) _))
  clear h
  go_enter Tryd.func23, Tryd.ntmps23
  go_wp2_with fail
  refine H.out.mono ?_
  rintro e w' ⟨rfl, hB0⟩
  have hB : Below w.heap.size w w' := ((Below.refl _ _).alloc (Nat.le_refl _) _).trans (hB0.mono (by simp))
  have c0 : w'.cell? ⟨w.heap.size, 0, none⟩ = some (.int .i64 c) := by rw [hB0.cell (p := ⟨w.heap.size, 0, none⟩) (by simp)]; simp
  have c1 : w'.cell? ⟨w.heap.size, 1, none⟩ = some (.int .i64 p) := by rw [hB0.cell (p := ⟨w.heap.size, 1, none⟩) (by simp)]; simp
  clear hB0
  by_cases hc : c = 0
  · subst hc
    go_wp2
    go_ret
    exact ⟨rfl, hB⟩
  · have t0 : (c == 0) = false := by simp; exact hc
    clear hc
    go_wp2
    go_ret
    exact ⟨rfl, hB⟩
/-- the same where no error is told: the place is not asked for -/
theorem faulted_nil (w : World) (p : Int) : Calls Tryd.prog 23 #[.nilIface, .agg #[.int .i64 0, .int .i64 p]] w fun e w' => e = .returned (.bool true) ∧ Below w.heap.size w w' := by
  go_enter Tryd.func23, Tryd.ntmps23
  go_wp2_with (go_at_call 15; refine (code_nil _).mono ?_; rintro e w' ⟨rfl, rfl⟩)
  go_ret
  exact ⟨rfl, (Below.refl _ _).alloc (Nat.le_refl _) _⟩
end Go.Proofs.YtlhffdmhbplpjaaDoor
