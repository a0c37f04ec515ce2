/-
  The third package of laws: an error by its number, and with its place.
-/
import Derived.Test.YtaihcceobnfmhaaGreatDoorErrTellsX
import Derived.Test.YtaihcceobnfmhaaGreatDoorBegunX
namespace Go.Proofs.YtaihcceobnfmhaaGreatDoor
open Go.RowKit

set_option maxHeartbeats 400000 in
theorem coded3_of {w : World} {x : Value} {c : Int} (h : Tells w x c (-1)) : Calls Tryz.prog 14 #[x, .int .i64 c] w fun e w' => e = .returned (.bool true) ∧ Below w.heap.size w w' := by
  have H := hide (h w (Below.refl _ _))
  clear h
  go_enter Tryz.func14, Tryz.ntmps14
  go_wp2_with fail
  refine H.out.mono ?_
  rintro e w' ⟨rfl, hB⟩
  go_wp2
  go_ret
  exact ⟨rfl, hB⟩
theorem Laid.ch {w : World} {A : Nat → Addr} (h : Laid w A) : ChLaid w A := ⟨⟨h.v1, h.v2, h.v3, h.v4, h.v5, h.v6, h.v7, h.v8⟩, h.v9⟩
set_option maxHeartbeats 400000 in
theorem faulted3_of {w : World} {x : Value} {c p : Int} (h : Tells w x c p) : Calls Tryz.prog 79 #[x, .agg #[.int .i64 c, .int .i64 p]] w fun e w' => e = .returned (.bool true) ∧ Below w.heap.size w w' := by
  have H := hide (h (w.alloc (.cells #[.int .i64 c, .int .i64 p] 114)) ((Below.refl _ _).alloc (Nat.le_refl _) _))
  clear h
  go_enter Tryz.func79, Tryz.ntmps79
  go_wp2_with fail
  refine H.out.mono ?_
  rintro e w' ⟨rfl, hB0⟩
  have hB : Below w.heap.size w w' := ((Below.refl _ _).alloc (Nat.le_refl _) _).trans (hB0.mono (by simp))
  have c0 : w'.cell? ⟨w.heap.size, 0, none⟩ = some (.int .i64 c) := by rw [hB0.cell (p := ⟨w.heap.size, 0, none⟩) (by simp)]; simp
  have c1 : w'.cell? ⟨w.heap.size, 1, none⟩ = some (.int .i64 p) := by rw [hB0.cell (p := ⟨w.heap.size, 1, none⟩) (by simp)]; simp
  clear hB0
  by_cases hc : c = 0
  · subst hc
    go_wp2
    go_ret
    exact ⟨rfl, hB⟩
  · have t0 : (c == 0) = false := by simp; exact hc
    clear hc
    go_wp2
    go_ret
    exact ⟨rfl, hB⟩
/-- the same where no error is told: the place is not asked for -/
theorem faulted3_nil (w : World) (p : Int) : Calls Tryz.prog 79 #[.nilIface, .agg #[.int .i64 0, .int .i64 p]] w fun e w' => e = .returned (.bool true) ∧ Below w.heap.size w w' := by
  go_enter Tryz.func79, Tryz.ntmps79
  go_wp2_with (go_at_call 49; refine (code_nil _).mono ?_; rintro e w' ⟨rfl, rfl⟩)
  go_ret
  exact ⟨rfl, (Below.refl _ _).alloc (Nat.le_refl _) _⟩
end Go.Proofs.YtaihcceobnfmhaaGreatDoor
