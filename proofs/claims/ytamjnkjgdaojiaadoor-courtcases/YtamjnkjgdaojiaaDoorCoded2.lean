/-
  The second package of laws: an error by its number.
-/
import Derived.Test.YtamjnkjgdaojiaaDoorErrTells
namespace Go.Proofs.YtamjnkjgdaojiaaDoor
open Go.RowKit

set_option maxHeartbeats 400000 in
theorem coded2_of {w : World} {x : Value} {c : Int} (h : Tells w x c (-1)) : Calls Tryd.prog 31 #[x, .int .i64 c] w fun e w' => e = .returned (.bool true) ∧ Below w.heap.size w w' := by
  have H := hide (h w (Below.refl _ _))
  clear h
  go_enter Tryd.func31, Tryd.ntmps31
  go_wp2_with fail
  refine H.out.mono ?_
  rintro e w' ⟨rfl, hB⟩
  go_wp2
  go_ret
  exact ⟨rfl, hB⟩
end Go.Proofs.YtamjnkjgdaojiaaDoor
