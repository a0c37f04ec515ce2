/-
  What Code tells of an error, by its number.
-/
import Derived.Test.YtamjnkjgdaojiaaDoorCode
import Derived.Test.YtamjnkjgdaojiaaDoorErrIs
namespace Go.Proofs.YtamjnkjgdaojiaaDoor
open Go.RowKit

theorem ErrIs.tells {A : Nat → Addr} {e : Value} {c : Int} (h : ErrIs A e c) {w : World} (hL : Laid w A) : Tells w e c (-1) := by
  rcases h with ⟨rfl, rfl⟩ | ⟨i, hi, rfl, rfl⟩
  · exact tells_nil w
  · exact tells_sent hL i hi
end Go.Proofs.YtamjnkjgdaojiaaDoor
