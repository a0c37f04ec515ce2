/-
  An error's value, by its number.
-/
import Derived.Test.YtamjnkjgdaojiaaDoorSentV
namespace Go.Proofs.YtamjnkjgdaojiaaDoor

/-- an error's value, by its number -/
def ErrIs (A : Nat → Addr) (e : Value) (c : Int) : Prop := (c = 0 ∧ e = .nilIface) ∨ ∃ i : Nat, i < 10 ∧ c = i + 1 ∧ e = sent (A i)
end Go.Proofs.YtamjnkjgdaojiaaDoor
