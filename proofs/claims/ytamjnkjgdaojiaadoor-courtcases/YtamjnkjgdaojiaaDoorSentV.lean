/-
  A sentinel's value.
-/
import Derived.Test.YtamjnkjgdaojiaaDoorBase
namespace Go.Proofs.YtamjnkjgdaojiaaDoor

/-- a sentinel's value: a pointer to an errors.errorString -/
abbrev sent (a : Addr) : Value := .iface 114 (.pointer (some a))
theorem drew_cell (w : World) (n : Nat) (a : Addr) : (w.drewN n).cell? a = w.cell? a := by simp
end Go.Proofs.YtamjnkjgdaojiaaDoor
