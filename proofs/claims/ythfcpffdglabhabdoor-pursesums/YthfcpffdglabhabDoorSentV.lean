/-
  A sentinel's value.
-/
import Derived.Test.YthfcpffdglabhabDoorBase
namespace Go.Proofs.YthfcpffdglabhabDoor

/-- a sentinel's value: a pointer to an errors.errorString -/
abbrev sent (a : Addr) : Value := .iface 86 (.pointer (some a))
theorem drew_cell (w : World) (n : Nat) (a : Addr) : (w.drewN n).cell? a = w.cell? a := by simp
end Go.Proofs.YthfcpffdglabhabDoor
