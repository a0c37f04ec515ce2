/-
  A sentinel's value.
-/
import Derived.Test.YteomcomehkbhkabDoorBase
namespace Go.Proofs.YteomcomehkbhkabDoor

/-- a sentinel's value: a pointer to an errors.errorString -/
abbrev sent (a : Addr) : Value := .iface 181 (.pointer (some a))
theorem drew_cell (w : World) (n : Nat) (a : Addr) : (w.drewN n).cell? a = w.cell? a := by simp
end Go.Proofs.YteomcomehkbhkabDoor
