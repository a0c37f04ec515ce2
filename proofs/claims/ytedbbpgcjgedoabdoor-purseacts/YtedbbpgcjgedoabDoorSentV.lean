/-
  A sentinel's value.
-/
import Derived.Test.YtedbbpgcjgedoabDoorBase
namespace Go.Proofs.YtedbbpgcjgedoabDoor

/-- a sentinel's value: a pointer to an errors.errorString -/
abbrev sent (a : Addr) : Value := .iface 127 (.pointer (some a))
theorem drew_cell (w : World) (n : Nat) (a : Addr) : (w.drewN n).cell? a = w.cell? a := by simp
end Go.Proofs.YtedbbpgcjgedoabDoor
