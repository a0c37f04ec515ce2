/-
  What my texts lean on: the program, and the library's walk.
  A sentinel's value.
-/
import Derived.Test.YtileplhjbnmgnabGreatDoorProg
import Derived.WalkKit
import Derived.OwnWalk
import Derived.Outline
import Derived.Deep.QuietTactic
import Derived.BigQuiet
import Derived.Below


namespace Go.Proofs.YtileplhjbnmgnabGreatDoor

/-- a sentinel's value: a pointer to an errors.errorString -/
abbrev sent (a : Addr) : Value := .iface 155 (.pointer (some a))
theorem drew_cell (w : World) (n : Nat) (a : Addr) : (w.drewN n).cell? a = w.cell? a := by simp
end Go.Proofs.YtileplhjbnmgnabGreatDoor
