/-
  What my texts lean on: the program, and the library's walk.
-/
import Derived.Test.YtamjnkjgdaojiaaDoorProg
import Derived.WalkKit
import Derived.OwnWalk
import Derived.Outline
import Derived.Deep.QuietTactic
import Derived.BigQuiet
import Derived.Below
