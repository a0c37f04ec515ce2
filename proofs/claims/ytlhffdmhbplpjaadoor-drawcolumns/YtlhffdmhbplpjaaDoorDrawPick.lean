/-
  What is picked at a place of a column.
-/
import Derived.Test.YtlhffdmhbplpjaaDoorDrawEnd
namespace Go.Proofs.YtlhffdmhbplpjaaDoor

/-- what a place holds -/
def DS.pick (d : DS) (k : Nat) (at' : Int) : Int := if at' < d.line k then k else d.other k
end Go.Proofs.YtlhffdmhbplpjaaDoor
