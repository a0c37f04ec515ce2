/-
  Weights of stakes, plainly.
-/
import Derived.Test.YtileplhjbnmgnabGreatDoorStkA
namespace Go.Proofs.YtileplhjbnmgnabGreatDoor

/-- a weight of what is staked -/
def wtOf (n : Int) : Int := if n < 100 then 0 else if 1073741824 < n then 1073741824 else n
def Sk.pic (S : Sk) (i : Nat) : Int := wtOf (S.P i).T
end Go.Proofs.YtileplhjbnmgnabGreatDoor
