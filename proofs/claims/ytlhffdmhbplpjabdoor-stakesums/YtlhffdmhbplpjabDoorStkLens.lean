/-
  Stakes, plainly: how many pools wait.
-/
import Derived.Test.YtlhffdmhbplpjabDoorStakeMath
namespace Go.Proofs.YtlhffdmhbplpjabDoor

theorem reg_len (S : Sk) (b : Int) : (S.reg b).K.length ≤ S.K.length + 1 := by unfold Sk.reg; split <;> exact Nat.le_succ _
theorem join_len (S : Sk) (o b n : Int) : (S.join o b n).K.length ≤ S.K.length + 1 := by unfold Sk.join; split <;> exact Nat.le_succ _
theorem leave_len (S : Sk) (o b n c : Int) : (S.leave o b n c).K.length ≤ S.K.length + 1 := by
  unfold Sk.leave
  split
  · exact keyed2_len S.K b c
  · exact Nat.le_succ _
theorem free_len (S : Sk) (o c : Int) : (S.free o c).K.length ≤ S.K.length + 1 := by unfold Sk.free; split <;> exact Nat.le_succ _
theorem add_len (S : Sk) (b n : Int) : (S.add b n).K.length ≤ S.K.length + 1 := by unfold Sk.add; split <;> exact Nat.le_succ _
theorem slash_len (S : Sk) (b f p : Int) : (S.slash b f p).K.length ≤ S.K.length + 1 := by unfold Sk.slash; split <;> exact Nat.le_succ _
end Go.Proofs.YtlhffdmhbplpjabDoor
