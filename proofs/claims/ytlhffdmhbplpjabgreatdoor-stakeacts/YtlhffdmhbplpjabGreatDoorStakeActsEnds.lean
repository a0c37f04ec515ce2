/-
  The law StakeActs, walked, where there is nothing to do.
-/
import Derived.Test.YtlhffdmhbplpjabGreatDoorStakeActsWalkX
import Derived.Test.YtlhffdmhbplpjabGreatDoorStkTwoX
namespace Go.Proofs.YtlhffdmhbplpjabGreatDoor
open Go.RowKit

set_option maxRecDepth 100000 in
set_option maxHeartbeats 1000000 in
theorem stakeActs_none (a : Option Addr) (cap : Nat) (A : Nat → Addr) (w : World) (hL : Laid w A) :
    Calls Tryz.prog 3 #[.slice a 0 cap] w fun e w' => e = .returned (.bool true) ∧ Below w.heap.size w w' := by
  go_enter Tryz.func3, Tryz.ntmps3
  go_wp2_with fail
  refine (staked_of A w hL.stk).mono ?_
  rintro e w1 ⟨rfl, hB1⟩
  go_wp2_with fail
  refine (ps_new _).mono ?_
  rintro e w2 ⟨sb, F2, rfl, _, _, hB2⟩
  have hB2 := hB1.trans (hB2.mono hB1.size)
  clear hB1
  go_wp2_with fail
  refine (rs_new _).mono ?_
  rintro e w3 ⟨rb, G3, rfl, _, _, _, hB3⟩
  have hB3 := hB2.trans (hB3.mono hB2.size)
  clear hB2
  go_wp2_with fail
  go_loopw [6] (fun i w' => i = .int .i64 0 ∧ w' = w3) (fun _ _ => 0)
  case atStart => exact ⟨rfl, rfl⟩
  case round =>
    obtain ⟨rfl, rfl⟩ := hrel
    go_wp2
    go_ret
    exact ⟨rfl, hB3⟩
set_option maxRecDepth 100000 in
theorem stakeActs_many (a : Option Addr) (len cap : Nat) (h : 80 < len) (hm : len ≤ 9223372036854775807) (A : Nat → Addr) (w : World) (hL : Laid w A) :
    Calls Tryz.prog 3 #[.slice a len cap] w fun e w' => e = .returned (.bool true) ∧ Below w.heap.size w w' := by
  go_enter Tryz.func3, Tryz.ntmps3
  go_wp2_with fail
  refine (staked_of A w hL.stk).mono ?_
  rintro e w1 ⟨rfl, hB1⟩
  go_wp2
  go_ret
  exact ⟨rfl, hB1⟩
end Go.Proofs.YtlhffdmhbplpjabGreatDoor
