/-
  The law StakeSums, walked, where there is nothing to do.
-/
import Derived.Test.YtlhffdmhbplpjabDoorStaked
namespace Go.Proofs.YtlhffdmhbplpjabDoor
open Go.RowKit

set_option maxRecDepth 100000 in
set_option maxHeartbeats 1000000 in
theorem stakeSums_none (a : Option Addr) (cap : Nat) (A : Nat → Addr) (w : World) (hL : StkLaid w A) :
    Calls Tryd.prog 5 #[.slice a 0 cap] w fun e w' => e = .returned (.bool true) ∧ Below w.heap.size w w' := by
  go_enter Tryd.func5, Tryd.ntmps5
  go_wp2_with fail
  refine (staked_of A w hL).mono ?_
  rintro e w1 ⟨rfl, hB1⟩
  go_wp2_with fail
  refine (ps_new _).mono ?_
  rintro e w2 ⟨sb, F2, rfl, _, _, hB2⟩
  have hB2 := hB1.trans (hB2.mono hB1.size)
  clear hB1
  go_wp2_with fail
  go_loopw [5, 6] (fun _ i w' => i = .int .i64 0 ∧ w' = w2) (fun _ _ _ => 0)
  case atStart => exact ⟨rfl, rfl⟩
  case round =>
    obtain ⟨rfl, rfl⟩ := hrel
    go_wp2
    go_ret
    exact ⟨rfl, hB2⟩
set_option maxRecDepth 100000 in
theorem stakeSums_many (a : Option Addr) (len cap : Nat) (h : 80 < len) (hm : len ≤ 9223372036854775807) (A : Nat → Addr) (w : World) (hL : StkLaid w A) :
    Calls Tryd.prog 5 #[.slice a len cap] w fun e w' => e = .returned (.bool true) ∧ Below w.heap.size w w' := by
  go_enter Tryd.func5, Tryd.ntmps5
  go_wp2_with fail
  refine (staked_of A w hL).mono ?_
  rintro e w1 ⟨rfl, hB1⟩
  go_wp2
  go_ret
  exact ⟨rfl, hB1⟩
end Go.Proofs.YtlhffdmhbplpjabDoor
