/-
  The law PoolActs, walked, where there is no act, or more than a hundred.
-/
import Derived.Test.YtlhffdmhbplpjaaDoorJoined
import Derived.Test.YtlhffdmhbplpjaaDoorPoolLaidOf
import Derived.Test.YtlhffdmhbplpjaaDoorRefNew
namespace Go.Proofs.YtlhffdmhbplpjaaDoor
open Go.RowKit

set_option maxRecDepth 100000 in
set_option maxHeartbeats 1000000 in
theorem poolActs_none (a : Option Addr) (cap : Nat) (A : Nat → Addr) (w : World) (hL : Laid w A) :
    Calls Tryd.prog 10 #[.slice a 0 cap] w fun e w' => e = .returned (.bool true) ∧ Below w.heap.size w w' := by
  go_enter Tryd.func10, Tryd.ntmps10
  go_wp2_with fail
  refine (joined_yes A true w hL.pool).mono ?_
  rintro e w1 ⟨rfl, hB1⟩
  go_wp2_with fail
  refine (prog_new _).mono ?_
  rintro e w2 ⟨pb, pm, rfl, hpb, hpm, hP2, hB2'⟩
  have hB2 := hB1.trans (hB2'.mono hB1.size)
  clear hB1 hB2' hpb hpm hP2
  go_wp2_with fail
  refine (ref_new _).mono ?_
  rintro e w3 ⟨rb, rq, rfl, hrb, hrq, _, _, hR3, hB3'⟩
  have hB3 := hB2.trans (hB3'.mono hB2.size)
  clear hB2 hB3' hR3 hrb hrq
  go_wp2_with fail
  go_loopw [6] (fun i w' => i = .int .i64 0 ∧ w' = w3) (fun _ _ => 0)
  case atStart => exact ⟨rfl, rfl⟩
  case round =>
    obtain ⟨rfl, rfl⟩ := hrel
    go_wp2
    go_ret
    exact ⟨rfl, hB3⟩

set_option maxRecDepth 100000 in
theorem poolActs_many (a : Option Addr) (len cap : Nat) (h : 100 < len) (hm : len ≤ 9223372036854775807) (A : Nat → Addr) (w : World) (hL : Laid w A) :
    Calls Tryd.prog 10 #[.slice a len cap] w fun e w' => e = .returned (.bool true) ∧ Below w.heap.size w w' := by
  go_enter Tryd.func10, Tryd.ntmps10
  go_wp2_with fail
  refine (joined_yes A true w hL.pool).mono ?_
  rintro e w1 ⟨rfl, hB1⟩
  go_wp2
  go_ret
  exact ⟨rfl, hB1⟩
end Go.Proofs.YtlhffdmhbplpjaaDoor
