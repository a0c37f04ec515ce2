/-
  The closed fact of the laws on pools: a pool of ten for ten shares, ten added: who joins with ten gets five shares.
-/
import Derived.Test.YtlhffdmhbplpjaaDoorProgActs
import Derived.Test.YtlhffdmhbplpjaaDoorAloneMath
import Derived.Test.YtlhffdmhbplpjaaDoorErrNil
namespace Go.Proofs.YtlhffdmhbplpjaaDoor
open Go.RowKit

/-- an empty pool -/
abbrev st0 : St := ⟨0, fun _ => 0⟩

set_option maxRecDepth 100000 in
set_option maxHeartbeats 1000000 in
theorem joined_yes (A : Nat → Addr) (sh : Bool) (w : World) (hL : PoolLaid w A sh) :
    Calls Tryd.prog 29 #[] w fun e w' => e = .returned (.bool true) ∧ Below w.heap.size w w' := by
  have o1 := st0_ok.join 0 10
  have o2 := o1.add 10
  have o3 := o2.join 1 10
  have k1 : st0.joinC 0 10 = 0 := by decide
  have k2 : (st0.join 0 10).addC 10 = 0 := by decide
  have k3 : ((st0.join 0 10).add 10).joinC 1 10 = 0 := by decide
  have k4 : (((st0.join 0 10).add 10).join 1 10).s 1 = 5 := by decide
  have k5 : (((st0.join 0 10).add 10).join 1 10).val 0 = 20 := by decide
  obtain ⟨x1, e1⟩ : ∃ x1, x1 = st0.join 0 10 := ⟨_, rfl⟩
  rw [← e1] at o1 o2 o3 k2 k3 k4 k5
  obtain ⟨x2, e2⟩ : ∃ x2, x2 = x1.add 10 := ⟨_, rfl⟩
  rw [← e2] at o2 o3 k3 k4 k5
  obtain ⟨x3, e3⟩ : ∃ x3, x3 = x2.join 1 10 := ⟨_, rfl⟩
  rw [← e3] at o3 k4 k5
  have K1 := hide k1
  have K2 := hide k2
  have K3 := hide k3
  have K4 := hide k4
  have K5 := hide k5
  have E1 := hide e1
  have E2 := hide e2
  have E3 := hide e3
  clear k1 k2 k3 k4 k5 e1 e2 e3
  go_enter Tryd.func29, Tryd.ntmps29
  go_wp2_with fail
  refine (prog_new _).mono ?_
  rintro e w1 ⟨b, m, rfl, hb, hm, hP1, hB1⟩
  go_wp2_with fail
  refine (prog_join b m 0 st0 st0_ok 0 10 (by decide) (by omega) A sh w1 (hL.below hB1) hP1).mono ?_
  rintro e w2 ⟨ev, rfl, hE, hP2, hK2⟩
  obtain rfl := hE.nil K1.out
  rw [← E1.out] at hP2
  have hB2 := hB1.trans (hK2.below hB1.size (by simp [hb, hm]))
  clear hE hP1 hB1 hK2 K1 E1
  go_wp2_with fail
  refine (prog_add b m _ x1 o1 10 A sh w2 (hL.below hB2) hP2).mono ?_
  rintro e w3 ⟨ev, rfl, hE, hP3, hK3⟩
  obtain rfl := hE.nil K2.out
  rw [← E2.out] at hP3
  have hB3 := hB2.trans (hK3.below hB2.size (by simp [hb, hm]))
  clear hE hP2 hB2 hK3 K2 E2
  go_wp2_with fail
  refine (prog_join b m _ x2 o2 1 10 (by decide) (by omega) A sh w3 (hL.below hB3) hP3).mono ?_
  rintro e w4 ⟨ev, rfl, hE, hP4, hK4⟩
  obtain rfl := hE.nil K3.out
  rw [← E3.out] at hP4
  have hB4 := hB3.trans (hK4.below hB3.size (by simp [hb, hm]))
  clear hE hP3 hB3 hK4 K3 E3
  go_wp2_with fail
  refine (prog_shares b m _ x3 1 (by decide) w4 hP4).mono ?_
  rintro e w5 ⟨rfl, rfl⟩
  have k4 : (x3.s 1 == 5) = true := by simp [K4.out]
  go_wp2_with fail
  refine (prog_value b m _ x3 o3 0 (by decide) _ hP4).mono ?_
  rintro e w6 ⟨rfl, n, hw⟩
  have hB6 : Below w.heap.size w w6 := by rw [hw]; exact below_drewN hB4 n
  have k5 : (x3.val 0 == 20) = true := by simp [K5.out]
  clear hw hP4 hB4
  go_wp2
  go_ret
  exact ⟨rfl, hB6⟩
end Go.Proofs.YtlhffdmhbplpjaaDoor
