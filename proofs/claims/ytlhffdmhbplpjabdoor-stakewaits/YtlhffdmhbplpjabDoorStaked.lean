/-
  The closed fact of the laws on stakes: one joins a baker, and leaves with a part.
-/
import Derived.Test.YtlhffdmhbplpjabDoorProgStkActs
import Derived.Test.YtlhffdmhbplpjabDoorErrNil
import Derived.Test.YtlhffdmhbplpjabDoorSides
namespace Go.Proofs.YtlhffdmhbplpjabDoor
open Go.RowKit

set_option maxRecDepth 100000 in
set_option maxHeartbeats 1000000 in
theorem staked_of (A : Nat → Addr) (w : World) (hL : StkLaid w A) :
    Calls Tryd.prog 33 #[] w fun e w' => e = .returned (.bool true) ∧ Below w.heap.size w w' := by
  have o1 := Sk.none_ok.reg 1
  have o2 := o1.join 4 1 10
  have o3 := o2.leave 4 1 3 5
  have k1 : Sk.none.regC 1 = 0 := by decide
  have k2 : (Sk.none.reg 1).joinC 4 1 10 = 0 := by decide
  have k3 : ((Sk.none.reg 1).join 4 1 10).leaveC 4 1 3 5 = 0 := by decide
  have k4 : ((((Sk.none.reg 1).join 4 1 10).leave 4 1 3 5).P 1).T = 7 := by decide
  have k5 : (((Sk.none.reg 1).join 4 1 10).leave 4 1 3 5).total = 10 := by decide
  have k6 : ((((Sk.none.reg 1).join 4 1 10).leave 4 1 3 5).W 1 5).val 4 = 3 := by decide
  have k7 : (((Sk.none.reg 1).join 4 1 10).leave 4 1 3 5).K.length ≤ 900 := by decide
  obtain ⟨x1, e1⟩ : ∃ x1, x1 = Sk.none.reg 1 := ⟨_, rfl⟩
  rw [← e1] at o1 o2 o3 k2 k3 k4 k5 k6 k7
  obtain ⟨x2, e2⟩ : ∃ x2, x2 = x1.join 4 1 10 := ⟨_, rfl⟩
  rw [← e2] at o2 o3 k3 k4 k5 k6 k7
  obtain ⟨x3, e3⟩ : ∃ x3, x3 = x2.leave 4 1 3 5 := ⟨_, rfl⟩
  rw [← e3] at o3 k4 k5 k6 k7
  have K1 := hide k1
  have K2 := hide k2
  have K3 := hide k3
  have K4 := hide k4
  have K5 := hide k5
  have K6 := hide k6
  have E1 := hide e1
  have E2 := hide e2
  have E3 := hide e3
  clear k1 k2 k3 k4 k5 k6 e1 e2 e3
  go_enter Tryd.func33, Tryd.ntmps33
  go_wp2_with fail
  refine (ps_new _).mono ?_
  rintro e w1 ⟨sb, F1, rfl, hP1, hf, hB1⟩
  have hM1 := Mine.new hf hB1
  clear hf hB1
  go_wp2_with fail
  refine (ps_register F1 sb _ Sk.none_ok 0 (by omega) 1 A w1 (hL.below hM1.below) hP1).mono ?_
  rintro e w2 ⟨ev, F2, rfl, hE, hP2, hV⟩
  obtain rfl := hE.nil K1.out
  rw [← E1.out] at hP2
  have hM2 := hM1.next hV
  clear hE hP1 hM1 hV K1 E1
  go_wp2_with fail
  refine (ps_join F2 sb x1 o1 _ (by omega) 4 1 10 (by decide) A w2 (hL.below hM2.below) hP2).mono ?_
  rintro e w3 ⟨ev, F3, rfl, hE, hP3, hV⟩
  obtain rfl := hE.nil K2.out
  rw [← E2.out] at hP3
  have hM3 := hM2.next hV
  clear hE hP2 hM2 hV K2 E2
  go_wp2_with fail
  refine (ps_leave F3 sb x2 o2 _ (by omega) 4 1 3 5 (by decide) (by decide) A w3 (hL.below hM3.below) hP3).mono ?_
  rintro e w4 ⟨ev, F4, rfl, hE, hP4, hV⟩
  obtain rfl := hE.nil K3.out
  rw [← E3.out] at hP4
  have hM4 := hM3.next hV
  clear hE hP3 hM3 hV K3 E3
  go_wp2_with fail
  refine (ps_staked F4 sb x3 o3 _ 1 w4 hP4).mono ?_
  rintro e w5 ⟨rfl, m, hw⟩
  have hP5 : PSk F4 w5 sb x3 (0 + 4 + 4 + 4) := by rw [hw]; exact hP4.keptP (G := fun _ => False) ((KeptP.refl _ _).drewN m) (fun _ g => g.elim)
  have hM5 : Mine w.heap.size w w5 F4 := by rw [hw]; exact hM4.drewN m
  have k4 : ((x3.P 1).T == 7) = true := by simp [K4.out]
  clear hw hP4 hM4
  go_wp2_with fail
  refine (ps_total F4 sb x3 o3 k7 _ w5 hP5).mono ?_
  rintro e w6 ⟨rfl, hB6⟩
  have hP6 := hP5.keptP (KeptP.of_below (F := fun _ => False) hB6) (fun _ g => g.elim)
  have hM6 := hM5.nextB hB6
  have k5 : (x3.total == 10) = true := by simp [K5.out]
  clear hP5 hM5 hB6
  go_wp2_with fail
  refine (ps_waits F4 sb x3 o3 _ 4 1 5 (by decide) (by decide) w6 hP6).mono ?_
  rintro e w7 ⟨rfl, hB7⟩
  have hM7 := hM6.nextB hB7
  have k6 : ((x3.W 1 5).val 4 == 3) = true := by simp [K6.out]
  clear hB7 hP6 hM6
  go_wp2
  go_ret
  exact ⟨rfl, hM7.below⟩
end Go.Proofs.YtlhffdmhbplpjabDoor
