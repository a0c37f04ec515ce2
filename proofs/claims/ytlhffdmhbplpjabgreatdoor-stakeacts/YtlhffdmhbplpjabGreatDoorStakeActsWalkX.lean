/-
  The closed fact of the laws on stakes: one joins a baker, and leaves with a part.
  The law StakeActs, walked: for every slice of acts it returns true.
-/
import Derived.Test.YtlhffdmhbplpjabGreatDoorProgStkActs
import Derived.Test.YtlhffdmhbplpjabGreatDoorProgBkActsX
import Derived.Test.YtlhffdmhbplpjabGreatDoorProgStkX
import Derived.Test.YtlhffdmhbplpjabGreatDoorStkAct
import Derived.Test.YtlhffdmhbplpjabGreatDoorKeptX
namespace Go.Proofs.YtlhffdmhbplpjabGreatDoor
open Go.RowKit

set_option maxRecDepth 100000 in
set_option maxHeartbeats 1000000 in
theorem staked_of (A : Nat → Addr) (w : World) (hL : StkLaid w A) :
    Calls Tryz.prog 5 #[] w fun e w' => e = .returned (.bool true) ∧ Below w.heap.size w w' := by
  have o1 := Sk.none_ok.reg 1
  have o2 := o1.join 4 1 10
  have o3 := o2.leave 4 1 3 5
  have k1 : Sk.none.regC 1 = 0 := by decide
  have k2 : (Sk.none.reg 1).joinC 4 1 10 = 0 := by decide
  have k3 : ((Sk.none.reg 1).join 4 1 10).leaveC 4 1 3 5 = 0 := by decide
  have k4 : ((((Sk.none.reg 1).join 4 1 10).leave 4 1 3 5).P 1).T = 7 := by decide
  have k5 : (((Sk.none.reg 1).join 4 1 10).leave 4 1 3 5).total = 10 := by decide
  have k6 : ((((Sk.none.reg 1).join 4 1 10).leave 4 1 3 5).W 1 5).val 4 = 3 := by decide
  have k7 : (((Sk.none.reg 1).join 4 1 10).leave 4 1 3 5).K.length ≤ 900 := by decide
  obtain ⟨x1, e1⟩ : ∃ x1, x1 = Sk.none.reg 1 := ⟨_, rfl⟩
  rw [← e1] at o1 o2 o3 k2 k3 k4 k5 k6 k7
  obtain ⟨x2, e2⟩ : ∃ x2, x2 = x1.join 4 1 10 := ⟨_, rfl⟩
  rw [← e2] at o2 o3 k3 k4 k5 k6 k7
  obtain ⟨x3, e3⟩ : ∃ x3, x3 = x2.leave 4 1 3 5 := ⟨_, rfl⟩
  rw [← e3] at o3 k4 k5 k6 k7
  have K1 := hide k1
  have K2 := hide k2
  have K3 := hide k3
  have K4 := hide k4
  have K5 := hide k5
  have K6 := hide k6
  have E1 := hide e1
  have E2 := hide e2
  have E3 := hide e3
  clear k1 k2 k3 k4 k5 k6 e1 e2 e3
  go_enter Tryz.func5, Tryz.ntmps5
  go_wp2_with fail
  refine (ps_new _).mono ?_
  rintro e w1 ⟨sb, F1, rfl, hP1, hf, hB1⟩
  have hM1 := Mine.new hf hB1
  clear hf hB1
  go_wp2_with fail
  refine (ps_register F1 sb _ Sk.none_ok 0 (by omega) 1 A w1 (hL.below hM1.below) hP1).mono ?_
  rintro e w2 ⟨ev, F2, rfl, hE, hP2, hV⟩
  obtain rfl := hE.nil K1.out
  rw [← E1.out] at hP2
  have hM2 := hM1.next hV
  clear hE hP1 hM1 hV K1 E1
  go_wp2_with fail
  refine (ps_join F2 sb x1 o1 _ (by omega) 4 1 10 (by decide) A w2 (hL.below hM2.below) hP2).mono ?_
  rintro e w3 ⟨ev, F3, rfl, hE, hP3, hV⟩
  obtain rfl := hE.nil K2.out
  rw [← E2.out] at hP3
  have hM3 := hM2.next hV
  clear hE hP2 hM2 hV K2 E2
  go_wp2_with fail
  refine (ps_leave F3 sb x2 o2 _ (by omega) 4 1 3 5 (by decide) (by decide) A w3 (hL.below hM3.below) hP3).mono ?_
  rintro e w4 ⟨ev, F4, rfl, hE, hP4, hV⟩
  obtain rfl := hE.nil K3.out
  rw [← E3.out] at hP4
  have hM4 := hM3.next hV
  clear hE hP3 hM3 hV K3 E3
  go_wp2_with fail
  refine (ps_staked F4 sb x3 o3 _ 1 w4 hP4).mono ?_
  rintro e w5 ⟨rfl, m, hw⟩
  have hP5 : PSk F4 w5 sb x3 (0 + 4 + 4 + 4) := by rw [hw]; exact hP4.keptP (G := fun _ => False) ((KeptP.refl _ _).drewN m) (fun _ g => g.elim)
  have hM5 : Mine w.heap.size w w5 F4 := by rw [hw]; exact hM4.drewN m
  have k4 : ((x3.P 1).T == 7) = true := by simp [K4.out]
  clear hw hP4 hM4
  go_wp2_with fail
  refine (ps_total F4 sb x3 o3 k7 _ w5 hP5).mono ?_
  rintro e w6 ⟨rfl, hB6⟩
  have hP6 := hP5.keptP (KeptP.of_below (F := fun _ => False) hB6) (fun _ g => g.elim)
  have hM6 := hM5.nextB hB6
  have k5 : (x3.total == 10) = true := by simp [K5.out]
  clear hP5 hM5 hB6
  go_wp2_with fail
  refine (ps_waits F4 sb x3 o3 _ 4 1 5 (by decide) (by decide) w6 hP6).mono ?_
  rintro e w7 ⟨rfl, hB7⟩
  have hM7 := hM6.nextB hB7
  have k6 : ((x3.W 1 5).val 4 == 3) = true := by simp [K6.out]
  clear hB7 hP6 hM6
  go_wp2
  go_ret
  exact ⟨rfl, hM7.below⟩
end Go.Proofs.YtlhffdmhbplpjabGreatDoor

namespace Go.Proofs.YtlhffdmhbplpjabGreatDoor
open Go.RowKit

set_option maxRecDepth 100000 in
set_option maxHeartbeats 4000000 in
theorem stakeActs_walk (b off len cap : Nat) (A : Nat → Addr) (w : World) (hL : Laid w A) (hb : b < w.heap.size) (h1 : 0 < len) (h80 : len ≤ 80) (hA : Acts2 w b off len) :
    Calls Tryz.prog 3 #[.slice (some ⟨b, off, none⟩) len cap] w fun e w' => e = .returned (.bool true) ∧ Below w.heap.size w w' := by
  go_enter Tryz.func3, Tryz.ntmps3
  go_wp2_with fail
  refine (staked_of A w hL.stk).mono ?_
  rintro e w1 ⟨rfl, hB1⟩
  go_wp2_with fail
  refine (ps_new _).mono ?_
  rintro e w2 ⟨sb, F2, rfl, hP2, hf2, hB2⟩
  have M2 : Mine w.heap.size w w2 F2 := ⟨fun k hk => Nat.le_trans hB1.size (hf2 k hk), hB1.trans (hB2.mono hB1.size), Nat.le_trans hB1.size hB2.size⟩
  clear hB1 hB2 hf2
  go_wp2_with fail
  refine (rs_new _).mono ?_
  rintro e w3 ⟨rb, G3, rfl, hR3, hg3, _, hB3⟩
  have hP3 := hP2.nextB hB3
  have hW3 : Sides w.heap.size w w3 F2 G3 := ⟨fun k hk hg => by have := hP2.lt k hk; have := hg3 k hg; omega, M2.f, fun k hk => Nat.le_trans M2.size (hg3 k hk), M2.below.trans (hB3.mono M2.size), Nat.le_trans M2.size hB3.size⟩
  clear hB3 hP2 M2 hg3
  go_wp2_with fail
  go_loopw [6] (fun i w' => ∃ k : Nat, k ≤ len ∧ i = .int .i64 k ∧ Both w.heap.size w w' sb rb (4 * k) k) (fun i _ => len - (intOf i).toNat)
  case atStart => exact ⟨0, Nat.zero_le _, rfl, F2, G3, _, Sk.none_ok, Nat.le_refl _, hP3, hR3, hW3⟩
  case round =>
    obtain ⟨k, hk, rfl, F, G, S, hS, hl, hP, hR, hW⟩ := hrel
    clear hP3 hR3 hW3
    by_cases hlt : k < len
    · obtain ⟨K, O, C, N, Y, a⟩ := hA.below hW.below hb k hlt
      have a0 := a.c0
      have a1 := a.c1
      have a2 := a.c2
      have a3 := a.c3
      have a4 := a.c4
      go_wp2_with fail
      refine (act_of w F G sb rb S hS (4 * k) (by omega) (by omega) K O C N Y a.wO a.wY A wr hL hP hR hW).mono ?_
      rintro e w4 ⟨rfl, F4, G4, S4, hS4, hl4, hP4, hR4, hW4⟩
      have hl5 : S4.K.length ≤ k + 1 := by omega
      clear hP hR hW hS hl hl4 a0 a1 a2 a3 a4 a
      go_wp2_with fail
      refine (ps_total F4 sb S4 hS4 (by omega) _ w4 hP4).mono ?_
      rintro e w5 ⟨rfl, hB5⟩
      have hP5 := hP4.nextB hB5
      have hR5 := hR4.nextB hB5
      have hW5 := hW4.nextB hB5
      clear hP4 hR4 hW4 hB5
      have d1 : (S4.total != S4.total) = false := by simp
      go_wp2_with fail
      refine (rsk_total G4 rb S4 hS4 (by omega) w5 hR5).mono ?_
      rintro e w6 ⟨rfl, rfl⟩
      go_wp2_with fail
      go_loopw [8] (fun i wz => ∃ q : Int, -1 ≤ q ∧ q ≤ 4 ∧ i = .int .i64 q ∧ PSk F4 wz sb S4 (4 * k + 4) ∧ RSk G4 wz rb S4 ∧ Sides w.heap.size w wz F4 G4) (fun i _ => (4 - intOf i).toNat)
      case atStart => exact ⟨-1, by omega, by omega, rfl, hP5, hR5, hW5⟩
      case round =>
        clear hP5 hR5 hW5 d1
        obtain ⟨q, q0, q1, rfl, hP5, hR5, hW5⟩ := hrel
        by_cases hq : q ≤ 3
        · go_wp2_with fail
          refine (ps_is F4 sb S4 hS4 _ q _ hP5).mono ?_
          rintro e w7 ⟨rfl, m, hw⟩
          have hP7 := (by rw [hw]; exact hP5.drewN m : PSk F4 w7 sb S4 (4 * k + 4))
          have hR7 := (by rw [hw]; exact hR5.drewN m : RSk G4 w7 rb S4)
          have hW7 := (by rw [hw]; exact hW5.drewN m : Sides w.heap.size w w7 F4 G4)
          have e1 : (S4.R q != S4.R q) = false := by simp
          have e2 : ((S4.P q).T != (S4.P q).T) = false := by simp
          clear hw hP5 hR5 hW5
          go_wp2_with fail
          refine (rsk_is G4 rb S4 hS4 q _ hR7).mono ?_
          rintro e w8 ⟨rfl, rfl⟩
          go_wp2_with fail
          refine (ps_staked F4 sb S4 hS4 _ q _ hP7).mono ?_
          rintro e w9 ⟨rfl, m, hw⟩
          have hP9 := (by rw [hw]; exact hP7.drewN m : PSk F4 w9 sb S4 (4 * k + 4))
          have hR9 := (by rw [hw]; exact hR7.drewN m : RSk G4 w9 rb S4)
          have hW9 := (by rw [hw]; exact hW7.drewN m : Sides w.heap.size w w9 F4 G4)
          clear hw hP7 hR7 hW7
          go_wp2_with fail
          refine (rsk_staked G4 rb S4 hS4 q _ hR9).mono ?_
          rintro e w10 ⟨rfl, rfl⟩
          go_wp2_with fail
          go_roundw
          case rel => exact ⟨q + 1, by omega, by omega, by go_num, hP9, hR9, hW9⟩
          case measure => simp [intOf]; omega
        · obtain ⟨K, O, C, N, Y, a⟩ := hA.below hW5.below hb k hlt
          have a0 := a.c0
          have a1 := a.c1
          have a2 := a.c2
          have a3 := a.c3
          have a4 := a.c4
          have wO := a.wO
          have wY := a.wY
          have e1 : ((S4.P C).val O != (S4.P C).val O) = false := by simp
          have e2 : ((S4.W C Y).val O != (S4.W C Y).val O) = false := by simp
          clear a
          go_wp2_with fail
          have hB6 : Below wr.heap.size wr (wr.alloc (.cells #[.string K, .int .i64 O, .int .i64 C, .int .i64 N, .int .i64 Y] 30)) := (Below.refl _ _).alloc (Nat.le_refl _) _
          have hP6 := hP5.nextB hB6
          have hR6 := hR5.nextB hB6
          have hW6 := hW5.nextB hB6
          have s1 : (wr.alloc (.cells #[.string K, .int .i64 O, .int .i64 C, .int .i64 N, .int .i64 Y] 30)).cell? ⟨wr.heap.size, 1, none⟩ = some (.int .i64 O) := by simp
          have s2 : (wr.alloc (.cells #[.string K, .int .i64 O, .int .i64 C, .int .i64 N, .int .i64 Y] 30)).cell? ⟨wr.heap.size, 2, none⟩ = some (.int .i64 C) := by simp
          have s4 : (wr.alloc (.cells #[.string K, .int .i64 O, .int .i64 C, .int .i64 N, .int .i64 Y] 30)).cell? ⟨wr.heap.size, 4, none⟩ = some (.int .i64 Y) := by simp
          clear hB6 hP5 hR5 hW5 a0 a1 a2 a3 a4
          generalize wr.heap.size = na at *
          generalize wr.alloc (.cells #[.string K, .int .i64 O, .int .i64 C, .int .i64 N, .int .i64 Y] 30) = w6 at *
          have B6 : Below w6.heap.size w6 w6 := Below.refl _ _
          go_region_held3 (fun w' => w'.cell? ⟨na, 1, none⟩ = some (.int .i64 O) ∧ w'.cell? ⟨na, 2, none⟩ = some (.int .i64 C) ∧ w'.cell? ⟨na, 4, none⟩ = some (.int .i64 Y)) (exact ⟨by assumption, by assumption, by assumption⟩)
            (first
              | (go_at_call 15; refine (ps_value F4 sb S4 hS4 _ O C wO _ (by first | exact hP6 | exact hP6.drewN _)).mono ?_; rintro e w7 ⟨rfl, m7, hw7⟩; have B7 : Below w6.heap.size w6 w7 := (by rw [hw7]; first | exact below_drewN B6 _ | exact below_drewN (below_drewN B6 _) _); have hP7 := hP6.nextB B7; have hR7 := hR6.nextB B7; have p7 : w7.cell? ⟨na, 1, none⟩ = some (.int .i64 O) := stk_old B7 s1; have q7 : w7.cell? ⟨na, 2, none⟩ = some (.int .i64 C) := stk_old B7 s2; have r7 : w7.cell? ⟨na, 4, none⟩ = some (.int .i64 Y) := stk_old B7 s4; clear hw7)
              | (go_at_call 16; refine (rsk_value G4 rb S4 hS4 O C _ (by first | exact hR7 | exact hR7.drewN _)).mono ?_; rintro e w8 ⟨rfl, m8, hw8⟩; have B8 : Below w6.heap.size w6 w8 := (by rw [hw8]; first | exact below_drewN B7 _ | exact below_drewN (below_drewN B7 _) _); have hP8 := hP6.nextB B8; have hR8 := hR6.nextB B8; have p8 : w8.cell? ⟨na, 1, none⟩ = some (.int .i64 O) := stk_old B8 s1; have q8 : w8.cell? ⟨na, 2, none⟩ = some (.int .i64 C) := stk_old B8 s2; have r8 : w8.cell? ⟨na, 4, none⟩ = some (.int .i64 Y) := stk_old B8 s4; clear hw8)
              | (go_at_call 17; refine (ps_waits F4 sb S4 hS4 _ O C Y wO wY _ (by first | exact hP8 | exact hP8.drewN _)).mono ?_; rintro e w9 ⟨rfl, hB9⟩; have B9 : Below w6.heap.size w6 w9 := (by first | exact B8.trans (hB9.mono B8.size) | exact (below_drewN B8 _).trans (hB9.mono B8.size)); have hP9 := hP6.nextB B9; have hR9 := hR6.nextB B9; have p9 : w9.cell? ⟨na, 1, none⟩ = some (.int .i64 O) := stk_old B9 s1; have q9 : w9.cell? ⟨na, 2, none⟩ = some (.int .i64 C) := stk_old B9 s2; have r9 : w9.cell? ⟨na, 4, none⟩ = some (.int .i64 Y) := stk_old B9 s4)
              | (go_at_call 18; refine (rsk_waits G4 rb S4 hS4 (by omega) O C Y _ (by first | exact hR9 | exact hR9.drewN _)).mono ?_; rintro e w10 ⟨rfl, m10, hw10⟩; have B10 : Below w6.heap.size w6 w10 := (by rw [hw10]; first | exact below_drewN B9 _ | exact below_drewN (below_drewN B9 _) _); have hP10 := hP6.nextB B10; have hR10 := hR6.nextB B10; have p10 : w10.cell? ⟨na, 1, none⟩ = some (.int .i64 O) := stk_old B10 s1; have q10 : w10.cell? ⟨na, 2, none⟩ = some (.int .i64 C) := stk_old B10 s2; have r10 : w10.cell? ⟨na, 4, none⟩ = some (.int .i64 Y) := stk_old B10 s4; clear hw10))
          have hW10 := hW6.nextB B10
          go_wp2_with fail
          go_roundw
          case rel => exact ⟨k + 1, by omega, by go_num, F4, G4, S4, hS4, hl5, by rw [Nat.mul_add]; exact hP10, hR10, hW10⟩
          case measure => simp [intOf]; omega
    · obtain rfl : k = len := by omega
      have hB := hW.below
      clear hP hR hW
      go_wp2_with fail
      go_ret
      exact ⟨rfl, hB⟩
end Go.Proofs.YtlhffdmhbplpjabGreatDoor
