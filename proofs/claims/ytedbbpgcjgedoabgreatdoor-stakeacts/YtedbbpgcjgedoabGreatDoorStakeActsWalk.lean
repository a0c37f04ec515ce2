/-
  The law StakeActs, walked: for every slice of acts it returns true.
-/
import Derived.Test.YtedbbpgcjgedoabGreatDoorStkAct
import Derived.Test.YtedbbpgcjgedoabGreatDoorStakedX
namespace Go.Proofs.YtedbbpgcjgedoabGreatDoor
open Go.RowKit

set_option maxRecDepth 100000 in
set_option maxHeartbeats 4000000 in
theorem stakeActs_walk (b off len cap : Nat) (A : Nat → Addr) (w : World) (hL : Laid w A) (hb : b < w.heap.size) (h1 : 0 < len) (h80 : len ≤ 80) (hA : Acts2 w b off len) :
    Calls Tryz.prog 3 #[.slice (some ⟨b, off, none⟩) len cap] w fun e w' => e = .returned (.bool true) ∧ Below w.heap.size w w' := by
  go_enter Tryz.func3, Tryz.ntmps3
  go_wp2_with fail
  refine (staked_of A w hL.stk).mono ?_
  rintro e w1 ⟨rfl, hB1⟩
  go_wp2_with fail
  refine (ps_new _).mono ?_
  rintro e w2 ⟨sb, F2, rfl, hP2, hf2, hB2⟩
  have M2 : Mine w.heap.size w w2 F2 := ⟨fun k hk => Nat.le_trans hB1.size (hf2 k hk), hB1.trans (hB2.mono hB1.size), Nat.le_trans hB1.size hB2.size⟩
  clear hB1 hB2 hf2
  go_wp2_with fail
  refine (rs_new _).mono ?_
  rintro e w3 ⟨rb, G3, rfl, hR3, hg3, _, hB3⟩
  have hP3 := hP2.nextB hB3
  have hW3 : Sides w.heap.size w w3 F2 G3 := ⟨fun k hk hg => by have := hP2.lt k hk; have := hg3 k hg; omega, M2.f, fun k hk => Nat.le_trans M2.size (hg3 k hk), M2.below.trans (hB3.mono M2.size), Nat.le_trans M2.size hB3.size⟩
  clear hB3 hP2 M2 hg3
  go_wp2_with fail
  go_loopw [6] (fun i w' => ∃ k : Nat, k ≤ len ∧ i = .int .i64 k ∧ Both w.heap.size w w' sb rb (4 * k) k) (fun i _ => len - (intOf i).toNat)
  case atStart => exact ⟨0, Nat.zero_le _, rfl, F2, G3, _, Sk.none_ok, Nat.le_refl _, hP3, hR3, hW3⟩
  case round =>
    obtain ⟨k, hk, rfl, F, G, S, hS, hl, hP, hR, hW⟩ := hrel
    clear hP3 hR3 hW3
    by_cases hlt : k < len
    · obtain ⟨K, O, C, N, Y, a⟩ := hA.below hW.below hb k hlt
      have a0 := a.c0
      have a1 := a.c1
      have a2 := a.c2
      have a3 := a.c3
      have a4 := a.c4
      go_wp2_with fail
      refine (act_of w F G sb rb S hS (4 * k) (by omega) (by omega) K O C N Y a.wO a.wY A wr hL hP hR hW).mono ?_
      rintro e w4 ⟨rfl, F4, G4, S4, hS4, hl4, hP4, hR4, hW4⟩
      have hl5 : S4.K.length ≤ k + 1 := by omega
      clear hP hR hW hS hl hl4 a0 a1 a2 a3 a4 a
      go_wp2_with fail
      refine (ps_total F4 sb S4 hS4 (by omega) _ w4 hP4).mono ?_
      rintro e w5 ⟨rfl, hB5⟩
      have hP5 := hP4.nextB hB5
      have hR5 := hR4.nextB hB5
      have hW5 := hW4.nextB hB5
      clear hP4 hR4 hW4 hB5
      have d1 : (S4.total != S4.total) = false := by simp
      go_wp2_with fail
      refine (rsk_total G4 rb S4 hS4 (by omega) w5 hR5).mono ?_
      rintro e w6 ⟨rfl, rfl⟩
      go_wp2_with fail
      go_loopw [8] (fun i wz => ∃ q : Int, -1 ≤ q ∧ q ≤ 4 ∧ i = .int .i64 q ∧ PSk F4 wz sb S4 (4 * k + 4) ∧ RSk G4 wz rb S4 ∧ Sides w.heap.size w wz F4 G4) (fun i _ => (4 - intOf i).toNat)
      case atStart => exact ⟨-1, by omega, by omega, rfl, hP5, hR5, hW5⟩
      case round =>
        clear hP5 hR5 hW5 d1
        obtain ⟨q, q0, q1, rfl, hP5, hR5, hW5⟩ := hrel
        by_cases hq : q ≤ 3
        · go_wp2_with fail
          refine (ps_is F4 sb S4 hS4 _ q _ hP5).mono ?_
          rintro e w7 ⟨rfl, m, hw⟩
          have hP7 := (by rw [hw]; exact hP5.drewN m : PSk F4 w7 sb S4 (4 * k + 4))
          have hR7 := (by rw [hw]; exact hR5.drewN m : RSk G4 w7 rb S4)
          have hW7 := (by rw [hw]; exact hW5.drewN m : Sides w.heap.size w w7 F4 G4)
          have e1 : (S4.R q != S4.R q) = false := by simp
          have e2 : ((S4.P q).T != (S4.P q).T) = false := by simp
          clear hw hP5 hR5 hW5
          go_wp2_with fail
          refine (rsk_is G4 rb S4 hS4 q _ hR7).mono ?_
          rintro e w8 ⟨rfl, rfl⟩
          go_wp2_with fail
          refine (ps_staked F4 sb S4 hS4 _ q _ hP7).mono ?_
          rintro e w9 ⟨rfl, m, hw⟩
          have hP9 := (by rw [hw]; exact hP7.drewN m : PSk F4 w9 sb S4 (4 * k + 4))
          have hR9 := (by rw [hw]; exact hR7.drewN m : RSk G4 w9 rb S4)
          have hW9 := (by rw [hw]; exact hW7.drewN m : Sides w.heap.size w w9 F4 G4)
          clear hw hP7 hR7 hW7
          go_wp2_with fail
          refine (rsk_staked G4 rb S4 hS4 q _ hR9).mono ?_
          rintro e w10 ⟨rfl, rfl⟩
          go_wp2_with fail
          go_roundw
          case rel => exact ⟨q + 1, by omega, by omega, by go_num, hP9, hR9, hW9⟩
          case measure => simp [intOf]; omega
        · obtain ⟨K, O, C, N, Y, a⟩ := hA.below hW5.below hb k hlt
          have a0 := a.c0
          have a1 := a.c1
          have a2 := a.c2
          have a3 := a.c3
          have a4 := a.c4
          have wO := a.wO
          have wY := a.wY
          have e1 : ((S4.P C).val O != (S4.P C).val O) = false := by simp
          have e2 : ((S4.W C Y).val O != (S4.W C Y).val O) = false := by simp
          clear a
          go_wp2_with fail
          have hB6 : Below wr.heap.size wr (wr.alloc (.cells #[.string K, .int .i64 O, .int .i64 C, .int .i64 N, .int .i64 Y] 30)) := (Below.refl _ _).alloc (Nat.le_refl _) _
          have hP6 := hP5.nextB hB6
          have hR6 := hR5.nextB hB6
          have hW6 := hW5.nextB hB6
          have s1 : (wr.alloc (.cells #[.string K, .int .i64 O, .int .i64 C, .int .i64 N, .int .i64 Y] 30)).cell? ⟨wr.heap.size, 1, none⟩ = some (.int .i64 O) := by simp
          have s2 : (wr.alloc (.cells #[.string K, .int .i64 O, .int .i64 C, .int .i64 N, .int .i64 Y] 30)).cell? ⟨wr.heap.size, 2, none⟩ = some (.int .i64 C) := by simp
          have s4 : (wr.alloc (.cells #[.string K, .int .i64 O, .int .i64 C, .int .i64 N, .int .i64 Y] 30)).cell? ⟨wr.heap.size, 4, none⟩ = some (.int .i64 Y) := by simp
          clear hB6 hP5 hR5 hW5 a0 a1 a2 a3 a4
          generalize wr.heap.size = na at *
          generalize wr.alloc (.cells #[.string K, .int .i64 O, .int .i64 C, .int .i64 N, .int .i64 Y] 30) = w6 at *
          have B6 : Below w6.heap.size w6 w6 := Below.refl _ _
          go_region_held3 (fun w' => w'.cell? ⟨na, 1, none⟩ = some (.int .i64 O) ∧ w'.cell? ⟨na, 2, none⟩ = some (.int .i64 C) ∧ w'.cell? ⟨na, 4, none⟩ = some (.int .i64 Y)) (exact ⟨by assumption, by assumption, by assumption⟩)
            (first
              | (go_at_call 14; refine (ps_value F4 sb S4 hS4 _ O C wO _ (by first | exact hP6 | exact hP6.drewN _)).mono ?_; rintro e w7 ⟨rfl, m7, hw7⟩; have B7 : Below w6.heap.size w6 w7 := (by rw [hw7]; first | exact below_drewN B6 _ | exact below_drewN (below_drewN B6 _) _); have hP7 := hP6.nextB B7; have hR7 := hR6.nextB B7; have p7 : w7.cell? ⟨na, 1, none⟩ = some (.int .i64 O) := stk_old B7 s1; have q7 : w7.cell? ⟨na, 2, none⟩ = some (.int .i64 C) := stk_old B7 s2; have r7 : w7.cell? ⟨na, 4, none⟩ = some (.int .i64 Y) := stk_old B7 s4; clear hw7)
              | (go_at_call 15; refine (rsk_value G4 rb S4 hS4 O C _ (by first | exact hR7 | exact hR7.drewN _)).mono ?_; rintro e w8 ⟨rfl, m8, hw8⟩; have B8 : Below w6.heap.size w6 w8 := (by rw [hw8]; first | exact below_drewN B7 _ | exact below_drewN (below_drewN B7 _) _); have hP8 := hP6.nextB B8; have hR8 := hR6.nextB B8; have p8 : w8.cell? ⟨na, 1, none⟩ = some (.int .i64 O) := stk_old B8 s1; have q8 : w8.cell? ⟨na, 2, none⟩ = some (.int .i64 C) := stk_old B8 s2; have r8 : w8.cell? ⟨na, 4, none⟩ = some (.int .i64 Y) := stk_old B8 s4; clear hw8)
              | (go_at_call 16; refine (ps_waits F4 sb S4 hS4 _ O C Y wO wY _ (by first | exact hP8 | exact hP8.drewN _)).mono ?_; rintro e w9 ⟨rfl, hB9⟩; have B9 : Below w6.heap.size w6 w9 := (by first | exact B8.trans (hB9.mono B8.size) | exact (below_drewN B8 _).trans (hB9.mono B8.size)); have hP9 := hP6.nextB B9; have hR9 := hR6.nextB B9; have p9 : w9.cell? ⟨na, 1, none⟩ = some (.int .i64 O) := stk_old B9 s1; have q9 : w9.cell? ⟨na, 2, none⟩ = some (.int .i64 C) := stk_old B9 s2; have r9 : w9.cell? ⟨na, 4, none⟩ = some (.int .i64 Y) := stk_old B9 s4)
              | (go_at_call 17; refine (rsk_waits G4 rb S4 hS4 (by omega) O C Y _ (by first | exact hR9 | exact hR9.drewN _)).mono ?_; rintro e w10 ⟨rfl, m10, hw10⟩; have B10 : Below w6.heap.size w6 w10 := (by rw [hw10]; first | exact below_drewN B9 _ | exact below_drewN (below_drewN B9 _) _); have hP10 := hP6.nextB B10; have hR10 := hR6.nextB B10; have p10 : w10.cell? ⟨na, 1, none⟩ = some (.int .i64 O) := stk_old B10 s1; have q10 : w10.cell? ⟨na, 2, none⟩ = some (.int .i64 C) := stk_old B10 s2; have r10 : w10.cell? ⟨na, 4, none⟩ = some (.int .i64 Y) := stk_old B10 s4; clear hw10))
          have hW10 := hW6.nextB B10
          go_wp2_with fail
          go_roundw
          case rel => exact ⟨k + 1, by omega, by go_num, F4, G4, S4, hS4, hl5, by rw [Nat.mul_add]; exact hP10, hR10, hW10⟩
          case measure => simp [intOf]; omega
    · obtain rfl : k = len := by omega
      have hB := hW.below
      clear hP hR hW
      go_wp2_with fail
      go_ret
      exact ⟨rfl, hB⟩
end Go.Proofs.YtedbbpgcjgedoabGreatDoor
