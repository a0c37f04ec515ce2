/-
  What is issued, by the document (bakehouseref2), by its contracts.
  The document's chain by its contracts: stakes, what is freed, the ratio.
  The document's columns under way, as they lie in memory: what each thing that a round does makes of them.
-/
import Derived.Test.YtaihcceobnfmhaaGreatDoorAidX
import Derived.Test.YtaihcceobnfmhaaGreatDoorProgPurseX
import Derived.Test.YtaihcceobnfmhaaGreatDoorRefNewX
import Derived.Test.YtaihcceobnfmhaaGreatDoorRefStkSumsX
import Derived.Test.YtaihcceobnfmhaaGreatDoorRefStkLeaveX
import Derived.Test.YtaihcceobnfmhaaGreatDoorRefStkSlashX
import Derived.Deep.QuietTactic
import Derived.BigQuiet
import Derived.Deep.RegionHeld3
import Derived.Test.YtaihcceobnfmhaaGreatDoorProgRightX
namespace Go.Proofs.YtaihcceobnfmhaaGreatDoor
open Go.RowKit

theorem ref_ratio (s t : Int) (w : World) :
    Calls Tryz.prog 175 #[.int .i64 s, .int .i64 t] w fun e w' => e = .returned (.tuple #[.int .i64 (ratioN s t), .int .i64 (ratioC s t)]) ∧ Below w.heap.size w w' := by
  have I := isAmount_ref s
  have J := isAmount_ref t
  by_cases h : RatioOk s t
  · have e1 : Hid (ratioC s t = 0) := if_pos h
    have e2 : Hid (ratioN s t = s * 1000000 / t) := if_pos h
    have b := ratio_bd h
    obtain ⟨⟨s0, s1⟩, t0, t1, st⟩ := h
    have P := product_yes s 1000000 t ⟨s0, s1, by omega, by omega, by omega, t1⟩ (by omega)
    rw [decide_eq_true (p := 0 ≤ s ∧ s ≤ 1125899906842624) ⟨s0, s1⟩] at I
    rw [decide_eq_true (p := 0 ≤ t ∧ t ≤ 1125899906842624) ⟨by omega, t1⟩] at J
    have z : (t == 0) = false := by simp; omega
    clear b
    go_enter Tryz.func175, Tryz.ntmps175
    go_wp2_with fail
    refine (I _).mono ?_
    rintro e w1 ⟨rfl, rfl⟩
    go_wp2_with fail
    refine (J _).mono ?_
    rintro e w2 ⟨rfl, rfl⟩
    go_wp2_with (go_at_call 172; refine (P _).mono ?_; rintro e w3 ⟨rfl, rfl⟩)
    go_ret2
    exact ⟨ret_int2 e2.out.symm e1.out.symm, Below.refl _ _⟩
  · have e1 : Hid (ratioC s t = 2) := if_neg h
    have e2 : Hid (ratioN s t = 0) := if_neg h
    by_cases hs : 0 ≤ s ∧ s ≤ 1125899906842624
    · rw [decide_eq_true hs] at I
      by_cases ht : 0 ≤ t ∧ t ≤ 1125899906842624
      · rw [decide_eq_true ht] at J
        by_cases hz : t = 0
        · have z : (t == 0) = true := by simp [hz]
          clear h hz hs ht
          go_enter Tryz.func175, Tryz.ntmps175
          go_wp2_with fail
          refine (I _).mono ?_
          rintro e w1 ⟨rfl, rfl⟩
          go_wp2_with fail
          refine (J _).mono ?_
          rintro e w2 ⟨rfl, rfl⟩
          go_wp2_with fail
          go_ret2
          exact ⟨ret_int2 e2.out.symm e1.out.symm, Below.refl _ _⟩
        · have z : (t == 0) = false := by simp [hz]
          have st : ¬ s ≤ t := fun g => h ⟨hs, by omega, ht.2, g⟩
          clear h hz hs ht
          go_enter Tryz.func175, Tryz.ntmps175
          go_wp2_with fail
          refine (I _).mono ?_
          rintro e w1 ⟨rfl, rfl⟩
          go_wp2_with fail
          refine (J _).mono ?_
          rintro e w2 ⟨rfl, rfl⟩
          go_wp2_with fail
          go_ret2
          exact ⟨ret_int2 e2.out.symm e1.out.symm, Below.refl _ _⟩
      · rw [decide_eq_false ht] at J
        clear h hs ht
        go_enter Tryz.func175, Tryz.ntmps175
        go_wp2_with fail
        refine (I _).mono ?_
        rintro e w1 ⟨rfl, rfl⟩
        go_wp2_with fail
        refine (J _).mono ?_
        rintro e w2 ⟨rfl, rfl⟩
        go_wp2_with fail
        go_ret2
        exact ⟨ret_int2 e2.out.symm e1.out.symm, Below.refl _ _⟩
    · rw [decide_eq_false hs] at I
      clear h hs J
      go_enter Tryz.func175, Tryz.ntmps175
      go_wp2_with fail
      refine (I _).mono ?_
      rintro e w1 ⟨rfl, rfl⟩
      go_wp2_with fail
      go_ret2
      exact ⟨ret_int2 e2.out.symm e1.out.symm, Below.refl _ _⟩

theorem ref_reward (s r : Int) (w : World) :
    Calls Tryz.prog 131 #[.int .i64 s, .int .i64 r] w fun e w' => e = .returned (.tuple #[.int .i64 (rewardN s r), .int .i64 (rewardC s r)]) ∧ Below w.heap.size w w' := by
  have I := isAmount_ref s
  by_cases h : RewardOk s r
  · have e1 : Hid (rewardC s r = 0) := if_pos h
    have e2 : Hid (rewardN s r = s * r / 1000000 / 4) := if_pos h
    obtain ⟨b0, b1⟩ := reward_bd h
    obtain ⟨⟨s0, s1⟩, r0, r1⟩ := h
    have P := product_yes s r 1000000 ⟨s0, s1, by omega, by omega, by omega, by omega⟩ (by omega)
    rw [decide_eq_true (p := 0 ≤ s ∧ s ≤ 1125899906842624) ⟨s0, s1⟩] at I
    generalize s * r / 1000000 = q at *
    go_enter Tryz.func131, Tryz.ntmps131
    go_wp2_with (first | (go_at_call 170; refine (I _).mono ?_; rintro e w1 ⟨rfl, rfl⟩) | (go_at_call 172; refine (P _).mono ?_; rintro e w3 ⟨rfl, rfl⟩))
    go_ret2
    exact ⟨ret_int2 e2.out.symm e1.out.symm, Below.refl _ _⟩
  · have e1 : Hid (rewardC s r = 2) := if_neg h
    have e2 : Hid (rewardN s r = 0) := if_neg h
    by_cases hs : 0 ≤ s ∧ s ≤ 1125899906842624
    · rw [decide_eq_true hs] at I
      by_cases r0 : 0 ≤ r
      · have r1 : ¬ r ≤ 1000000 := fun g => h ⟨hs, r0, g⟩
        clear h hs
        go_enter Tryz.func131, Tryz.ntmps131
        go_wp2_with (go_at_call 170; refine (I _).mono ?_; rintro e w1 ⟨rfl, rfl⟩)
        go_ret2
        exact ⟨ret_int2 e2.out.symm e1.out.symm, Below.refl _ _⟩
      · clear h hs
        go_enter Tryz.func131, Tryz.ntmps131
        go_wp2_with (go_at_call 170; refine (I _).mono ?_; rintro e w1 ⟨rfl, rfl⟩)
        go_ret2
        exact ⟨ret_int2 e2.out.symm e1.out.symm, Below.refl _ _⟩
    · rw [decide_eq_false hs] at I
      clear h hs
      go_enter Tryz.func131, Tryz.ntmps131
      go_wp2_with (go_at_call 170; refine (I _).mono ?_; rintro e w1 ⟨rfl, rfl⟩)
      go_ret2
      exact ⟨ret_int2 e2.out.symm e1.out.symm, Below.refl _ _⟩

theorem ref_bonus (b r : Int) (h : RateOk r b) (w : World) :
    Calls Tryz.prog 180 #[.int .i64 b, .int .i64 r] w fun e w' => e = .returned (.int .i64 (bonusV b r)) ∧ w' = w := by
  obtain ⟨⟨r0, r1⟩, b0, b1⟩ := h
  by_cases h1 : r < 480000
  · have h2 : ¬ 520000 < r := by omega
    by_cases h3 : b + 100 ≤ 5000
    · have e : Hid (bonusV b r = b + 100) := by
        show _ = _
        unfold bonusV
        rw [if_pos h1]
        split <;> omega
      go_enter Tryz.func180, Tryz.ntmps180
      go_wp2
      go_ret
      exact ⟨ret_int e.out.symm, rfl⟩
    · have e : Hid (bonusV b r = 5000) := by
        show _ = _
        unfold bonusV
        rw [if_pos h1, if_neg (by omega)]
      go_enter Tryz.func180, Tryz.ntmps180
      go_wp2
      go_ret
      exact ⟨ret_int e.out.symm, rfl⟩
  · by_cases h2 : 520000 < r
    · by_cases h3 : 0 ≤ b - 100
      · have h4 : b - 100 ≤ 5000 := by omega
        have e : Hid (bonusV b r = b - 100) := by
          show _ = _
          unfold bonusV
          rw [if_neg h1, if_pos h2]
          split <;> omega
        go_enter Tryz.func180, Tryz.ntmps180
        go_wp2
        go_ret
        exact ⟨ret_int e.out.symm, rfl⟩
      · have h4 : b - 100 ≤ 5000 := by omega
        have e : Hid (bonusV b r = 0) := by
          show _ = _
          unfold bonusV
          rw [if_neg h1, if_pos h2, if_neg (by omega)]
        go_enter Tryz.func180, Tryz.ntmps180
        go_wp2
        go_ret
        exact ⟨ret_int e.out.symm, rfl⟩
    · have e : Hid (bonusV b r = b) := by
        show _ = _
        unfold bonusV
        rw [if_neg h1, if_neg h2]
      go_enter Tryz.func180, Tryz.ntmps180
      go_wp2
      go_ret
      exact ⟨ret_int e.out.symm, rfl⟩
end Go.Proofs.YtaihcceobnfmhaaGreatDoor

namespace Go.Proofs.YtaihcceobnfmhaaGreatDoor
open Go.RowKit

theorem RChAt.movedP {tag : Nat → Nat} {w w' : World} {cb pb pq sb kb : Nat} {v : Value} {M : List (Nat × Nat)} {C : Ch} {F : Nat → Prop} (h : RChAt tag w cb pb pq sb kb v M C) (hF : ∀ k, F k ↔ tag k ≠ 0) (hK : Kept [pb, pq] w w') : Moved F F w w' :=
  ⟨KeptP.of_kept hK fun k hk => (hF k).2 (by
    rcases List.mem_cons.1 hk with e | e
    · rw [e, h.tp]; decide
    · rw [List.mem_singleton.1 e, h.tq]; decide), fun _ _ g => g⟩
theorem St.joinC_nn (x : St) (o n : Int) : 0 ≤ x.joinC o n := by unfold St.joinC; repeat' split <;> omega
theorem Sk.joinC_nn (S : Sk) (o b n : Int) : 0 ≤ S.joinC o b n := by
  unfold Sk.joinC
  split
  · exact St.joinC_nn _ _ _
  · omega
theorem Pu.outC_nn (x : Pu) (o n : Int) : 0 ≤ x.outC o n := by unfold Pu.outC; repeat' split <;> omega
set_option maxRecDepth 100000 in
set_option maxHeartbeats 1000000 in
theorem rch_stake (F : Nat → Prop) (cb : Nat) (C : Ch) (hC : C.Ok) (o b n : Int) (w : World) (h : RCh F w cb C) :
    Calls Tryz.prog 73 #[.pointer (some ⟨cb, 0, none⟩), .int .i64 o, .int .i64 b, .int .i64 n] w fun e w' => e = .returned (.int .i64 (C.stakeC o b n)) ∧ ∃ F', RCh F' w' cb (C.stake o b n) ∧ Moved F F' w w' := by
  obtain ⟨tag, pb, pq, sb, kb, v, M, hF, h⟩ := h
  have c0 := h.c0
  have P := rp_out pb pq C.p hC.p o n w h.p
  by_cases k1 : C.p.outC o n = 0
  · rw [k1] at P
    by_cases k2 : C.s.joinC o b n = 0
    · have e1 : C.stakeC o b n = 0 := by unfold Ch.stakeC; rw [if_neg (not_not_intro k1)]; exact k2
      have e2 : C.stake o b n = { C with p := C.p.out o n, s := C.s.join o b n } := if_pos e1
      rw [e1, e2]
      have K2 := hide k2
      clear e1 e2 k2
      go_enter Tryz.func73, Tryz.ntmps73
      go_wp2_with fail
      refine P.mono ?_
      rintro e w1 ⟨rfl, hp1, hK1⟩
      have h1 := h.purse hp1 hK1
      have M1 := h.movedP hF hK1
      have d1 := h1.c1
      have J := rs_join _ sb C.s hC.s o b n w1 h1.s
      rw [K2.out] at J
      clear P c0 hp1 hK1 h
      go_wp2_with fail
      refine J.mono ?_
      rintro e w2 ⟨rfl, hs2, hM2⟩
      have h2 := h1.stakes hs2 hM2
      have M2 := retag_moved hF hM2 (by decide)
      clear J d1 h1
      go_wp2_with fail
      go_ret
      exact ⟨rfl, _, ⟨_, pb, pq, sb, kb, v, M, fun _ => Iff.rfl, h2⟩, M1.trans M2⟩
    · have nn := C.s.joinC_nn o b n
      have e1 : C.stakeC o b n = C.s.joinC o b n := by unfold Ch.stakeC; rw [if_neg (not_not_intro k1)]
      have e2 : C.stake o b n = C := if_neg (by rw [e1]; exact k2)
      rw [e1, e2]
      have K2 := hide k2
      have K1 := hide k1
      have pos : 0 < C.s.joinC o b n := by omega
      clear e1 e2 k2 k1
      go_enter Tryz.func73, Tryz.ntmps73
      go_wp2_with fail
      refine P.mono ?_
      rintro e w1 ⟨rfl, hp1, hK1⟩
      have h1 := h.purse hp1 hK1
      have M1 := h.movedP hF hK1
      have d1 := h1.c1
      have J := rs_join _ sb C.s hC.s o b n w1 h1.s
      clear P c0 hp1 hK1 h
      go_wp2_with fail
      refine J.mono ?_
      rintro e w2 ⟨rfl, hs2, hM2⟩
      rw [Sk.join_same K2.out] at hs2
      have h2 := h1.stakes hs2 hM2
      have M2 := retag_moved hF hM2 (by decide)
      have d0 := h2.c0
      have I := rp_in pb pq (C.p.out o n) (hC.p.out' o n) o n w2 h2.p
      rw [Pu.out_in hC.p K1.out] at I
      clear J d1 h1
      go_wp2_with fail
      refine I.mono ?_
      rintro e w3 ⟨rfl, hp3, hK3⟩
      have h3 := h2.purse hp3 hK3
      have M3 := h2.movedP (fun _ => Iff.rfl) hK3
      clear I d0 h2
      go_wp2_with fail
      go_ret
      exact ⟨rfl, _, ⟨_, pb, pq, sb, kb, v, M, fun _ => Iff.rfl, h3⟩, (M1.trans M2).trans M3⟩
  · have nn := C.p.outC_nn o n
    have e1 : C.stakeC o b n = C.p.outC o n := if_pos k1
    have e2 : C.stake o b n = C := if_neg (by rw [e1]; exact k1)
    have e3 : C.p.out o n = C.p := if_neg k1
    rw [e1, e2]
    rw [e3] at P
    have pos : 0 < C.p.outC o n := by omega
    clear e1 e2 e3 k1
    go_enter Tryz.func73, Tryz.ntmps73
    go_wp2_with fail
    refine P.mono ?_
    rintro e w1 ⟨rfl, hp1, hK1⟩
    have h1 := h.purse hp1 hK1
    have M1 := h.movedP hF hK1
    clear P c0 hp1 hK1 h
    go_wp2_with fail
    go_ret
    exact ⟨rfl, F, ⟨tag, pb, pq, sb, kb, v, M, hF, h1⟩, M1⟩
theorem RChAt.drewN {tag : Nat → Nat} {w : World} {cb pb pq sb kb : Nat} {v : Value} {M : List (Nat × Nat)} {C : Ch} (h : RChAt tag w cb pb pq sb kb v M C) (n : Nat) : RChAt tag (w.drewN n) cb pb pq sb kb v M C := h.keptP (G := fun _ => False) ((KeptP.refl _ _).drewN n) fun _ g => g.elim
theorem RChAt.nextB {tag : Nat → Nat} {w w' : World} {cb pb pq sb kb : Nat} {v : Value} {M : List (Nat × Nat)} {C : Ch} (h : RChAt tag w cb pb pq sb kb v M C) (k : Below w.heap.size w w') : RChAt tag w' cb pb pq sb kb v M C := h.keptP (KeptP.of_below (F := fun _ => False) k) fun _ g => g.elim
theorem RCh.drewN {F : Nat → Prop} {w : World} {cb : Nat} {C : Ch} (h : RCh F w cb C) (n : Nat) : RCh F (w.drewN n) cb C := h.keptP (G := fun _ => False) ((KeptP.refl _ _).drewN n) fun _ g => g.elim
theorem RCh.nextB {F : Nat → Prop} {w w' : World} {cb : Nat} {C : Ch} (h : RCh F w cb C) (k : Below w.heap.size w w') : RCh F w' cb C := h.keptP (KeptP.of_below (F := fun _ => False) k) fun _ g => g.elim
theorem cyc_wf {n : Nat} (h : n ≤ 1000) : (Lit.int .i64 (n : Int)).wf = true := WalkArith.wf_i64 (by omega)
set_option maxRecDepth 100000 in
set_option maxHeartbeats 1000000 in
theorem rch_free (F : Nat → Prop) (cb : Nat) (C : Ch) (hC : C.Ok) (hl : C.s.K.length ≤ 1000) (hy : C.cyc ≤ 1000) (o : Int) (w : World) (h : RCh F w cb C) :
    Calls Tryz.prog 75 #[.pointer (some ⟨cb, 0, none⟩), .int .i64 o] w fun e w' => e = .returned (.tuple #[.int .i64 (C.s.freeN o C.cyc), .int .i64 (C.s.freeC o C.cyc)]) ∧ ∃ F', RCh F' w' cb (C.free o) ∧ Moved F F' w w' := by
  obtain ⟨tag, pb, pq, sb, kb, v, M, hF, h⟩ := h
  have c1 := h.c1
  have c4 := h.c4
  have nc : ¬ tag cb = 3 := by rw [h.tc]; decide
  by_cases k : C.s.freeC o C.cyc = 0
  · have e2 : C.free o = { C with p := C.p.in' o (C.s.freeN o C.cyc), s := C.s.free o C.cyc } := if_pos k
    have ki := h.p
    have KI := hide (hC.freeIn k)
    rw [k, e2]
    have K := hide k
    clear e2 k ki
    go_enter Tryz.func75, Tryz.ntmps75
    go_wp2_with fail
    go_region_held3 (fun w' => w'.cell? ⟨cb, 1, none⟩ = some (.pointer (some ⟨sb, 0, none⟩)) ∧ w'.cell? ⟨cb, 4, none⟩ = some (.int .i64 C.cyc)) (exact ⟨by assumption, by assumption⟩)
      (first | (go_at_call 129; refine (rs_free _ sb C.s hC.s hl o C.cyc (cyc_wf hy) _ (by first | exact h.s | exact h.s.drewN _)).mono ?_; rintro e w1 ⟨rfl, hs1, hM1⟩; have d1 := hM1.kept.old (p := ⟨cb, 1, none⟩) c1 nc; have d4 := hM1.kept.old (p := ⟨cb, 4, none⟩) c4 nc; obtain ⟨wq, hq, hMq, hB⟩ := (by first | exact ⟨_, h, hM1, Below.refl _ _⟩ | exact ⟨_, h.drewN _, hM1, below_drewN (Below.refl _ _) _⟩ : ∃ wq, RChAt tag wq cb pb pq sb kb v M C ∧ Moved (fun k => tag k = 3) (fun k => tag k = 3) wq w1 ∧ Below w.heap.size w wq); rw [K.out]))
    have h1 := hq.stakes hs1 hMq
    have M1 : Moved F _ w w1 := (⟨KeptP.of_below hB, fun _ _ g => g⟩ : Moved F F w wq).trans (retag_moved hF hMq (by decide))
    have e0 := h1.c0
    have I := rp_in pb pq C.p hC.p o (C.s.freeN o C.cyc) w1 h1.p
    rw [KI.out] at I
    clear c1 c4 d1 d4 h hq hMq hB hM1 hs1
    go_wp2_with fail
    refine I.mono ?_
    rintro e w2 ⟨rfl, hp2, hK2⟩
    have h2 := h1.purse hp2 hK2
    have M2 := h1.movedP (fun _ => Iff.rfl) hK2
    clear I e0 h1
    go_wp2_with fail
    go_ret2
    exact ⟨rfl, _, ⟨_, pb, pq, sb, kb, v, M, fun _ => Iff.rfl, h2⟩, M1.trans M2⟩
  · have e2 : C.free o = C := if_neg k
    have kb' : (C.s.freeC o C.cyc == 0) = false := by rw [beq_eq_false_iff_ne]; exact k
    have K := hide (hC.s.free_same k)
    rw [e2]
    clear e2 k
    go_enter Tryz.func75, Tryz.ntmps75
    go_wp2_with fail
    go_region_held3 (fun w' => w'.cell? ⟨cb, 1, none⟩ = some (.pointer (some ⟨sb, 0, none⟩)) ∧ w'.cell? ⟨cb, 4, none⟩ = some (.int .i64 C.cyc)) (exact ⟨by assumption, by assumption⟩)
      (first | (go_at_call 129; refine (rs_free _ sb C.s hC.s hl o C.cyc (cyc_wf hy) _ (by first | exact h.s | exact h.s.drewN _)).mono ?_; rintro e w1 ⟨rfl, hs1, hM1⟩; have d1 := hM1.kept.old (p := ⟨cb, 1, none⟩) c1 nc; have d4 := hM1.kept.old (p := ⟨cb, 4, none⟩) c4 nc; obtain ⟨wq, hq, hMq, hB⟩ := (by first | exact ⟨_, h, hM1, Below.refl _ _⟩ | exact ⟨_, h.drewN _, hM1, below_drewN (Below.refl _ _) _⟩ : ∃ wq, RChAt tag wq cb pb pq sb kb v M C ∧ Moved (fun k => tag k = 3) (fun k => tag k = 3) wq w1 ∧ Below w.heap.size w wq)))
    rw [K.out] at hs1
    have h1 := hq.stakes hs1 hMq
    have M1 : Moved F _ w w1 := (⟨KeptP.of_below hB, fun _ _ g => g⟩ : Moved F F w wq).trans (retag_moved hF hMq (by decide))
    clear c1 c4 d1 d4 h hq hMq hB hM1 hs1
    go_wp2_with fail
    go_ret2
    exact ⟨rfl, _, ⟨_, pb, pq, sb, kb, v, M, fun _ => Iff.rfl, h1⟩, M1⟩
/-- what is staked with the first so many -/
def stTo (S : Sk) : Nat → Int
  | 0 => 0
  | k + 1 => stTo S k + (S.P k).T
theorem stTo_three (S : Sk) : stTo S 3 = (S.P 0).T + (S.P 1).T + (S.P 2).T := by simp [stTo]
theorem stTo_bd {S : Sk} (h : S.Ok) : ∀ k, 0 ≤ stTo S k ∧ stTo S k ≤ k * 1125899906842624
  | 0 => ⟨Int.le_refl _, by simp [stTo]⟩
  | k + 1 => by
    have a := stTo_bd h k
    have b := h.P_bd k
    have e : stTo S (k + 1) = stTo S k + (S.P k).T := rfl
    rw [e, Int.natCast_add, Int.add_mul]
    omega
set_option maxRecDepth 100000 in
set_option maxHeartbeats 1000000 in
theorem rch_ratio (F : Nat → Prop) (cb : Nat) (C : Ch) (hC : C.Ok) (w : World) (h : RCh F w cb C) :
    Calls Tryz.prog 133 #[.pointer (some ⟨cb, 0, none⟩)] w fun e w' => e = .returned (.int .i64 C.ratio) ∧ Below w.heap.size w w' := by
  obtain ⟨tag, pb, pq, sb, kb, v, M, hF, h⟩ := h
  have c0 := h.c0
  have c1 := h.c1
  have p1 := h.p.c1
  have bd := fun k => stTo_bd hC.s k
  go_enter Tryz.func133, Tryz.ntmps133
  go_wp2_with fail
  go_loop [3, 4] (fun n i => ∃ k : Nat, k ≤ 3 ∧ i = .int .i64 k ∧ n = .int .i64 (stTo C.s k)) (fun _ i => 3 - (intOf i).toNat)
  case atStart => exact ⟨0, by omega, rfl, rfl⟩
  case round =>
    obtain ⟨k, hk, rfl, rfl⟩ := hrel
    by_cases hlt : k < 3
    · obtain ⟨tg, qb, qv, L, _, hs⟩ := h.s
      have Q := rs_staked tg sb qb qv L C.s hC.s k w hs
      have a := bd k
      have b := hC.s.P_bd k
      have hN : stTo C.s (k + 1) = stTo C.s k + (C.s.P k).T := rfl
      have HN := hide hN
      have kk : (k : Int) ≤ 2 := by omega
      have a2 : stTo C.s k ≤ 3377699720527872 := by
        have := a.2
        have : (k : Int) * 1125899906842624 ≤ 2 * 1125899906842624 := Int.mul_le_mul_of_nonneg_right kk (by omega)
        omega
      have a1 := a.1
      obtain ⟨b1, b2⟩ := b
      clear hN a bd kk
      go_wp2_with fail
      refine Q.mono ?_
      rintro e w1 ⟨rfl, hw⟩
      subst hw
      go_wp2_with fail
      go_round
      case rel => exact ⟨k + 1, by omega, by go_num, by rw [HN.out]⟩
      case measure => simp [intOf]; omega
    · obtain rfl : k = 3 := by omega
      have e3 := stTo_three C.s
      have R := ref_ratio (stTo C.s 3) C.p.S w
      rw [e3] at R ⊢
      clear e3 bd
      go_wp2_with fail
      refine R.mono ?_
      rintro e w1 ⟨rfl, hB⟩
      go_wp2_with fail
      go_ret
      exact ⟨rfl, hB⟩
end Go.Proofs.YtaihcceobnfmhaaGreatDoor

namespace Go.Proofs.YtaihcceobnfmhaaGreatDoor
open Go.RowKit Go.Deep

/-- the draw's own three cells -/
def ownv (H : Int) (L O n j : Nat) : Value := if j = 0 then .int .i64 H else if j = 1 then .slice (some ⟨L, 0, none⟩) n n else .slice (some ⟨O, 0, none⟩) n n
/-- blocks of which each is another -/
structure Apart (D L O R base : Nat) : Prop where
  dl : D ≠ L
  d' : D ≠ O
  dr : D ≠ R
  lo : L ≠ O
  lr : L ≠ R
  or' : O ≠ R
  bd : D < base ∧ L < base ∧ O < base ∧ R < base
structure RefFill (w : World) (D L O R base n : Nat) (H : Int) (rest line : Nat → Int) (other : Nat → Nat) (sv gv : Value) (small great : List Nat) : Prop where
  h : w.rowIs D 219 3 (ownv H L O n)
  l : w.rowIs L 3 n (fun j => .int .i64 (line j))
  o : w.rowIs O 3 n (fun j => .int .i64 (other j))
  r : w.rowIs R 3 n (fun j => .int .i64 (rest j))
  s : Que w 3 base sv (ints small)
  g : Que w 3 base gv (ints great)
  ne : ∀ k, sv.ownBlock = some k → gv.ownBlock ≠ some k

section
variable {w : World} {D L O R base n : Nat} {H : Int} {rest line : Nat → Int} {other : Nat → Nat} {sv gv : Value} {small great : List Nat}
theorem RefFill.cH (h : RefFill w D L O R base n H rest line other sv gv small great) : w.cell? ⟨D, 0, none⟩ = some (.int .i64 H) := h.h.cell (by omega)
theorem RefFill.cL (h : RefFill w D L O R base n H rest line other sv gv small great) : w.cell? ⟨D, 1, none⟩ = some (.slice (some ⟨L, 0, none⟩) n n) := h.h.cell (by omega)
theorem RefFill.cO (h : RefFill w D L O R base n H rest line other sv gv small great) : w.cell? ⟨D, 2, none⟩ = some (.slice (some ⟨O, 0, none⟩) n n) := h.h.cell (by omega)
theorem RefFill.drewN (h : RefFill w D L O R base n H rest line other sv gv small great) (m : Nat) : RefFill (w.drewN m) D L O R base n H rest line other sv gv small great := ⟨h.h, h.l, h.o, h.r, h.s, h.g, h.ne⟩
theorem RefFill.drew (h : RefFill w D L O R base n H rest line other sv gv small great) : RefFill w.drew D L O R base n H rest line other sv gv small great := ⟨h.h, h.l, h.o, h.r, h.s, h.g, h.ne⟩
theorem RefFill.setH (h : RefFill w D L O R base n H rest line other sv gv small great) (a : Apart D L O R base) (x : Int) : RefFill (w.setCell ⟨D, 0, none⟩ (.int .i64 x)) D L O R base n x rest line other sv gv small great where
  h := (h.h.set 0 _).congr (fun i _ => by
    show (if i = 0 then Value.int .i64 x else ownv H L O n i) = ownv x L O n i
    unfold ownv; split <;> rfl)
  l := h.l.setOther (fun e => a.dl e.symm) _
  o := h.o.setOther (fun e => a.d' e.symm) _
  r := h.r.setOther (fun e => a.dr e.symm) _
  s := h.s.setCell _ _ (que_off h.s a.bd.1)
  g := h.g.setCell _ _ (que_off h.g a.bd.1)
  ne := h.ne
theorem RefFill.setR (h : RefFill w D L O R base n H rest line other sv gv small great) (a : Apart D L O R base) (k : Nat) (x : Int) : RefFill (w.setCell ⟨R, k, none⟩ (.int .i64 x)) D L O R base n H (upd rest k x) line other sv gv small great where
  h := h.h.setOther a.dr _
  l := h.l.setOther a.lr _
  o := h.o.setOther a.or' _
  r := (h.r.set k _).congr (fun i _ => by
    show (if i = k then Value.int .i64 x else .int .i64 (rest i)) = .int .i64 (upd rest k x i)
    unfold upd; split <;> rfl)
  s := h.s.setCell _ _ (que_off h.s a.bd.2.2.2)
  g := h.g.setCell _ _ (que_off h.g a.bd.2.2.2)
  ne := h.ne
theorem RefFill.setL (h : RefFill w D L O R base n H rest line other sv gv small great) (a : Apart D L O R base) (k : Nat) (x : Int) : RefFill (w.setCell ⟨L, k, none⟩ (.int .i64 x)) D L O R base n H rest (upd line k x) other sv gv small great where
  h := h.h.setOther a.dl _
  l := (h.l.set k _).congr (fun i _ => by
    show (if i = k then Value.int .i64 x else .int .i64 (line i)) = .int .i64 (upd line k x i)
    unfold upd; split <;> rfl)
  o := h.o.setOther (fun e => a.lo e.symm) _
  r := h.r.setOther (fun e => a.lr e.symm) _
  s := h.s.setCell _ _ (que_off h.s a.bd.2.1)
  g := h.g.setCell _ _ (que_off h.g a.bd.2.1)
  ne := h.ne
theorem RefFill.setO (h : RefFill w D L O R base n H rest line other sv gv small great) (a : Apart D L O R base) (k x : Nat) : RefFill (w.setCell ⟨O, k, none⟩ (.int .i64 x)) D L O R base n H rest line (upd other k x) sv gv small great where
  h := h.h.setOther a.d' _
  l := h.l.setOther a.lo _
  o := (h.o.set k _).congr (fun i _ => by
    show (if i = k then Value.int .i64 (x : Int) else .int .i64 (other i)) = .int .i64 ((upd other k x i : Nat) : Int)
    unfold upd; split <;> rfl)
  r := h.r.setOther (fun e => a.or' e.symm) _
  s := h.s.setCell _ _ (que_off h.s a.bd.2.2.1)
  g := h.g.setCell _ _ (que_off h.g a.bd.2.2.1)
  ne := h.ne
theorem RefFill.alloc (h : RefFill w D L O R base n H rest line other sv gv small great) (x : Obj) : RefFill (w.alloc x) D L O R base n H rest line other sv gv small great :=
  ⟨h.h.alloc x, h.l.alloc x, h.o.alloc x, h.r.alloc x, h.s.alloc x, h.g.alloc x, h.ne⟩
theorem RefFill.pushS {w' : World} {sv' : Value} {k : Nat} (h : RefFill w D L O R base n H rest line other sv gv small great) (a : Apart D L O R base) (hq : Que w' 3 base sv' (ints small ++ [(k : Int)])) (hg : w.grownBy w' sv.ownBlock)
    (ho : sv'.ownBlock = sv.ownBlock ∨ ∃ k, sv'.ownBlock = some k ∧ w.heap.size ≤ k) : RefFill w' D L O R base n H rest line other sv' gv (small ++ [k]) great := by
  have off : ∀ b, b < base → some b ≠ sv.ownBlock := fun b hb e => que_off h.s hb e.symm
  exact {
    h := h.h.of_block (hg.block _ h.h.lt (off _ a.bd.1))
    l := h.l.of_block (hg.block _ h.l.lt (off _ a.bd.2.1))
    o := h.o.of_block (hg.block _ h.o.lt (off _ a.bd.2.2.1))
    r := h.r.of_block (hg.block _ h.r.lt (off _ a.bd.2.2.2))
    s := by rw [ints_append]; exact hq
    g := h.g.grown hg (fun k hk e => h.ne k e.symm hk)
    ne := fun j hj hk => by
      rcases ho with e | ⟨i, e, hi⟩
      · exact h.ne j (e.symm.trans hj) hk
      · obtain rfl := Option.some.inj (e.symm.trans hj)
        have := (h.g.lt i hk).2
        omega }
theorem RefFill.pushG {w' : World} {gv' : Value} {k : Nat} (h : RefFill w D L O R base n H rest line other sv gv small great) (a : Apart D L O R base) (hq : Que w' 3 base gv' (ints great ++ [(k : Int)])) (hg : w.grownBy w' gv.ownBlock)
    (ho : gv'.ownBlock = gv.ownBlock ∨ ∃ k, gv'.ownBlock = some k ∧ w.heap.size ≤ k) : RefFill w' D L O R base n H rest line other sv gv' small (great ++ [k]) := by
  have off : ∀ b, b < base → some b ≠ gv.ownBlock := fun b hb e => que_off h.g hb e.symm
  exact {
    h := h.h.of_block (hg.block _ h.h.lt (off _ a.bd.1))
    l := h.l.of_block (hg.block _ h.l.lt (off _ a.bd.2.1))
    o := h.o.of_block (hg.block _ h.o.lt (off _ a.bd.2.2.1))
    r := h.r.of_block (hg.block _ h.r.lt (off _ a.bd.2.2.2))
    s := h.s.grown hg (fun k hk e => h.ne k hk e.symm)
    g := by rw [ints_append]; exact hq
    ne := fun j hj hk => by
      rcases ho with e | ⟨i, e, hi⟩
      · exact h.ne j hj (e.symm.trans hk)
      · obtain rfl := Option.some.inj (e.symm.trans hk)
        have := (h.s.lt i hj).2
        omega }
theorem RefFill.as {rest' line' : Nat → Int} {other' : Nat → Nat} (h : RefFill w D L O R base n H rest line other sv gv small great) (e1 : ∀ k, k < n → rest k = rest' k) (e2 : ∀ k, k < n → line k = line' k) (e3 : ∀ k, k < n → other k = other' k) :
    RefFill w D L O R base n H rest' line' other' sv gv small great where
  h := h.h
  l := h.l.congr (fun i hi => by rw [e2 i hi])
  o := h.o.congr (fun i hi => by rw [e3 i hi])
  r := h.r.congr (fun i hi => by rw [e1 i hi])
  s := h.s
  g := h.g
  ne := h.ne
end
/-- at first -/
theorem ref_start (w : World) (n : Nat) (t : TypeId) (x : World) (D L O : Nat) (hD : x.rowIs D 219 3 (ownv 0 L O n)) (hL : x.rowIs L 3 n (fun _ => .int .i64 0)) (hO : x.rowIs O 3 n (fun _ => .int .i64 0)) (dl : D ≠ L) (d' : D ≠ O) (lo : L ≠ O) (b : w.heap.size ≤ D) (ht : t = 3) :
    RefFill (x.alloc (.cells (noughts n) t)) D L O x.heap.size (x.heap.size + 1) n 0 (fun _ => 0) (fun _ => 0) (fun _ => 0) (.slice none 0 0) (.slice none 0 0) [] [] ∧ Apart D L O x.heap.size (x.heap.size + 1) ∧ w.heap.size ≤ D := by
  subst ht
  have h1 := hD.lt
  have h2 := hL.lt
  have h3 := hO.lt
  have r := World.rowIs_alloc x (noughts n) 3 (fun _ => .int .i64 0) (fun i hi => noughts_at n i (by rw [noughts_size] at hi; exact hi))
  rw [noughts_size] at r
  exact ⟨⟨hD.alloc _, hL.alloc _, (hO.alloc _).congr (fun _ _ => rfl), r, Que.nil _ _ _, Que.nil _ _ _, fun k hk => by simp [Value.ownBlock] at hk⟩, ⟨dl, d', by omega, lo, by omega, by omega, by omega, by omega, by omega, by omega⟩, b⟩
end Go.Proofs.YtaihcceobnfmhaaGreatDoor
