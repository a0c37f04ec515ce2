/-
  The program's stakes and the document's, side by side.
  The program's chain has what the document's has (bakehouselaw3.asChain), by its contract.
-/
import Derived.Test.YtaihcceobnfmhaaGreatDoorCaseRowX
import Derived.Test.YtaihcceobnfmhaaGreatDoorRefStkLeaveX
import Derived.Test.YtaihcceobnfmhaaGreatDoorRefStkSlashX
import Derived.Test.YtaihcceobnfmhaaGreatDoorCoded2X
import Derived.Test.YtaihcceobnfmhaaGreatDoorAidX
import Derived.Test.YtaihcceobnfmhaaGreatDoorProgPurseX
import Derived.Test.YtaihcceobnfmhaaGreatDoorBegunX
import Derived.Deep.RegionHeld3
namespace Go.Proofs.YtaihcceobnfmhaaGreatDoor
open Go.RowKit

theorem Laid.stk {w : World} {A : Nat → Addr} (h : Laid w A) : StkLaid w A := ⟨h.v1, h.v3, h.v4, h.v5, h.v6, h.v7⟩
theorem PSk.drewN {F : Nat → Prop} {w : World} {sb g : Nat} {S : Sk} (h : PSk F w sb S g) (n : Nat) : PSk F (w.drewN n) sb S g := h.keptP (G := fun _ => False) ((KeptP.refl _ _).drewN n) (fun _ g => g.elim)
theorem PSk.nextB {F : Nat → Prop} {w w' : World} {sb g : Nat} {S : Sk} (h : PSk F w sb S g) (k : Below w.heap.size w w') : PSk F w' sb S g := h.keptP (KeptP.of_below (F := fun _ => False) k) fun _ g => g.elim
theorem RSk.nextB {F : Nat → Prop} {w w' : World} {sb : Nat} {S : Sk} (h : RSk F w sb S) (k : Below w.heap.size w w') : RSk F w' sb S := h.keptP (KeptP.of_below (F := fun _ => False) k) fun _ g => g.elim
/-- a step of the first -/
theorem Sides.first {B : Nat} {w0 w w' : World} {F F' G : Nat → Prop} {rb : Nat} {T : Sk} (h : Sides B w0 w F G) (hR : RSk G w rb T) (hM : Moved F F' w w') : RSk G w' rb T ∧ Sides B w0 w' F' G := by
  refine ⟨hR.keptP hM.kept h.apart, fun k hk hg => ?_, fun k hk => ?_, h.g, h.below.trans (hM.kept.below h.size h.f), Nat.le_trans h.size hM.kept.size⟩
  · exact h.apart k (hM.old k (hR.lt k hg) hk) hg
  · rcases Nat.lt_or_ge k w.heap.size with l | l
    · exact h.f k (hM.old k l hk)
    · exact Nat.le_trans h.size l
/-- a step of the second -/
theorem Sides.second {B : Nat} {w0 w w' : World} {F G G' : Nat → Prop} {sb g : Nat} {S : Sk} (h : Sides B w0 w F G) (hP : PSk F w sb S g) (hM : Moved G G' w w') : PSk F w' sb S g ∧ Sides B w0 w' F G' := by
  refine ⟨hP.keptP hM.kept (fun k hg hf => h.apart k hf hg), fun k hk hg => ?_, h.f, fun k hk => ?_, h.below.trans (hM.kept.below h.size h.g), Nat.le_trans h.size hM.kept.size⟩
  · exact h.apart k hk (hM.old k (hP.lt k hk) hg)
  · rcases Nat.lt_or_ge k w.heap.size with l | l
    · exact h.g k (hM.old k l hk)
    · exact Nat.le_trans h.size l
/-- both after an act: the same stakes -/
def Both (B : Nat) (w0 w : World) (sb rb : Nat) (g l : Nat) : Prop := ∃ F G S, S.Ok ∧ S.K.length ≤ l ∧ PSk F w sb S g ∧ RSk G w rb S ∧ Sides B w0 w F G
theorem RSk.len {G : Nat → Prop} {w : World} {rb : Nat} {S : Sk} (h : RSk G w rb S) {m : Nat} (hl : S.K.length ≤ m) : ∃ tag pb v L, (∀ k, G k ↔ tag k ≠ 0) ∧ RSkAt tag w rb pb v L S ∧ L.length ≤ m := by
  obtain ⟨tag, pb, v, L, hF, h⟩ := h
  exact ⟨tag, pb, v, L, hF, h, by rw [← h.klen]; exact hl⟩
theorem rsk_is (G : Nat → Prop) (rb : Nat) (S : Sk) (hS : S.Ok) (b : Int) (w : World) (h : RSk G w rb S) :
    Calls Tryz.prog 123 #[.pointer (some ⟨rb, 0, none⟩), .int .i64 b] w fun e w' => e = .returned (.bool (S.R b)) ∧ w' = w := by
  obtain ⟨tag, pb, v, L, _, h⟩ := h
  exact rs_is tag rb pb v L S hS b w h
theorem rsk_staked (G : Nat → Prop) (rb : Nat) (S : Sk) (hS : S.Ok) (b : Int) (w : World) (h : RSk G w rb S) :
    Calls Tryz.prog 86 #[.pointer (some ⟨rb, 0, none⟩), .int .i64 b] w fun e w' => e = .returned (.int .i64 (S.P b).T) ∧ w' = w := by
  obtain ⟨tag, pb, v, L, _, h⟩ := h
  exact rs_staked tag rb pb v L S hS b w h
theorem rsk_value (G : Nat → Prop) (rb : Nat) (S : Sk) (hS : S.Ok) (o b : Int) (w : World) (h : RSk G w rb S) :
    Calls Tryz.prog 81 #[.pointer (some ⟨rb, 0, none⟩), .int .i64 o, .int .i64 b] w fun e w' => e = .returned (.int .i64 ((S.P b).val o)) ∧ ∃ n, w' = w.drewN n := by
  obtain ⟨tag, pb, v, L, _, h⟩ := h
  exact rs_value tag rb pb v L S hS o b w h
theorem rsk_waits (G : Nat → Prop) (rb : Nat) (S : Sk) (hS : S.Ok) (hl : S.K.length ≤ 1000) (o b c : Int) (w : World) (h : RSk G w rb S) :
    Calls Tryz.prog 83 #[.pointer (some ⟨rb, 0, none⟩), .int .i64 o, .int .i64 b, .int .i64 c] w fun e w' => e = .returned (.int .i64 ((S.W b c).val o)) ∧ ∃ n, w' = w.drewN n := by
  obtain ⟨tag, pb, v, L, _, h, hL⟩ := h.len hl
  exact rs_waits tag rb pb v L S hS o b c hL w h
theorem rsk_total (G : Nat → Prop) (rb : Nat) (S : Sk) (hS : S.Ok) (hl : S.K.length ≤ 1000) (w : World) (h : RSk G w rb S) :
    Calls Tryz.prog 37 #[.pointer (some ⟨rb, 0, none⟩)] w fun e w' => e = .returned (.int .i64 S.total) ∧ w' = w := by
  obtain ⟨tag, pb, v, L, _, h, hL⟩ := h.len hl
  exact rs_total tag rb pb v L S hS hL w h
end Go.Proofs.YtaihcceobnfmhaaGreatDoor

namespace Go.Proofs.YtaihcceobnfmhaaGreatDoor
open Go.RowKit

set_option maxRecDepth 100000 in
set_option maxHeartbeats 4000000 in
theorem asChain_of (w0 : World) (F G : Nat → Prop) (cb rb : Nat) (C : Ch) (hC : C.Ok) (hk : C.s.K.length ≤ 400) (hy : C.cyc ≤ 400) (g : Nat) (w : World) (hP : PCh F w cb C g) (hR : RCh G w rb C) (hW : Sides w0.heap.size w0 w F G) :
    Calls Tryz.prog 29 #[.pointer (some ⟨cb, 0, none⟩), .pointer (some ⟨rb, 0, none⟩)] w fun e w' => e = .returned (.bool true) ∧ PCh F w' cb C g ∧ RCh G w' rb C ∧ Sides w0.heap.size w0 w' F G := by
  obtain ⟨pb, sb, kb, hR⟩ := hR.parts
  obtain ⟨pq, hp⟩ := hR.pur
  have wy : (Lit.int .i64 (C.cyc : Int)).wf = true := WalkArith.wf_i64 (by omega)
  go_enter Tryz.func29, Tryz.ntmps29
  go_wp2_with fail
  obtain ⟨wz, hz⟩ : ∃ wz, wz = w := ⟨_, rfl⟩
  have B0 : Below wz.heap.size wz w := by rw [hz]; exact Below.refl _ _
  have zP : PCh F wz cb C g := by rw [hz]; exact hP
  have zR : RChB G wz rb pb sb kb C := by rw [hz]; exact hR
  have zW : Sides w0.heap.size w0 wz F G := by rw [hz]; exact hW
  have q0 : w.cell? ⟨rb, 4, none⟩ = some (.int .i64 C.cyc) := hR.c4
  have q1 : w.cell? ⟨rb, 5, none⟩ = some (.int .i64 C.lev) := hR.c5
  have q2 : w.cell? ⟨rb, 6, none⟩ = some (.int .i64 C.bon) := hR.c6
  have q3 : w.cell? ⟨rb, 0, none⟩ = some (.pointer (some ⟨pb, 0, none⟩)) := hR.c0
  have q4 : w.cell? ⟨pb, 1, none⟩ = some (.int .i64 C.p.S) := hp.c1
  have d0 : (((C.cyc : Nat) : Int) != ((C.cyc : Nat) : Int)) = false := by simp
  have d1 : (((C.lev : Nat) : Int) != ((C.lev : Nat) : Int)) = false := by simp
  have d2 : (C.bon != C.bon) = false := by simp
  have d3 : (C.p.S != C.p.S) = false := by simp
  clear hP hR hW
  have u0 : wz.cell? ⟨rb, 4, none⟩ = some (.int .i64 C.cyc) := by rw [hz]; exact q0
  have u1 : wz.cell? ⟨rb, 5, none⟩ = some (.int .i64 C.lev) := by rw [hz]; exact q1
  have u2 : wz.cell? ⟨rb, 6, none⟩ = some (.int .i64 C.bon) := by rw [hz]; exact q2
  have u3 : wz.cell? ⟨rb, 0, none⟩ = some (.pointer (some ⟨pb, 0, none⟩)) := by rw [hz]; exact q3
  have u4 : wz.cell? ⟨pb, 1, none⟩ = some (.int .i64 C.p.S) := by rw [hz]; exact q4
  have up : wz.cell? ⟨pb, 0, none⟩ = some (.slice (some ⟨pq, 0, none⟩) 6 6) := by rw [hz]; exact hp.c0
  have us : ∀ i : Nat, i < 6 → wz.cell? ⟨pq, i, none⟩ = some (.int .i64 (C.p.s i)) := by rw [hz]; exact hp.s
  clear hz hp
  go_region_held3 (fun w' => w'.cell? ⟨rb, 4, none⟩ = some (.int .i64 C.cyc) ∧ w'.cell? ⟨rb, 5, none⟩ = some (.int .i64 C.lev) ∧ w'.cell? ⟨rb, 6, none⟩ = some (.int .i64 C.bon) ∧ w'.cell? ⟨rb, 0, none⟩ = some (.pointer (some ⟨pb, 0, none⟩)) ∧ w'.cell? ⟨pb, 1, none⟩ = some (.int .i64 C.p.S)) (exact ⟨by assumption, by assumption, by assumption, by assumption, by assumption⟩)
    (first
      | (go_at_call 19; refine (pch_cycle F cb C g _ (by first | exact zP.nextB B0 | exact (zP.nextB B0).drewN _)).mono ?_; rintro e w1 ⟨rfl, hB1⟩; have B1 : Below wz.heap.size wz w1 := (by first | exact B0.trans (hB1.mono B0.size) | exact (below_drewN B0 _).trans (hB1.mono B0.size)); have q1_0 : w1.cell? ⟨rb, 4, none⟩ = some (.int .i64 C.cyc) := stk_old B1 u0; have q1_1 : w1.cell? ⟨rb, 5, none⟩ = some (.int .i64 C.lev) := stk_old B1 u1; have q1_2 : w1.cell? ⟨rb, 6, none⟩ = some (.int .i64 C.bon) := stk_old B1 u2; have q1_3 : w1.cell? ⟨rb, 0, none⟩ = some (.pointer (some ⟨pb, 0, none⟩)) := stk_old B1 u3; have q1_4 : w1.cell? ⟨pb, 1, none⟩ = some (.int .i64 C.p.S) := stk_old B1 u4)
      | (go_at_call 15; refine (pch_level F cb C g _ (by first | exact zP.nextB B1 | exact (zP.nextB B1).drewN _)).mono ?_; rintro e w2 ⟨rfl, hB2⟩; have B2 : Below wz.heap.size wz w2 := (by first | exact B1.trans (hB2.mono B1.size) | exact (below_drewN B1 _).trans (hB2.mono B1.size)); have q2_0 : w2.cell? ⟨rb, 4, none⟩ = some (.int .i64 C.cyc) := stk_old B2 u0; have q2_1 : w2.cell? ⟨rb, 5, none⟩ = some (.int .i64 C.lev) := stk_old B2 u1; have q2_2 : w2.cell? ⟨rb, 6, none⟩ = some (.int .i64 C.bon) := stk_old B2 u2; have q2_3 : w2.cell? ⟨rb, 0, none⟩ = some (.pointer (some ⟨pb, 0, none⟩)) := stk_old B2 u3; have q2_4 : w2.cell? ⟨pb, 1, none⟩ = some (.int .i64 C.p.S) := stk_old B2 u4)
      | (go_at_call 25; refine (pch_bonus F cb C g _ (by first | exact zP.nextB B2 | exact (zP.nextB B2).drewN _)).mono ?_; rintro e w3 ⟨rfl, hB3⟩; have B3 : Below wz.heap.size wz w3 := (by first | exact B2.trans (hB3.mono B2.size) | exact (below_drewN B2 _).trans (hB3.mono B2.size)); have q3_0 : w3.cell? ⟨rb, 4, none⟩ = some (.int .i64 C.cyc) := stk_old B3 u0; have q3_1 : w3.cell? ⟨rb, 5, none⟩ = some (.int .i64 C.lev) := stk_old B3 u1; have q3_2 : w3.cell? ⟨rb, 6, none⟩ = some (.int .i64 C.bon) := stk_old B3 u2; have q3_3 : w3.cell? ⟨rb, 0, none⟩ = some (.pointer (some ⟨pb, 0, none⟩)) := stk_old B3 u3; have q3_4 : w3.cell? ⟨pb, 1, none⟩ = some (.int .i64 C.p.S) := stk_old B3 u4)
      | (go_at_call 18; refine (pch_supply F cb C g _ (by first | exact zP.nextB B3 | exact (zP.nextB B3).drewN _)).mono ?_; rintro e w4 ⟨rfl, hB4⟩; have B4 : Below wz.heap.size wz w4 := (by first | exact B3.trans (hB4.mono B3.size) | exact (below_drewN B3 _).trans (hB4.mono B3.size)); have q4_0 : w4.cell? ⟨rb, 4, none⟩ = some (.int .i64 C.cyc) := stk_old B4 u0; have q4_1 : w4.cell? ⟨rb, 5, none⟩ = some (.int .i64 C.lev) := stk_old B4 u1; have q4_2 : w4.cell? ⟨rb, 6, none⟩ = some (.int .i64 C.bon) := stk_old B4 u2; have q4_3 : w4.cell? ⟨rb, 0, none⟩ = some (.pointer (some ⟨pb, 0, none⟩)) := stk_old B4 u3; have q4_4 : w4.cell? ⟨pb, 1, none⟩ = some (.int .i64 C.p.S) := stk_old B4 u4))
  clear q0 q1 q2 q3 q4 d0 d1 d2 d3
  go_wp2_with fail
  go_loopw [5] (fun i wr => ∃ o : Nat, o ≤ 6 ∧ i = .int .i64 o ∧ Below wz.heap.size wz wr) (fun i _ => 6 - (intOf i).toNat)
  case atStart => exact ⟨0, by omega, rfl, B4⟩
  case round =>
    obtain ⟨o, ho, rfl, B⟩ := hrel
    clear B0 B1 B2 B3 B4
    by_cases ho6 : o < 6
    · have wo : (Lit.int .i64 (o : Int)).wf = true := WalkArith.wf_i64 (by omega)
      have d0 : (C.p.s o != C.p.s o) = false := by simp
      have r0 : wr.cell? ⟨rb, 0, none⟩ = some (.pointer (some ⟨pb, 0, none⟩)) := stk_old B u3
      have r1 : wr.cell? ⟨pb, 0, none⟩ = some (.slice (some ⟨pq, 0, none⟩) 6 6) := stk_old B up
      have r2 : wr.cell? ⟨pq, o, none⟩ = some (.int .i64 (C.p.s o)) := stk_old B (us o ho6)
      go_wp2_with fail
      go_region_held3 (fun w' => w'.cell? ⟨rb, 0, none⟩ = some (.pointer (some ⟨pb, 0, none⟩)) ∧ w'.cell? ⟨pb, 0, none⟩ = some (.slice (some ⟨pq, 0, none⟩) 6 6) ∧ w'.cell? ⟨pq, o, none⟩ = some (.int .i64 (C.p.s o))) (exact ⟨by assumption, by assumption, by assumption⟩)
        (first | (go_at_call 22; refine (pch_has F cb C hC g o _ (by first | exact zP.nextB B | exact (zP.nextB B).drewN _)).mono ?_; rintro e w1 ⟨rfl, hB1⟩; have B1 : Below wz.heap.size wz w1 := (by first | exact B.trans (hB1.mono B.size) | exact (below_drewN B _).trans (hB1.mono B.size)); have r1_0 : w1.cell? ⟨rb, 0, none⟩ = some (.pointer (some ⟨pb, 0, none⟩)) := stk_old B1 u3; have r1_1 : w1.cell? ⟨pb, 0, none⟩ = some (.slice (some ⟨pq, 0, none⟩) 6 6) := stk_old B1 up; have r1_2 : w1.cell? ⟨pq, o, none⟩ = some (.int .i64 (C.p.s o)) := stk_old B1 (us o ho6)))
      clear r0 r1 r2 d0
      go_wp2_with fail
      go_loopw [6] (fun i wx => ∃ p : Nat, p ≤ 3 ∧ i = .int .i64 p ∧ Below wz.heap.size wz wx) (fun i _ => 3 - (intOf i).toNat)
      case atStart => exact ⟨0, by omega, rfl, B1⟩
      case round =>
        obtain ⟨p, hp, rfl, B⟩ := hrel
        by_cases hp3 : p < 3
        · have wp : (Lit.int .i64 (p : Int)).wf = true := WalkArith.wf_i64 (by omega)
          have d0 : ((C.s.P p).val o != (C.s.P p).val o) = false := by simp
          have d1 : ((C.s.W p C.cyc).val o != (C.s.W p C.cyc).val o) = false := by simp
          have r0 : wr.cell? ⟨rb, 1, none⟩ = some (.pointer (some ⟨sb, 0, none⟩)) := (zR.nextB B).c1
          have r1 : wr.cell? ⟨rb, 4, none⟩ = some (.int .i64 C.cyc) := (zR.nextB B).c4
          have t0 := zR.c1
          have t1 := zR.c4
          go_wp2_with fail
          go_region_held3 (fun w' => w'.cell? ⟨rb, 1, none⟩ = some (.pointer (some ⟨sb, 0, none⟩)) ∧ w'.cell? ⟨rb, 4, none⟩ = some (.int .i64 C.cyc)) (exact ⟨by assumption, by assumption⟩)
            (first
              | (go_at_call 16; refine (pch_stakes F cb C g _ (by first | exact zP.nextB B | exact (zP.nextB B).drewN _)).mono ?_; rintro e w11 ⟨s1, Fs1, rfl, hs1, _, hB11⟩; have B11 : Below wz.heap.size wz w11 := (by first | exact B.trans (hB11.mono B.size) | exact (below_drewN B _).trans (hB11.mono B.size)); have r11_0 : w11.cell? ⟨rb, 1, none⟩ = some (.pointer (some ⟨sb, 0, none⟩)) := stk_old B11 t0; have r11_1 : w11.cell? ⟨rb, 4, none⟩ = some (.int .i64 C.cyc) := stk_old B11 t1)
              | (go_at_call 80; refine (ps_value Fs1 s1 C.s hC.s _ o p wo _ (by first | exact hs1 | exact hs1.drewN _)).mono ?_; rintro e w12 ⟨rfl, m12, hw12⟩; have B12 : Below wz.heap.size wz w12 := (by rw [hw12]; first | exact below_drewN B11 _ | exact below_drewN (below_drewN B11 _) _); have r12_0 : w12.cell? ⟨rb, 1, none⟩ = some (.pointer (some ⟨sb, 0, none⟩)) := stk_old B12 t0; have r12_1 : w12.cell? ⟨rb, 4, none⟩ = some (.int .i64 C.cyc) := stk_old B12 t1; clear hw12)
              | (go_at_call 81; obtain ⟨Gs, hGs, _⟩ := (zR.nextB B12).stk; refine (rsk_value Gs sb C.s hC.s o p _ (by first | exact hGs | exact hGs.drewN _)).mono ?_; rintro e w13 ⟨rfl, m13, hw13⟩; have B13 : Below wz.heap.size wz w13 := (by rw [hw13]; first | exact below_drewN B12 _ | exact below_drewN (below_drewN B12 _) _); have r13_0 : w13.cell? ⟨rb, 1, none⟩ = some (.pointer (some ⟨sb, 0, none⟩)) := stk_old B13 t0; have r13_1 : w13.cell? ⟨rb, 4, none⟩ = some (.int .i64 C.cyc) := stk_old B13 t1; clear hw13)
              | (go_at_call 16; refine (pch_stakes F cb C g _ (by first | exact zP.nextB B13 | exact (zP.nextB B13).drewN _)).mono ?_; rintro e w14 ⟨s2, Fs2, rfl, hs2, _, hB14⟩; have B14 : Below wz.heap.size wz w14 := (by first | exact B13.trans (hB14.mono B13.size) | exact (below_drewN B13 _).trans (hB14.mono B13.size)); have r14_0 : w14.cell? ⟨rb, 1, none⟩ = some (.pointer (some ⟨sb, 0, none⟩)) := stk_old B14 t0; have r14_1 : w14.cell? ⟨rb, 4, none⟩ = some (.int .i64 C.cyc) := stk_old B14 t1)
              | (go_at_call 19; refine (pch_cycle F cb C g _ (by first | exact zP.nextB B14 | exact (zP.nextB B14).drewN _)).mono ?_; rintro e w15 ⟨rfl, hB15⟩; have hs3 := (by first | exact hs2.nextB hB15 | exact (hs2.drewN _).nextB hB15 : PSk Fs2 w15 s2 C.s g); have B15 : Below wz.heap.size wz w15 := (by first | exact B14.trans (hB15.mono B14.size) | exact (below_drewN B14 _).trans (hB15.mono B14.size)); have r15_0 : w15.cell? ⟨rb, 1, none⟩ = some (.pointer (some ⟨sb, 0, none⟩)) := stk_old B15 t0; have r15_1 : w15.cell? ⟨rb, 4, none⟩ = some (.int .i64 C.cyc) := stk_old B15 t1)
              | (go_at_call 82; refine (ps_waits Fs2 s2 C.s hC.s _ o p C.cyc wo wy _ (by first | exact hs3 | exact hs3.drewN _)).mono ?_; rintro e w16 ⟨rfl, hB16⟩; have B16 : Below wz.heap.size wz w16 := (by first | exact B15.trans (hB16.mono B15.size) | exact (below_drewN B15 _).trans (hB16.mono B15.size)); have r16_0 : w16.cell? ⟨rb, 1, none⟩ = some (.pointer (some ⟨sb, 0, none⟩)) := stk_old B16 t0; have r16_1 : w16.cell? ⟨rb, 4, none⟩ = some (.int .i64 C.cyc) := stk_old B16 t1)
              | (go_at_call 83; obtain ⟨Gt, hGt, _⟩ := (zR.nextB B16).stk; refine (rsk_waits Gt sb C.s hC.s (by omega) o p C.cyc _ (by first | exact hGt | exact hGt.drewN _)).mono ?_; rintro e w17 ⟨rfl, m17, hw17⟩; have B17 : Below wz.heap.size wz w17 := (by rw [hw17]; first | exact below_drewN B16 _ | exact below_drewN (below_drewN B16 _) _); have r17_0 : w17.cell? ⟨rb, 1, none⟩ = some (.pointer (some ⟨sb, 0, none⟩)) := stk_old B17 t0; have r17_1 : w17.cell? ⟨rb, 4, none⟩ = some (.int .i64 C.cyc) := stk_old B17 t1; clear hw17))
          go_wp2_with fail
          go_roundw
          case rel => exact ⟨p + 1, by omega, by go_num, B17⟩
          case measure => simp [intOf]; omega
        · obtain rfl : p = 3 := by omega
          go_wp2_with fail
          go_roundw
          case rel => exact ⟨o + 1, by omega, by go_num, B⟩
          case measure => simp [intOf]; omega
    · obtain rfl : o = 6 := by omega
      have d0 : (C.s.total == C.s.total) = true := by simp
      have r0 : wr.cell? ⟨rb, 1, none⟩ = some (.pointer (some ⟨sb, 0, none⟩)) := (zR.nextB B).c1
      have t0 := zR.c1
      go_wp2_with fail
      go_region_held3 (fun w' => w'.cell? ⟨rb, 1, none⟩ = some (.pointer (some ⟨sb, 0, none⟩))) (assumption)
        (first
          | (go_at_call 16; refine (pch_stakes F cb C g _ (by first | exact zP.nextB B | exact (zP.nextB B).drewN _)).mono ?_; rintro e w11 ⟨s1, Fs1, rfl, hs1, _, hB11⟩; have B11 : Below wz.heap.size wz w11 := (by first | exact B.trans (hB11.mono B.size) | exact (below_drewN B _).trans (hB11.mono B.size)); have r11_0 : w11.cell? ⟨rb, 1, none⟩ = some (.pointer (some ⟨sb, 0, none⟩)) := stk_old B11 t0)
          | (go_at_call 21; refine (ps_total Fs1 s1 C.s hC.s (by omega) _ _ (by first | exact hs1 | exact hs1.drewN _)).mono ?_; rintro e w12 ⟨rfl, hB12⟩; have B12 : Below wz.heap.size wz w12 := (by first | exact B11.trans (hB12.mono B11.size) | exact (below_drewN B11 _).trans (hB12.mono B11.size)); have r12_0 : w12.cell? ⟨rb, 1, none⟩ = some (.pointer (some ⟨sb, 0, none⟩)) := stk_old B12 t0)
          | (go_at_call 37; obtain ⟨Gs, hGs, _⟩ := (zR.nextB B12).stk; refine (rsk_total Gs sb C.s hC.s (by omega) _ (by first | exact hGs | exact hGs.drewN _)).mono ?_; rintro e w13 ⟨rfl, hw13⟩; have B13 : Below wz.heap.size wz w13 := (by rw [hw13]; first | exact B12 | exact below_drewN B12 _); have r13_0 : w13.cell? ⟨rb, 1, none⟩ = some (.pointer (some ⟨sb, 0, none⟩)) := stk_old B13 t0; clear hw13))
      go_wp2_with fail
      go_ret
      exact ⟨rfl, zP.nextB B13, (zR.nextB B13).whole, zW.nextB B13⟩
end Go.Proofs.YtaihcceobnfmhaaGreatDoor
