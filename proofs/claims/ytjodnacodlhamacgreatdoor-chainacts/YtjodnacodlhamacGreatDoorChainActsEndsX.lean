/-
  The program's stakes and the document's, side by side.
  The program's chain has what the document's has (bakehouselaw3.asChain), by its contract.
  One act on the program's chain and on the document's: both answer the same.
  The document's chain by its contracts: a new one.
  The law ChainActs of package bakehouselaw3, walked: for every seed and every slice of acts it returns true.
  The law ChainActs, walked, where there is nothing to do, or too much; all of it.
-/
import Derived.Test.YtjodnacodlhamacGreatDoorRefCourtX
import Derived.Test.YtjodnacodlhamacGreatDoorRefStkWaitX
import Derived.Test.YtjodnacodlhamacGreatDoorRefIssueX
import Derived.Test.YtjodnacodlhamacGreatDoorCoded2X
import Derived.Test.YtjodnacodlhamacGreatDoorAidX
import Derived.Test.YtjodnacodlhamacGreatDoorProgPurseX
import Derived.Test.YtjodnacodlhamacGreatDoorBegunX
import Derived.Deep.RegionHeld3
import Derived.Test.YtjodnacodlhamacGreatDoorChainDoX
import Derived.Test.YtjodnacodlhamacGreatDoorCoded3
import Derived.Deep.RegionLaw
namespace Go.Proofs.YtjodnacodlhamacGreatDoor
open Go.RowKit

theorem Laid.stk {w : World} {A : Nat → Addr} (h : Laid w A) : StkLaid w A := ⟨h.v1, h.v3, h.v4, h.v5, h.v6, h.v7⟩
theorem PSk.drewN {F : Nat → Prop} {w : World} {sb g : Nat} {S : Sk} (h : PSk F w sb S g) (n : Nat) : PSk F (w.drewN n) sb S g := h.keptP (G := fun _ => False) ((KeptP.refl _ _).drewN n) (fun _ g => g.elim)
theorem PSk.nextB {F : Nat → Prop} {w w' : World} {sb g : Nat} {S : Sk} (h : PSk F w sb S g) (k : Below w.heap.size w w') : PSk F w' sb S g := h.keptP (KeptP.of_below (F := fun _ => False) k) fun _ g => g.elim
theorem RSk.nextB {F : Nat → Prop} {w w' : World} {sb : Nat} {S : Sk} (h : RSk F w sb S) (k : Below w.heap.size w w') : RSk F w' sb S := h.keptP (KeptP.of_below (F := fun _ => False) k) fun _ g => g.elim
/-- a step of the first -/
theorem Sides.first {B : Nat} {w0 w w' : World} {F F' G : Nat → Prop} {rb : Nat} {T : Sk} (h : Sides B w0 w F G) (hR : RSk G w rb T) (hM : Moved F F' w w') : RSk G w' rb T ∧ Sides B w0 w' F' G := by
  refine ⟨hR.keptP hM.kept h.apart, fun k hk hg => ?_, fun k hk => ?_, h.g, h.below.trans (hM.kept.below h.size h.f), Nat.le_trans h.size hM.kept.size⟩
  · exact h.apart k (hM.old k (hR.lt k hg) hk) hg
  · rcases Nat.lt_or_ge k w.heap.size with l | l
    · exact h.f k (hM.old k l hk)
    · exact Nat.le_trans h.size l
/-- a step of the second -/
theorem Sides.second {B : Nat} {w0 w w' : World} {F G G' : Nat → Prop} {sb g : Nat} {S : Sk} (h : Sides B w0 w F G) (hP : PSk F w sb S g) (hM : Moved G G' w w') : PSk F w' sb S g ∧ Sides B w0 w' F G' := by
  refine ⟨hP.keptP hM.kept (fun k hg hf => h.apart k hf hg), fun k hk hg => ?_, h.f, fun k hk => ?_, h.below.trans (hM.kept.below h.size h.g), Nat.le_trans h.size hM.kept.size⟩
  · exact h.apart k hk (hM.old k (hP.lt k hk) hg)
  · rcases Nat.lt_or_ge k w.heap.size with l | l
    · exact h.g k (hM.old k l hk)
    · exact Nat.le_trans h.size l
/-- both after an act: the same stakes -/
def Both (B : Nat) (w0 w : World) (sb rb : Nat) (g l : Nat) : Prop := ∃ F G S, S.Ok ∧ S.K.length ≤ l ∧ PSk F w sb S g ∧ RSk G w rb S ∧ Sides B w0 w F G
theorem RSk.len {G : Nat → Prop} {w : World} {rb : Nat} {S : Sk} (h : RSk G w rb S) {m : Nat} (hl : S.K.length ≤ m) : ∃ tag pb v L, (∀ k, G k ↔ tag k ≠ 0) ∧ RSkAt tag w rb pb v L S ∧ L.length ≤ m := by
  obtain ⟨tag, pb, v, L, hF, h⟩ := h
  exact ⟨tag, pb, v, L, hF, h, by rw [← h.klen]; exact hl⟩
theorem rsk_is (G : Nat → Prop) (rb : Nat) (S : Sk) (hS : S.Ok) (b : Int) (w : World) (h : RSk G w rb S) :
    Calls Tryz.prog 111 #[.pointer (some ⟨rb, 0, none⟩), .int .i64 b] w fun e w' => e = .returned (.bool (S.R b)) ∧ w' = w := by
  obtain ⟨tag, pb, v, L, _, h⟩ := h
  exact rs_is tag rb pb v L S hS b w h
theorem rsk_staked (G : Nat → Prop) (rb : Nat) (S : Sk) (hS : S.Ok) (b : Int) (w : World) (h : RSk G w rb S) :
    Calls Tryz.prog 113 #[.pointer (some ⟨rb, 0, none⟩), .int .i64 b] w fun e w' => e = .returned (.int .i64 (S.P b).T) ∧ w' = w := by
  obtain ⟨tag, pb, v, L, _, h⟩ := h
  exact rs_staked tag rb pb v L S hS b w h
theorem rsk_value (G : Nat → Prop) (rb : Nat) (S : Sk) (hS : S.Ok) (o b : Int) (w : World) (h : RSk G w rb S) :
    Calls Tryz.prog 71 #[.pointer (some ⟨rb, 0, none⟩), .int .i64 o, .int .i64 b] w fun e w' => e = .returned (.int .i64 ((S.P b).val o)) ∧ ∃ n, w' = w.drewN n := by
  obtain ⟨tag, pb, v, L, _, h⟩ := h
  exact rs_value tag rb pb v L S hS o b w h
theorem rsk_waits (G : Nat → Prop) (rb : Nat) (S : Sk) (hS : S.Ok) (hl : S.K.length ≤ 1000) (o b c : Int) (w : World) (h : RSk G w rb S) :
    Calls Tryz.prog 73 #[.pointer (some ⟨rb, 0, none⟩), .int .i64 o, .int .i64 b, .int .i64 c] w fun e w' => e = .returned (.int .i64 ((S.W b c).val o)) ∧ ∃ n, w' = w.drewN n := by
  obtain ⟨tag, pb, v, L, _, h, hL⟩ := h.len hl
  exact rs_waits tag rb pb v L S hS o b c hL w h
theorem rsk_total (G : Nat → Prop) (rb : Nat) (S : Sk) (hS : S.Ok) (hl : S.K.length ≤ 1000) (w : World) (h : RSk G w rb S) :
    Calls Tryz.prog 74 #[.pointer (some ⟨rb, 0, none⟩)] w fun e w' => e = .returned (.int .i64 S.total) ∧ w' = w := by
  obtain ⟨tag, pb, v, L, _, h, hL⟩ := h.len hl
  exact rs_total tag rb pb v L S hS hL w h
end Go.Proofs.YtjodnacodlhamacGreatDoor

namespace Go.Proofs.YtjodnacodlhamacGreatDoor
open Go.RowKit

set_option maxRecDepth 100000 in
set_option maxHeartbeats 4000000 in
theorem asChain_of (w0 : World) (F G : Nat → Prop) (cb rb : Nat) (C : Ch) (hC : C.Ok) (hk : C.s.K.length ≤ 400) (hy : C.cyc ≤ 400) (g : Nat) (w : World) (hP : PCh F w cb C g) (hR : RCh G w rb C) (hW : Sides w0.heap.size w0 w F G) :
    Calls Tryz.prog 27 #[.pointer (some ⟨cb, 0, none⟩), .pointer (some ⟨rb, 0, none⟩)] w fun e w' => e = .returned (.bool true) ∧ PCh F w' cb C g ∧ RCh G w' rb C ∧ Sides w0.heap.size w0 w' F G := by
  obtain ⟨pb, sb, kb, hR⟩ := hR.parts
  obtain ⟨pq, hp⟩ := hR.pur
  have wy : (Lit.int .i64 (C.cyc : Int)).wf = true := WalkArith.wf_i64 (by omega)
  go_enter Tryz.func27, Tryz.ntmps27
  go_wp2_with fail
  obtain ⟨wz, hz⟩ : ∃ wz, wz = w := ⟨_, rfl⟩
  have B0 : Below wz.heap.size wz w := by rw [hz]; exact Below.refl _ _
  have zP : PCh F wz cb C g := by rw [hz]; exact hP
  have zR : RChB G wz rb pb sb kb C := by rw [hz]; exact hR
  have zW : Sides w0.heap.size w0 wz F G := by rw [hz]; exact hW
  have q0 : w.cell? ⟨rb, 4, none⟩ = some (.int .i64 C.cyc) := hR.c4
  have q1 : w.cell? ⟨rb, 5, none⟩ = some (.int .i64 C.lev) := hR.c5
  have q2 : w.cell? ⟨rb, 6, none⟩ = some (.int .i64 C.bon) := hR.c6
  have q3 : w.cell? ⟨rb, 0, none⟩ = some (.pointer (some ⟨pb, 0, none⟩)) := hR.c0
  have q4 : w.cell? ⟨pb, 1, none⟩ = some (.int .i64 C.p.S) := hp.c1
  have d0 : (((C.cyc : Nat) : Int) != ((C.cyc : Nat) : Int)) = false := by simp
  have d1 : (((C.lev : Nat) : Int) != ((C.lev : Nat) : Int)) = false := by simp
  have d2 : (C.bon != C.bon) = false := by simp
  have d3 : (C.p.S != C.p.S) = false := by simp
  clear hP hR hW
  have u0 : wz.cell? ⟨rb, 4, none⟩ = some (.int .i64 C.cyc) := by rw [hz]; exact q0
  have u1 : wz.cell? ⟨rb, 5, none⟩ = some (.int .i64 C.lev) := by rw [hz]; exact q1
  have u2 : wz.cell? ⟨rb, 6, none⟩ = some (.int .i64 C.bon) := by rw [hz]; exact q2
  have u3 : wz.cell? ⟨rb, 0, none⟩ = some (.pointer (some ⟨pb, 0, none⟩)) := by rw [hz]; exact q3
  have u4 : wz.cell? ⟨pb, 1, none⟩ = some (.int .i64 C.p.S) := by rw [hz]; exact q4
  have up : wz.cell? ⟨pb, 0, none⟩ = some (.slice (some ⟨pq, 0, none⟩) 6 6) := by rw [hz]; exact hp.c0
  have us : ∀ i : Nat, i < 6 → wz.cell? ⟨pq, i, none⟩ = some (.int .i64 (C.p.s i)) := by rw [hz]; exact hp.s
  clear hz hp
  go_region_held3 (fun w' => w'.cell? ⟨rb, 4, none⟩ = some (.int .i64 C.cyc) ∧ w'.cell? ⟨rb, 5, none⟩ = some (.int .i64 C.lev) ∧ w'.cell? ⟨rb, 6, none⟩ = some (.int .i64 C.bon) ∧ w'.cell? ⟨rb, 0, none⟩ = some (.pointer (some ⟨pb, 0, none⟩)) ∧ w'.cell? ⟨pb, 1, none⟩ = some (.int .i64 C.p.S)) (exact ⟨by assumption, by assumption, by assumption, by assumption, by assumption⟩)
    (first
      | (go_at_call 17; refine (pch_cycle F cb C g _ (by first | exact zP.nextB B0 | exact (zP.nextB B0).drewN _)).mono ?_; rintro e w1 ⟨rfl, hB1⟩; have B1 : Below wz.heap.size wz w1 := (by first | exact B0.trans (hB1.mono B0.size) | exact (below_drewN B0 _).trans (hB1.mono B0.size)); have q1_0 : w1.cell? ⟨rb, 4, none⟩ = some (.int .i64 C.cyc) := stk_old B1 u0; have q1_1 : w1.cell? ⟨rb, 5, none⟩ = some (.int .i64 C.lev) := stk_old B1 u1; have q1_2 : w1.cell? ⟨rb, 6, none⟩ = some (.int .i64 C.bon) := stk_old B1 u2; have q1_3 : w1.cell? ⟨rb, 0, none⟩ = some (.pointer (some ⟨pb, 0, none⟩)) := stk_old B1 u3; have q1_4 : w1.cell? ⟨pb, 1, none⟩ = some (.int .i64 C.p.S) := stk_old B1 u4)
      | (go_at_call 13; refine (pch_level F cb C g _ (by first | exact zP.nextB B1 | exact (zP.nextB B1).drewN _)).mono ?_; rintro e w2 ⟨rfl, hB2⟩; have B2 : Below wz.heap.size wz w2 := (by first | exact B1.trans (hB2.mono B1.size) | exact (below_drewN B1 _).trans (hB2.mono B1.size)); have q2_0 : w2.cell? ⟨rb, 4, none⟩ = some (.int .i64 C.cyc) := stk_old B2 u0; have q2_1 : w2.cell? ⟨rb, 5, none⟩ = some (.int .i64 C.lev) := stk_old B2 u1; have q2_2 : w2.cell? ⟨rb, 6, none⟩ = some (.int .i64 C.bon) := stk_old B2 u2; have q2_3 : w2.cell? ⟨rb, 0, none⟩ = some (.pointer (some ⟨pb, 0, none⟩)) := stk_old B2 u3; have q2_4 : w2.cell? ⟨pb, 1, none⟩ = some (.int .i64 C.p.S) := stk_old B2 u4)
      | (go_at_call 23; refine (pch_bonus F cb C g _ (by first | exact zP.nextB B2 | exact (zP.nextB B2).drewN _)).mono ?_; rintro e w3 ⟨rfl, hB3⟩; have B3 : Below wz.heap.size wz w3 := (by first | exact B2.trans (hB3.mono B2.size) | exact (below_drewN B2 _).trans (hB3.mono B2.size)); have q3_0 : w3.cell? ⟨rb, 4, none⟩ = some (.int .i64 C.cyc) := stk_old B3 u0; have q3_1 : w3.cell? ⟨rb, 5, none⟩ = some (.int .i64 C.lev) := stk_old B3 u1; have q3_2 : w3.cell? ⟨rb, 6, none⟩ = some (.int .i64 C.bon) := stk_old B3 u2; have q3_3 : w3.cell? ⟨rb, 0, none⟩ = some (.pointer (some ⟨pb, 0, none⟩)) := stk_old B3 u3; have q3_4 : w3.cell? ⟨pb, 1, none⟩ = some (.int .i64 C.p.S) := stk_old B3 u4)
      | (go_at_call 16; refine (pch_supply F cb C g _ (by first | exact zP.nextB B3 | exact (zP.nextB B3).drewN _)).mono ?_; rintro e w4 ⟨rfl, hB4⟩; have B4 : Below wz.heap.size wz w4 := (by first | exact B3.trans (hB4.mono B3.size) | exact (below_drewN B3 _).trans (hB4.mono B3.size)); have q4_0 : w4.cell? ⟨rb, 4, none⟩ = some (.int .i64 C.cyc) := stk_old B4 u0; have q4_1 : w4.cell? ⟨rb, 5, none⟩ = some (.int .i64 C.lev) := stk_old B4 u1; have q4_2 : w4.cell? ⟨rb, 6, none⟩ = some (.int .i64 C.bon) := stk_old B4 u2; have q4_3 : w4.cell? ⟨rb, 0, none⟩ = some (.pointer (some ⟨pb, 0, none⟩)) := stk_old B4 u3; have q4_4 : w4.cell? ⟨pb, 1, none⟩ = some (.int .i64 C.p.S) := stk_old B4 u4))
  clear q0 q1 q2 q3 q4 d0 d1 d2 d3
  go_wp2_with fail
  go_loopw [5] (fun i wr => ∃ o : Nat, o ≤ 6 ∧ i = .int .i64 o ∧ Below wz.heap.size wz wr) (fun i _ => 6 - (intOf i).toNat)
  case atStart => exact ⟨0, by omega, rfl, B4⟩
  case round =>
    obtain ⟨o, ho, rfl, B⟩ := hrel
    clear B0 B1 B2 B3 B4
    by_cases ho6 : o < 6
    · have wo : (Lit.int .i64 (o : Int)).wf = true := WalkArith.wf_i64 (by omega)
      have d0 : (C.p.s o != C.p.s o) = false := by simp
      have r0 : wr.cell? ⟨rb, 0, none⟩ = some (.pointer (some ⟨pb, 0, none⟩)) := stk_old B u3
      have r1 : wr.cell? ⟨pb, 0, none⟩ = some (.slice (some ⟨pq, 0, none⟩) 6 6) := stk_old B up
      have r2 : wr.cell? ⟨pq, o, none⟩ = some (.int .i64 (C.p.s o)) := stk_old B (us o ho6)
      go_wp2_with fail
      go_region_held3 (fun w' => w'.cell? ⟨rb, 0, none⟩ = some (.pointer (some ⟨pb, 0, none⟩)) ∧ w'.cell? ⟨pb, 0, none⟩ = some (.slice (some ⟨pq, 0, none⟩) 6 6) ∧ w'.cell? ⟨pq, o, none⟩ = some (.int .i64 (C.p.s o))) (exact ⟨by assumption, by assumption, by assumption⟩)
        (first | (go_at_call 20; refine (pch_has F cb C hC g o _ (by first | exact zP.nextB B | exact (zP.nextB B).drewN _)).mono ?_; rintro e w1 ⟨rfl, hB1⟩; have B1 : Below wz.heap.size wz w1 := (by first | exact B.trans (hB1.mono B.size) | exact (below_drewN B _).trans (hB1.mono B.size)); have r1_0 : w1.cell? ⟨rb, 0, none⟩ = some (.pointer (some ⟨pb, 0, none⟩)) := stk_old B1 u3; have r1_1 : w1.cell? ⟨pb, 0, none⟩ = some (.slice (some ⟨pq, 0, none⟩) 6 6) := stk_old B1 up; have r1_2 : w1.cell? ⟨pq, o, none⟩ = some (.int .i64 (C.p.s o)) := stk_old B1 (us o ho6)))
      clear r0 r1 r2 d0
      go_wp2_with fail
      go_loopw [6] (fun i wx => ∃ p : Nat, p ≤ 3 ∧ i = .int .i64 p ∧ Below wz.heap.size wz wx) (fun i _ => 3 - (intOf i).toNat)
      case atStart => exact ⟨0, by omega, rfl, B1⟩
      case round =>
        obtain ⟨p, hp, rfl, B⟩ := hrel
        by_cases hp3 : p < 3
        · have wp : (Lit.int .i64 (p : Int)).wf = true := WalkArith.wf_i64 (by omega)
          have d0 : ((C.s.P p).val o != (C.s.P p).val o) = false := by simp
          have d1 : ((C.s.W p C.cyc).val o != (C.s.W p C.cyc).val o) = false := by simp
          have r0 : wr.cell? ⟨rb, 1, none⟩ = some (.pointer (some ⟨sb, 0, none⟩)) := (zR.nextB B).c1
          have r1 : wr.cell? ⟨rb, 4, none⟩ = some (.int .i64 C.cyc) := (zR.nextB B).c4
          have t0 := zR.c1
          have t1 := zR.c4
          go_wp2_with fail
          go_region_held3 (fun w' => w'.cell? ⟨rb, 1, none⟩ = some (.pointer (some ⟨sb, 0, none⟩)) ∧ w'.cell? ⟨rb, 4, none⟩ = some (.int .i64 C.cyc)) (exact ⟨by assumption, by assumption⟩)
            (first
              | (go_at_call 14; refine (pch_stakes F cb C g _ (by first | exact zP.nextB B | exact (zP.nextB B).drewN _)).mono ?_; rintro e w11 ⟨s1, Fs1, rfl, hs1, _, hB11⟩; have B11 : Below wz.heap.size wz w11 := (by first | exact B.trans (hB11.mono B.size) | exact (below_drewN B _).trans (hB11.mono B.size)); have r11_0 : w11.cell? ⟨rb, 1, none⟩ = some (.pointer (some ⟨sb, 0, none⟩)) := stk_old B11 t0; have r11_1 : w11.cell? ⟨rb, 4, none⟩ = some (.int .i64 C.cyc) := stk_old B11 t1)
              | (go_at_call 70; refine (ps_value Fs1 s1 C.s hC.s _ o p wo _ (by first | exact hs1 | exact hs1.drewN _)).mono ?_; rintro e w12 ⟨rfl, m12, hw12⟩; have B12 : Below wz.heap.size wz w12 := (by rw [hw12]; first | exact below_drewN B11 _ | exact below_drewN (below_drewN B11 _) _); have r12_0 : w12.cell? ⟨rb, 1, none⟩ = some (.pointer (some ⟨sb, 0, none⟩)) := stk_old B12 t0; have r12_1 : w12.cell? ⟨rb, 4, none⟩ = some (.int .i64 C.cyc) := stk_old B12 t1; clear hw12)
              | (go_at_call 71; obtain ⟨Gs, hGs, _⟩ := (zR.nextB B12).stk; refine (rsk_value Gs sb C.s hC.s o p _ (by first | exact hGs | exact hGs.drewN _)).mono ?_; rintro e w13 ⟨rfl, m13, hw13⟩; have B13 : Below wz.heap.size wz w13 := (by rw [hw13]; first | exact below_drewN B12 _ | exact below_drewN (below_drewN B12 _) _); have r13_0 : w13.cell? ⟨rb, 1, none⟩ = some (.pointer (some ⟨sb, 0, none⟩)) := stk_old B13 t0; have r13_1 : w13.cell? ⟨rb, 4, none⟩ = some (.int .i64 C.cyc) := stk_old B13 t1; clear hw13)
              | (go_at_call 14; refine (pch_stakes F cb C g _ (by first | exact zP.nextB B13 | exact (zP.nextB B13).drewN _)).mono ?_; rintro e w14 ⟨s2, Fs2, rfl, hs2, _, hB14⟩; have B14 : Below wz.heap.size wz w14 := (by first | exact B13.trans (hB14.mono B13.size) | exact (below_drewN B13 _).trans (hB14.mono B13.size)); have r14_0 : w14.cell? ⟨rb, 1, none⟩ = some (.pointer (some ⟨sb, 0, none⟩)) := stk_old B14 t0; have r14_1 : w14.cell? ⟨rb, 4, none⟩ = some (.int .i64 C.cyc) := stk_old B14 t1)
              | (go_at_call 17; refine (pch_cycle F cb C g _ (by first | exact zP.nextB B14 | exact (zP.nextB B14).drewN _)).mono ?_; rintro e w15 ⟨rfl, hB15⟩; have hs3 := (by first | exact hs2.nextB hB15 | exact (hs2.drewN _).nextB hB15 : PSk Fs2 w15 s2 C.s g); have B15 : Below wz.heap.size wz w15 := (by first | exact B14.trans (hB15.mono B14.size) | exact (below_drewN B14 _).trans (hB15.mono B14.size)); have r15_0 : w15.cell? ⟨rb, 1, none⟩ = some (.pointer (some ⟨sb, 0, none⟩)) := stk_old B15 t0; have r15_1 : w15.cell? ⟨rb, 4, none⟩ = some (.int .i64 C.cyc) := stk_old B15 t1)
              | (go_at_call 72; refine (ps_waits Fs2 s2 C.s hC.s _ o p C.cyc wo wy _ (by first | exact hs3 | exact hs3.drewN _)).mono ?_; rintro e w16 ⟨rfl, hB16⟩; have B16 : Below wz.heap.size wz w16 := (by first | exact B15.trans (hB16.mono B15.size) | exact (below_drewN B15 _).trans (hB16.mono B15.size)); have r16_0 : w16.cell? ⟨rb, 1, none⟩ = some (.pointer (some ⟨sb, 0, none⟩)) := stk_old B16 t0; have r16_1 : w16.cell? ⟨rb, 4, none⟩ = some (.int .i64 C.cyc) := stk_old B16 t1)
              | (go_at_call 73; obtain ⟨Gt, hGt, _⟩ := (zR.nextB B16).stk; refine (rsk_waits Gt sb C.s hC.s (by omega) o p C.cyc _ (by first | exact hGt | exact hGt.drewN _)).mono ?_; rintro e w17 ⟨rfl, m17, hw17⟩; have B17 : Below wz.heap.size wz w17 := (by rw [hw17]; first | exact below_drewN B16 _ | exact below_drewN (below_drewN B16 _) _); have r17_0 : w17.cell? ⟨rb, 1, none⟩ = some (.pointer (some ⟨sb, 0, none⟩)) := stk_old B17 t0; have r17_1 : w17.cell? ⟨rb, 4, none⟩ = some (.int .i64 C.cyc) := stk_old B17 t1; clear hw17))
          go_wp2_with fail
          go_roundw
          case rel => exact ⟨p + 1, by omega, by go_num, B17⟩
          case measure => simp [intOf]; omega
        · obtain rfl : p = 3 := by omega
          go_wp2_with fail
          go_roundw
          case rel => exact ⟨o + 1, by omega, by go_num, B⟩
          case measure => simp [intOf]; omega
    · obtain rfl : o = 6 := by omega
      have d0 : (C.s.total == C.s.total) = true := by simp
      have r0 : wr.cell? ⟨rb, 1, none⟩ = some (.pointer (some ⟨sb, 0, none⟩)) := (zR.nextB B).c1
      have t0 := zR.c1
      go_wp2_with fail
      go_region_held3 (fun w' => w'.cell? ⟨rb, 1, none⟩ = some (.pointer (some ⟨sb, 0, none⟩))) (assumption)
        (first
          | (go_at_call 14; refine (pch_stakes F cb C g _ (by first | exact zP.nextB B | exact (zP.nextB B).drewN _)).mono ?_; rintro e w11 ⟨s1, Fs1, rfl, hs1, _, hB11⟩; have B11 : Below wz.heap.size wz w11 := (by first | exact B.trans (hB11.mono B.size) | exact (below_drewN B _).trans (hB11.mono B.size)); have r11_0 : w11.cell? ⟨rb, 1, none⟩ = some (.pointer (some ⟨sb, 0, none⟩)) := stk_old B11 t0)
          | (go_at_call 19; refine (ps_total Fs1 s1 C.s hC.s (by omega) _ _ (by first | exact hs1 | exact hs1.drewN _)).mono ?_; rintro e w12 ⟨rfl, hB12⟩; have B12 : Below wz.heap.size wz w12 := (by first | exact B11.trans (hB12.mono B11.size) | exact (below_drewN B11 _).trans (hB12.mono B11.size)); have r12_0 : w12.cell? ⟨rb, 1, none⟩ = some (.pointer (some ⟨sb, 0, none⟩)) := stk_old B12 t0)
          | (go_at_call 74; obtain ⟨Gs, hGs, _⟩ := (zR.nextB B12).stk; refine (rsk_total Gs sb C.s hC.s (by omega) _ (by first | exact hGs | exact hGs.drewN _)).mono ?_; rintro e w13 ⟨rfl, hw13⟩; have B13 : Below wz.heap.size wz w13 := (by rw [hw13]; first | exact B12 | exact below_drewN B12 _); have r13_0 : w13.cell? ⟨rb, 1, none⟩ = some (.pointer (some ⟨sb, 0, none⟩)) := stk_old B13 t0; clear hw13))
      go_wp2_with fail
      go_ret
      exact ⟨rfl, zP.nextB B13, (zR.nextB B13).whole, zW.nextB B13⟩
end Go.Proofs.YtjodnacodlhamacGreatDoor

namespace Go.Proofs.YtjodnacodlhamacGreatDoor
open Go.RowKit

/-- both after an act: the same chain -/
def BothC (B : Nat) (w0 w : World) (cb rb g i : Nat) : Prop := ∃ F G C g', C.Ok ∧ C.Fit i ∧ g' ≤ g ∧ PCh F w cb C g' ∧ RCh G w rb C ∧ Sides B w0 w F G
theorem Sides.oneC {B : Nat} {w0 w w' : World} {F F' G : Nat → Prop} {rb pb sb kb : Nat} {C : Ch} (h : Sides B w0 w F G) (hR : RChB G w rb pb sb kb C) (hM : Moved F F' w w') : RChB G w' rb pb sb kb C ∧ Sides B w0 w' F' G := ⟨hR.keptP hM.kept h.apart, h.one hR.lt hM⟩
theorem Sides.twoC {B : Nat} {w0 w w' : World} {F G G' : Nat → Prop} {cb g : Nat} {C : Ch} (h : Sides B w0 w F G) (hP : PCh F w cb C g) (hM : Moved G G' w w') : PCh F w' cb C g ∧ Sides B w0 w' F G' := ⟨hP.keptP hM.kept (fun k hg hf => h.apart k hf hg), h.two hP.lt hM⟩
set_option maxRecDepth 100000 in
set_option maxHeartbeats 4000000 in
theorem cact_pay (w0 : World) (F G : Nat → Prop) (cb rb : Nat) (C : Ch) (hC : C.Ok) (i : Nat) (hi : i ≤ 400) (hf : C.Fit i) (g : Nat) (hg : g ≤ 800000) (t : CA) (wf : t.Wf) (A : Nat → Addr) (w : World) (hL : Laid w0 A) (hP : PCh F w cb C g) (hR : RCh G w rb C) (hW : Sides w0.heap.size w0 w F G) (ty : (t.K.toList == [112, 97, 121]) = true) :
    Calls Tryz.prog 26 #[.pointer (some ⟨cb, 0, none⟩), .pointer (some ⟨rb, 0, none⟩), .agg #[.string t.K, .int .i64 t.o, .int .i64 t.t, .int .i64 t.b, .int .i64 t.n, .int .i64 t.r, .int .i64 t.eb, .int .i64 t.ey, .int .i64 t.em]] w fun e w' => e = .returned (.bool true) ∧ BothC w0.heap.size w0 w' cb rb (g + 2000) (i + 1) := by
  have s0 : (w.alloc (.cells #[.string t.K, .int .i64 t.o, .int .i64 t.t, .int .i64 t.b, .int .i64 t.n, .int .i64 t.r, .int .i64 t.eb, .int .i64 t.ey, .int .i64 t.em] 44)).cell? ⟨w.heap.size, 0, none⟩ = some (.string t.K) := by simp
  have s1 : (w.alloc (.cells #[.string t.K, .int .i64 t.o, .int .i64 t.t, .int .i64 t.b, .int .i64 t.n, .int .i64 t.r, .int .i64 t.eb, .int .i64 t.ey, .int .i64 t.em] 44)).cell? ⟨w.heap.size, 1, none⟩ = some (.int .i64 t.o) := by simp
  have s2 : (w.alloc (.cells #[.string t.K, .int .i64 t.o, .int .i64 t.t, .int .i64 t.b, .int .i64 t.n, .int .i64 t.r, .int .i64 t.eb, .int .i64 t.ey, .int .i64 t.em] 44)).cell? ⟨w.heap.size, 2, none⟩ = some (.int .i64 t.t) := by simp
  have s4 : (w.alloc (.cells #[.string t.K, .int .i64 t.o, .int .i64 t.t, .int .i64 t.b, .int .i64 t.n, .int .i64 t.r, .int .i64 t.eb, .int .i64 t.ey, .int .i64 t.em] 44)).cell? ⟨w.heap.size, 4, none⟩ = some (.int .i64 t.n) := by simp
  have hB4 : Below w.heap.size w (w.alloc (.cells #[.string t.K, .int .i64 t.o, .int .i64 t.t, .int .i64 t.b, .int .i64 t.n, .int .i64 t.r, .int .i64 t.eb, .int .i64 t.ey, .int .i64 t.em] 44)) := (Below.refl _ _).alloc (Nat.le_refl _) _
  obtain ⟨pb, sb, kb, hR⟩ := hR.parts
  have hP4 := hP.nextB hB4
  have hR4 := hR.nextB hB4
  have hW4 := hW.nextB hB4
  have L4 := hL.below hW4.below
  have few := hf.few hi
  have zF : ¬ F w.heap.size := fun g => by have := hP.lt _ g; omega
  have zG : ¬ G w.heap.size := fun g => by have := hR.lt _ g; omega
  have zR : ¬ F rb := fun g => hW.apart rb g hR.own
  clear hP hR hW hB4
  go_enter Tryz.func26, Tryz.ntmps26
  go_wp2_with fail
  generalize w.heap.size = na at *
  generalize w.alloc (.cells #[.string t.K, .int .i64 t.o, .int .i64 t.t, .int .i64 t.b, .int .i64 t.n, .int .i64 t.r, .int .i64 t.eb, .int .i64 t.ey, .int .i64 t.em] 44) = w4 at *
  have q0 : w4.cell? ⟨rb, 0, none⟩ = some (.pointer (some ⟨pb, 0, none⟩)) := hR4.c0
  go_region_held3 (fun w' => w'.cell? ⟨na, 1, none⟩ = some (.int .i64 t.o) ∧ w'.cell? ⟨na, 2, none⟩ = some (.int .i64 t.t) ∧ w'.cell? ⟨na, 4, none⟩ = some (.int .i64 t.n) ∧ w'.cell? ⟨rb, 0, none⟩ = some (.pointer (some ⟨pb, 0, none⟩))) (exact ⟨by assumption, by assumption, by assumption, by assumption⟩)
    (first
      | (go_at_call 43; refine (pch_pay F cb C hC few g hg t.o t.t t.n wf.o wf.t A _ (by first | exact L4.ch.e | exact (L4.drewN _).ch.e) (by first | exact hP4 | exact hP4.drewN _)).mono ?_; rintro e w5 ⟨ev, F5, rfl, hE5, hP5, hM5⟩; have s51 : w5.cell? ⟨na, 1, none⟩ = some (.int .i64 t.o) := hM5.cell s1 zF; have s52 : w5.cell? ⟨na, 2, none⟩ = some (.int .i64 t.t) := hM5.cell s2 zF; have s54 : w5.cell? ⟨na, 4, none⟩ = some (.int .i64 t.n) := hM5.cell s4 zF; have q50 : w5.cell? ⟨rb, 0, none⟩ = some (.pointer (some ⟨pb, 0, none⟩)) := hM5.cell q0 zR; obtain ⟨hR5, hW5⟩ := (by first | exact hW4.oneC hR4 hM5 | exact (hW4.drewN _).oneC (hR4.drewN _) hM5 : RChB G w5 rb pb sb kb C ∧ Sides w0.heap.size w0 w5 F5 G))
      | (go_at_call 62; refine (rchb_move G rb pb sb kb C hC t.o t.t t.n _ (by first | exact hR5 | exact hR5.drewN _)).mono ?_; rintro e w6 ⟨rfl, hR6, hM6⟩; have s61 : w6.cell? ⟨na, 1, none⟩ = some (.int .i64 t.o) := hM6.cell s51 zG; have s62 : w6.cell? ⟨na, 2, none⟩ = some (.int .i64 t.t) := hM6.cell s52 zG; have s64 : w6.cell? ⟨na, 4, none⟩ = some (.int .i64 t.n) := hM6.cell s54 zG; have q60 : w6.cell? ⟨rb, 0, none⟩ = some (.pointer (some ⟨pb, 0, none⟩)) := hR6.c0; obtain ⟨hP6, hW6⟩ := (by first | exact hW5.twoC hP5 hM6 | exact (hW5.drewN _).twoC (hP5.drewN _) hM6 : PCh F5 w6 cb (C.pay t.o t.t t.n) (g + 2000) ∧ Sides w0.heap.size w0 w6 F5 G); have L6 := hL.below hW6.below)
      | (go_at_call 12; refine (coded3_of (hE5.tells (by first | exact L6 | exact L6.drewN _))).mono ?_; rintro e w7 ⟨rfl, hB7⟩; have s71 : w7.cell? ⟨na, 1, none⟩ = some (.int .i64 t.o) := stk_old hB7 s61; have s72 : w7.cell? ⟨na, 2, none⟩ = some (.int .i64 t.t) := stk_old hB7 s62; have s74 : w7.cell? ⟨na, 4, none⟩ = some (.int .i64 t.n) := stk_old hB7 s64; have q70 : w7.cell? ⟨rb, 0, none⟩ = some (.pointer (some ⟨pb, 0, none⟩)) := stk_old hB7 q60))
  go_wp2_with fail
  go_ret
  exact ⟨rfl, F5, G, _, g + 2000, (Ch.Went.pay hC hf t.o t.t t.n).ok, (Ch.Went.pay hC hf t.o t.t t.n).fit, Nat.le_refl _, hP6.nextB hB7, (hR6.whole).nextB hB7, hW6.nextB hB7⟩
set_option maxRecDepth 100000 in
set_option maxHeartbeats 4000000 in
theorem cact_stake (w0 : World) (F G : Nat → Prop) (cb rb : Nat) (C : Ch) (hC : C.Ok) (i : Nat) (hi : i ≤ 400) (hf : C.Fit i) (g : Nat) (hg : g ≤ 800000) (t : CA) (wf : t.Wf) (A : Nat → Addr) (w : World) (hL : Laid w0 A) (hP : PCh F w cb C g) (hR : RCh G w rb C) (hW : Sides w0.heap.size w0 w F G) (t0 : (t.K.toList == [112, 97, 121]) = false) (ty : (t.K.toList == [115, 116, 97, 107, 101]) = true) :
    Calls Tryz.prog 26 #[.pointer (some ⟨cb, 0, none⟩), .pointer (some ⟨rb, 0, none⟩), .agg #[.string t.K, .int .i64 t.o, .int .i64 t.t, .int .i64 t.b, .int .i64 t.n, .int .i64 t.r, .int .i64 t.eb, .int .i64 t.ey, .int .i64 t.em]] w fun e w' => e = .returned (.bool true) ∧ BothC w0.heap.size w0 w' cb rb (g + 2000) (i + 1) := by
  have s0 : (w.alloc (.cells #[.string t.K, .int .i64 t.o, .int .i64 t.t, .int .i64 t.b, .int .i64 t.n, .int .i64 t.r, .int .i64 t.eb, .int .i64 t.ey, .int .i64 t.em] 44)).cell? ⟨w.heap.size, 0, none⟩ = some (.string t.K) := by simp
  have s1 : (w.alloc (.cells #[.string t.K, .int .i64 t.o, .int .i64 t.t, .int .i64 t.b, .int .i64 t.n, .int .i64 t.r, .int .i64 t.eb, .int .i64 t.ey, .int .i64 t.em] 44)).cell? ⟨w.heap.size, 1, none⟩ = some (.int .i64 t.o) := by simp
  have s3 : (w.alloc (.cells #[.string t.K, .int .i64 t.o, .int .i64 t.t, .int .i64 t.b, .int .i64 t.n, .int .i64 t.r, .int .i64 t.eb, .int .i64 t.ey, .int .i64 t.em] 44)).cell? ⟨w.heap.size, 3, none⟩ = some (.int .i64 t.b) := by simp
  have s4 : (w.alloc (.cells #[.string t.K, .int .i64 t.o, .int .i64 t.t, .int .i64 t.b, .int .i64 t.n, .int .i64 t.r, .int .i64 t.eb, .int .i64 t.ey, .int .i64 t.em] 44)).cell? ⟨w.heap.size, 4, none⟩ = some (.int .i64 t.n) := by simp
  have hB4 : Below w.heap.size w (w.alloc (.cells #[.string t.K, .int .i64 t.o, .int .i64 t.t, .int .i64 t.b, .int .i64 t.n, .int .i64 t.r, .int .i64 t.eb, .int .i64 t.ey, .int .i64 t.em] 44)) := (Below.refl _ _).alloc (Nat.le_refl _) _
  obtain ⟨pb, sb, kb, hR⟩ := hR.parts
  have hP4 := hP.nextB hB4
  have hR4 := hR.nextB hB4
  have hW4 := hW.nextB hB4
  have L4 := hL.below hW4.below
  have few := hf.few hi
  have zF : ¬ F w.heap.size := fun g => by have := hP.lt _ g; omega
  have zG : ¬ G w.heap.size := fun g => by have := hR.lt _ g; omega
  have zR : ¬ F rb := fun g => hW.apart rb g hR.own
  clear hP hR hW hB4
  go_enter Tryz.func26, Tryz.ntmps26
  go_wp2_with fail
  generalize w.heap.size = na at *
  generalize w.alloc (.cells #[.string t.K, .int .i64 t.o, .int .i64 t.t, .int .i64 t.b, .int .i64 t.n, .int .i64 t.r, .int .i64 t.eb, .int .i64 t.ey, .int .i64 t.em] 44) = w4 at *
  go_region_held3 (fun w' => w'.cell? ⟨na, 1, none⟩ = some (.int .i64 t.o) ∧ w'.cell? ⟨na, 3, none⟩ = some (.int .i64 t.b) ∧ w'.cell? ⟨na, 4, none⟩ = some (.int .i64 t.n)) (exact ⟨by assumption, by assumption, by assumption⟩)
    (first
      | (go_at_call 44; refine (pch_stake F cb C hC few g hg t.o t.b t.n wf.o A _ (by first | exact L4.ch.e | exact (L4.drewN _).ch.e) (by first | exact hP4 | exact hP4.drewN _)).mono ?_; rintro e w5 ⟨ev, F5, rfl, hE5, hP5, hM5⟩; have s51 : w5.cell? ⟨na, 1, none⟩ = some (.int .i64 t.o) := hM5.cell s1 zF; have s53 : w5.cell? ⟨na, 3, none⟩ = some (.int .i64 t.b) := hM5.cell s3 zF; have s54 : w5.cell? ⟨na, 4, none⟩ = some (.int .i64 t.n) := hM5.cell s4 zF; obtain ⟨hR5, hW5⟩ := (by first | exact hW4.oneC hR4 hM5 | exact (hW4.drewN _).oneC (hR4.drewN _) hM5 : RChB G w5 rb pb sb kb C ∧ Sides w0.heap.size w0 w5 F5 G))
      | (go_at_call 63; refine (rch_stake G rb C hC t.o t.b t.n _ (by first | exact hR5.whole | exact (hR5.drewN _).whole)).mono ?_; rintro e w6 ⟨rfl, G6, hR6, hM6⟩; have s61 : w6.cell? ⟨na, 1, none⟩ = some (.int .i64 t.o) := hM6.cell s51 zG; have s63 : w6.cell? ⟨na, 3, none⟩ = some (.int .i64 t.b) := hM6.cell s53 zG; have s64 : w6.cell? ⟨na, 4, none⟩ = some (.int .i64 t.n) := hM6.cell s54 zG; obtain ⟨hP6, hW6⟩ := (by first | exact hW5.twoC hP5 hM6 | exact (hW5.drewN _).twoC (hP5.drewN _) hM6 : PCh F5 w6 cb (C.stake t.o t.b t.n) (g + 2000) ∧ Sides w0.heap.size w0 w6 F5 G6); have L6 := hL.below hW6.below)
      | (go_at_call 12; refine (coded3_of (hE5.tells (by first | exact L6 | exact L6.drewN _))).mono ?_; rintro e w7 ⟨rfl, hB7⟩; have s71 : w7.cell? ⟨na, 1, none⟩ = some (.int .i64 t.o) := stk_old hB7 s61; have s73 : w7.cell? ⟨na, 3, none⟩ = some (.int .i64 t.b) := stk_old hB7 s63; have s74 : w7.cell? ⟨na, 4, none⟩ = some (.int .i64 t.n) := stk_old hB7 s64))
  go_wp2_with fail
  go_ret
  exact ⟨rfl, F5, G6, _, g + 2000, (Ch.Went.stake hC hf t.o t.b t.n).ok, (Ch.Went.stake hC hf t.o t.b t.n).fit, Nat.le_refl _, hP6.nextB hB7, (hR6).nextB hB7, hW6.nextB hB7⟩
set_option maxRecDepth 100000 in
set_option maxHeartbeats 4000000 in
theorem cact_unstake (w0 : World) (F G : Nat → Prop) (cb rb : Nat) (C : Ch) (hC : C.Ok) (i : Nat) (hi : i ≤ 400) (hf : C.Fit i) (g : Nat) (hg : g ≤ 800000) (t : CA) (wf : t.Wf) (A : Nat → Addr) (w : World) (hL : Laid w0 A) (hP : PCh F w cb C g) (hR : RCh G w rb C) (hW : Sides w0.heap.size w0 w F G) (t0 : (t.K.toList == [112, 97, 121]) = false) (t1 : (t.K.toList == [115, 116, 97, 107, 101]) = false) (ty : (t.K.toList == [117, 110, 115, 116, 97, 107, 101]) = true) :
    Calls Tryz.prog 26 #[.pointer (some ⟨cb, 0, none⟩), .pointer (some ⟨rb, 0, none⟩), .agg #[.string t.K, .int .i64 t.o, .int .i64 t.t, .int .i64 t.b, .int .i64 t.n, .int .i64 t.r, .int .i64 t.eb, .int .i64 t.ey, .int .i64 t.em]] w fun e w' => e = .returned (.bool true) ∧ BothC w0.heap.size w0 w' cb rb (g + 2000) (i + 1) := by
  have s0 : (w.alloc (.cells #[.string t.K, .int .i64 t.o, .int .i64 t.t, .int .i64 t.b, .int .i64 t.n, .int .i64 t.r, .int .i64 t.eb, .int .i64 t.ey, .int .i64 t.em] 44)).cell? ⟨w.heap.size, 0, none⟩ = some (.string t.K) := by simp
  have s1 : (w.alloc (.cells #[.string t.K, .int .i64 t.o, .int .i64 t.t, .int .i64 t.b, .int .i64 t.n, .int .i64 t.r, .int .i64 t.eb, .int .i64 t.ey, .int .i64 t.em] 44)).cell? ⟨w.heap.size, 1, none⟩ = some (.int .i64 t.o) := by simp
  have s3 : (w.alloc (.cells #[.string t.K, .int .i64 t.o, .int .i64 t.t, .int .i64 t.b, .int .i64 t.n, .int .i64 t.r, .int .i64 t.eb, .int .i64 t.ey, .int .i64 t.em] 44)).cell? ⟨w.heap.size, 3, none⟩ = some (.int .i64 t.b) := by simp
  have s4 : (w.alloc (.cells #[.string t.K, .int .i64 t.o, .int .i64 t.t, .int .i64 t.b, .int .i64 t.n, .int .i64 t.r, .int .i64 t.eb, .int .i64 t.ey, .int .i64 t.em] 44)).cell? ⟨w.heap.size, 4, none⟩ = some (.int .i64 t.n) := by simp
  have hB4 : Below w.heap.size w (w.alloc (.cells #[.string t.K, .int .i64 t.o, .int .i64 t.t, .int .i64 t.b, .int .i64 t.n, .int .i64 t.r, .int .i64 t.eb, .int .i64 t.ey, .int .i64 t.em] 44)) := (Below.refl _ _).alloc (Nat.le_refl _) _
  obtain ⟨pb, sb, kb, hR⟩ := hR.parts
  have hP4 := hP.nextB hB4
  have hR4 := hR.nextB hB4
  have hW4 := hW.nextB hB4
  have L4 := hL.below hW4.below
  have few := hf.few hi
  have zF : ¬ F w.heap.size := fun g => by have := hP.lt _ g; omega
  have zG : ¬ G w.heap.size := fun g => by have := hR.lt _ g; omega
  have zR : ¬ F rb := fun g => hW.apart rb g hR.own
  clear hP hR hW hB4
  go_enter Tryz.func26, Tryz.ntmps26
  go_wp2_with fail
  generalize w.heap.size = na at *
  generalize w.alloc (.cells #[.string t.K, .int .i64 t.o, .int .i64 t.t, .int .i64 t.b, .int .i64 t.n, .int .i64 t.r, .int .i64 t.eb, .int .i64 t.ey, .int .i64 t.em] 44) = w4 at *
  have q1 : w4.cell? ⟨rb, 1, none⟩ = some (.pointer (some ⟨sb, 0, none⟩)) := hR4.c1
  have q4 : w4.cell? ⟨rb, 4, none⟩ = some (.int .i64 C.cyc) := hR4.c4
  go_region_held3 (fun w' => w'.cell? ⟨na, 1, none⟩ = some (.int .i64 t.o) ∧ w'.cell? ⟨na, 3, none⟩ = some (.int .i64 t.b) ∧ w'.cell? ⟨na, 4, none⟩ = some (.int .i64 t.n) ∧ w'.cell? ⟨rb, 1, none⟩ = some (.pointer (some ⟨sb, 0, none⟩)) ∧ w'.cell? ⟨rb, 4, none⟩ = some (.int .i64 C.cyc)) (exact ⟨by assumption, by assumption, by assumption, by assumption, by assumption⟩)
    (first
      | (go_at_call 45; refine (pch_unstake F cb C hC few g hg t.o t.b t.n wf.o A _ (by first | exact L4.ch.e | exact (L4.drewN _).ch.e) (by first | exact hP4 | exact hP4.drewN _)).mono ?_; rintro e w5 ⟨ev, F5, rfl, hE5, hP5, hM5⟩; have s51 : w5.cell? ⟨na, 1, none⟩ = some (.int .i64 t.o) := hM5.cell s1 zF; have s53 : w5.cell? ⟨na, 3, none⟩ = some (.int .i64 t.b) := hM5.cell s3 zF; have s54 : w5.cell? ⟨na, 4, none⟩ = some (.int .i64 t.n) := hM5.cell s4 zF; have q51 : w5.cell? ⟨rb, 1, none⟩ = some (.pointer (some ⟨sb, 0, none⟩)) := hM5.cell q1 zR; have q54 : w5.cell? ⟨rb, 4, none⟩ = some (.int .i64 C.cyc) := hM5.cell q4 zR; obtain ⟨hR5, hW5⟩ := (by first | exact hW4.oneC hR4 hM5 | exact (hW4.drewN _).oneC (hR4.drewN _) hM5 : RChB G w5 rb pb sb kb C ∧ Sides w0.heap.size w0 w5 F5 G))
      | (go_at_call 64; refine (rchb_leave G rb pb sb kb C hC (by have := hf.k; omega) t.o t.b t.n _ (by first | exact hR5 | exact hR5.drewN _)).mono ?_; rintro e w6 ⟨rfl, G6, hR6, hM6⟩; have s61 : w6.cell? ⟨na, 1, none⟩ = some (.int .i64 t.o) := hM6.cell s51 zG; have s63 : w6.cell? ⟨na, 3, none⟩ = some (.int .i64 t.b) := hM6.cell s53 zG; have s64 : w6.cell? ⟨na, 4, none⟩ = some (.int .i64 t.n) := hM6.cell s54 zG; have q61 : w6.cell? ⟨rb, 1, none⟩ = some (.pointer (some ⟨sb, 0, none⟩)) := hR6.c1; have q64 : w6.cell? ⟨rb, 4, none⟩ = some (.int .i64 C.cyc) := hR6.c4; obtain ⟨hP6, hW6⟩ := (by first | exact hW5.twoC hP5 hM6 | exact (hW5.drewN _).twoC (hP5.drewN _) hM6 : PCh F5 w6 cb (C.unstake t.o t.b t.n) (g + 2000) ∧ Sides w0.heap.size w0 w6 F5 G6); have L6 := hL.below hW6.below)
      | (go_at_call 12; refine (coded3_of (hE5.tells (by first | exact L6 | exact L6.drewN _))).mono ?_; rintro e w7 ⟨rfl, hB7⟩; have s71 : w7.cell? ⟨na, 1, none⟩ = some (.int .i64 t.o) := stk_old hB7 s61; have s73 : w7.cell? ⟨na, 3, none⟩ = some (.int .i64 t.b) := stk_old hB7 s63; have s74 : w7.cell? ⟨na, 4, none⟩ = some (.int .i64 t.n) := stk_old hB7 s64; have q71 : w7.cell? ⟨rb, 1, none⟩ = some (.pointer (some ⟨sb, 0, none⟩)) := stk_old hB7 q61; have q74 : w7.cell? ⟨rb, 4, none⟩ = some (.int .i64 C.cyc) := stk_old hB7 q64))
  go_wp2_with fail
  go_ret
  exact ⟨rfl, F5, G6, _, g + 2000, (Ch.Went.unstake hC hf t.o t.b t.n).ok, (Ch.Went.unstake hC hf t.o t.b t.n).fit, Nat.le_refl _, hP6.nextB hB7, (hR6.whole).nextB hB7, hW6.nextB hB7⟩
set_option maxRecDepth 100000 in
set_option maxHeartbeats 4000000 in
theorem cact_accuse (w0 : World) (F G : Nat → Prop) (cb rb : Nat) (C : Ch) (hC : C.Ok) (i : Nat) (hi : i ≤ 400) (hf : C.Fit i) (g : Nat) (hg : g ≤ 800000) (t : CA) (wf : t.Wf) (A : Nat → Addr) (w : World) (hL : Laid w0 A) (hP : PCh F w cb C g) (hR : RCh G w rb C) (hW : Sides w0.heap.size w0 w F G) (t0 : (t.K.toList == [112, 97, 121]) = false) (t1 : (t.K.toList == [115, 116, 97, 107, 101]) = false) (t2 : (t.K.toList == [117, 110, 115, 116, 97, 107, 101]) = false) (t3 : (t.K.toList == [102, 114, 101, 101]) = false) (ty : (t.K.toList == [97, 99, 99, 117, 115, 101]) = true) :
    Calls Tryz.prog 26 #[.pointer (some ⟨cb, 0, none⟩), .pointer (some ⟨rb, 0, none⟩), .agg #[.string t.K, .int .i64 t.o, .int .i64 t.t, .int .i64 t.b, .int .i64 t.n, .int .i64 t.r, .int .i64 t.eb, .int .i64 t.ey, .int .i64 t.em]] w fun e w' => e = .returned (.bool true) ∧ BothC w0.heap.size w0 w' cb rb (g + 2000) (i + 1) := by
  have s0 : (w.alloc (.cells #[.string t.K, .int .i64 t.o, .int .i64 t.t, .int .i64 t.b, .int .i64 t.n, .int .i64 t.r, .int .i64 t.eb, .int .i64 t.ey, .int .i64 t.em] 44)).cell? ⟨w.heap.size, 0, none⟩ = some (.string t.K) := by simp
  have s1 : (w.alloc (.cells #[.string t.K, .int .i64 t.o, .int .i64 t.t, .int .i64 t.b, .int .i64 t.n, .int .i64 t.r, .int .i64 t.eb, .int .i64 t.ey, .int .i64 t.em] 44)).cell? ⟨w.heap.size, 1, none⟩ = some (.int .i64 t.o) := by simp
  have s6 : (w.alloc (.cells #[.string t.K, .int .i64 t.o, .int .i64 t.t, .int .i64 t.b, .int .i64 t.n, .int .i64 t.r, .int .i64 t.eb, .int .i64 t.ey, .int .i64 t.em] 44)).cell? ⟨w.heap.size, 6, none⟩ = some (.int .i64 t.eb) := by simp
  have s7 : (w.alloc (.cells #[.string t.K, .int .i64 t.o, .int .i64 t.t, .int .i64 t.b, .int .i64 t.n, .int .i64 t.r, .int .i64 t.eb, .int .i64 t.ey, .int .i64 t.em] 44)).cell? ⟨w.heap.size, 7, none⟩ = some (.int .i64 t.ey) := by simp
  have s8 : (w.alloc (.cells #[.string t.K, .int .i64 t.o, .int .i64 t.t, .int .i64 t.b, .int .i64 t.n, .int .i64 t.r, .int .i64 t.eb, .int .i64 t.ey, .int .i64 t.em] 44)).cell? ⟨w.heap.size, 8, none⟩ = some (.int .i64 t.em) := by simp
  have hB4 : Below w.heap.size w (w.alloc (.cells #[.string t.K, .int .i64 t.o, .int .i64 t.t, .int .i64 t.b, .int .i64 t.n, .int .i64 t.r, .int .i64 t.eb, .int .i64 t.ey, .int .i64 t.em] 44)) := (Below.refl _ _).alloc (Nat.le_refl _) _
  obtain ⟨pb, sb, kb, hR⟩ := hR.parts
  have hP4 := hP.nextB hB4
  have hR4 := hR.nextB hB4
  have hW4 := hW.nextB hB4
  have L4 := hL.below hW4.below
  have few := hf.few hi
  have zF : ¬ F w.heap.size := fun g => by have := hP.lt _ g; omega
  have zG : ¬ G w.heap.size := fun g => by have := hR.lt _ g; omega
  have zR : ¬ F rb := fun g => hW.apart rb g hR.own
  clear hP hR hW hB4
  go_enter Tryz.func26, Tryz.ntmps26
  go_wp2_with fail
  generalize w.heap.size = na at *
  generalize w.alloc (.cells #[.string t.K, .int .i64 t.o, .int .i64 t.t, .int .i64 t.b, .int .i64 t.n, .int .i64 t.r, .int .i64 t.eb, .int .i64 t.ey, .int .i64 t.em] 44) = w4 at *
  have q2 : w4.cell? ⟨rb, 2, none⟩ = some (.pointer (some ⟨kb, 0, none⟩)) := hR4.c2
  have q4 : w4.cell? ⟨rb, 4, none⟩ = some (.int .i64 C.cyc) := hR4.c4
  go_region_held3 (fun w' => w'.cell? ⟨na, 1, none⟩ = some (.int .i64 t.o) ∧ w'.cell? ⟨na, 6, none⟩ = some (.int .i64 t.eb) ∧ w'.cell? ⟨na, 7, none⟩ = some (.int .i64 t.ey) ∧ w'.cell? ⟨na, 8, none⟩ = some (.int .i64 t.em) ∧ w'.cell? ⟨rb, 2, none⟩ = some (.pointer (some ⟨kb, 0, none⟩)) ∧ w'.cell? ⟨rb, 4, none⟩ = some (.int .i64 C.cyc)) (exact ⟨by assumption, by assumption, by assumption, by assumption, by assumption, by assumption⟩)
    (first
      | (go_at_call 47; refine (pch_accuse F cb C hC few g hg t.o t.eb t.ey t.em wf.o wf.eb wf.ey wf.em A _ (by first | exact L4.ch | exact (L4.drewN _).ch) (by first | exact hP4 | exact hP4.drewN _)).mono ?_; rintro e w5 ⟨ev, F5, rfl, hE5, hP5, hM5⟩; have s51 : w5.cell? ⟨na, 1, none⟩ = some (.int .i64 t.o) := hM5.cell s1 zF; have s56 : w5.cell? ⟨na, 6, none⟩ = some (.int .i64 t.eb) := hM5.cell s6 zF; have s57 : w5.cell? ⟨na, 7, none⟩ = some (.int .i64 t.ey) := hM5.cell s7 zF; have s58 : w5.cell? ⟨na, 8, none⟩ = some (.int .i64 t.em) := hM5.cell s8 zF; have q52 : w5.cell? ⟨rb, 2, none⟩ = some (.pointer (some ⟨kb, 0, none⟩)) := hM5.cell q2 zR; have q54 : w5.cell? ⟨rb, 4, none⟩ = some (.int .i64 C.cyc) := hM5.cell q4 zR; obtain ⟨hR5, hW5⟩ := (by first | exact hW4.oneC hR4 hM5 | exact (hW4.drewN _).oneC (hR4.drewN _) hM5 : RChB G w5 rb pb sb kb C ∧ Sides w0.heap.size w0 w5 F5 G))
      | (go_at_call 66; refine (rchb_accuse G rb pb sb kb C hC (by have := hf.l; omega) t.o t.eb t.ey t.em _ (by first | exact hR5 | exact hR5.drewN _)).mono ?_; rintro e w6 ⟨rfl, G6, hR6, hM6⟩; have s61 : w6.cell? ⟨na, 1, none⟩ = some (.int .i64 t.o) := hM6.cell s51 zG; have s66 : w6.cell? ⟨na, 6, none⟩ = some (.int .i64 t.eb) := hM6.cell s56 zG; have s67 : w6.cell? ⟨na, 7, none⟩ = some (.int .i64 t.ey) := hM6.cell s57 zG; have s68 : w6.cell? ⟨na, 8, none⟩ = some (.int .i64 t.em) := hM6.cell s58 zG; have q62 : w6.cell? ⟨rb, 2, none⟩ = some (.pointer (some ⟨kb, 0, none⟩)) := hR6.c2; have q64 : w6.cell? ⟨rb, 4, none⟩ = some (.int .i64 C.cyc) := hR6.c4; obtain ⟨hP6, hW6⟩ := (by first | exact hW5.twoC hP5 hM6 | exact (hW5.drewN _).twoC (hP5.drewN _) hM6 : PCh F5 w6 cb (C.accuse t.o (t.eb, t.ey, t.em)) (g + 2000) ∧ Sides w0.heap.size w0 w6 F5 G6); have L6 := hL.below hW6.below)
      | (go_at_call 12; refine (coded3_of (hE5.tells (by first | exact L6 | exact L6.drewN _))).mono ?_; rintro e w7 ⟨rfl, hB7⟩; have s71 : w7.cell? ⟨na, 1, none⟩ = some (.int .i64 t.o) := stk_old hB7 s61; have s76 : w7.cell? ⟨na, 6, none⟩ = some (.int .i64 t.eb) := stk_old hB7 s66; have s77 : w7.cell? ⟨na, 7, none⟩ = some (.int .i64 t.ey) := stk_old hB7 s67; have s78 : w7.cell? ⟨na, 8, none⟩ = some (.int .i64 t.em) := stk_old hB7 s68; have q72 : w7.cell? ⟨rb, 2, none⟩ = some (.pointer (some ⟨kb, 0, none⟩)) := stk_old hB7 q62; have q74 : w7.cell? ⟨rb, 4, none⟩ = some (.int .i64 C.cyc) := stk_old hB7 q64))
  go_wp2_with fail
  go_ret
  exact ⟨rfl, F5, G6, _, g + 2000, (Ch.Went.accuse hC hf t.o (t.eb, t.ey, t.em)).ok, (Ch.Went.accuse hC hf t.o (t.eb, t.ey, t.em)).fit, Nat.le_refl _, hP6.nextB hB7, (hR6.whole).nextB hB7, hW6.nextB hB7⟩
set_option maxRecDepth 100000 in
set_option maxHeartbeats 4000000 in
theorem cact_free (w0 : World) (F G : Nat → Prop) (cb rb : Nat) (C : Ch) (hC : C.Ok) (i : Nat) (hi : i ≤ 400) (hf : C.Fit i) (g : Nat) (hg : g ≤ 800000) (t : CA) (wf : t.Wf) (A : Nat → Addr) (w : World) (hL : Laid w0 A) (hP : PCh F w cb C g) (hR : RCh G w rb C) (hW : Sides w0.heap.size w0 w F G) (t0 : (t.K.toList == [112, 97, 121]) = false) (t1 : (t.K.toList == [115, 116, 97, 107, 101]) = false) (t2 : (t.K.toList == [117, 110, 115, 116, 97, 107, 101]) = false) (ty : (t.K.toList == [102, 114, 101, 101]) = true) :
    Calls Tryz.prog 26 #[.pointer (some ⟨cb, 0, none⟩), .pointer (some ⟨rb, 0, none⟩), .agg #[.string t.K, .int .i64 t.o, .int .i64 t.t, .int .i64 t.b, .int .i64 t.n, .int .i64 t.r, .int .i64 t.eb, .int .i64 t.ey, .int .i64 t.em]] w fun e w' => e = .returned (.bool true) ∧ BothC w0.heap.size w0 w' cb rb (g + 2000) (i + 1) := by
  have s0 : (w.alloc (.cells #[.string t.K, .int .i64 t.o, .int .i64 t.t, .int .i64 t.b, .int .i64 t.n, .int .i64 t.r, .int .i64 t.eb, .int .i64 t.ey, .int .i64 t.em] 44)).cell? ⟨w.heap.size, 0, none⟩ = some (.string t.K) := by simp
  have s1 : (w.alloc (.cells #[.string t.K, .int .i64 t.o, .int .i64 t.t, .int .i64 t.b, .int .i64 t.n, .int .i64 t.r, .int .i64 t.eb, .int .i64 t.ey, .int .i64 t.em] 44)).cell? ⟨w.heap.size, 1, none⟩ = some (.int .i64 t.o) := by simp
  have hB4 : Below w.heap.size w (w.alloc (.cells #[.string t.K, .int .i64 t.o, .int .i64 t.t, .int .i64 t.b, .int .i64 t.n, .int .i64 t.r, .int .i64 t.eb, .int .i64 t.ey, .int .i64 t.em] 44)) := (Below.refl _ _).alloc (Nat.le_refl _) _
  obtain ⟨pb, sb, kb, hR⟩ := hR.parts
  have hP4 := hP.nextB hB4
  have hR4 := hR.nextB hB4
  have hW4 := hW.nextB hB4
  have L4 := hL.below hW4.below
  have few := hf.few hi
  have zF : ¬ F w.heap.size := fun g => by have := hP.lt _ g; omega
  have zG : ¬ G w.heap.size := fun g => by have := hR.lt _ g; omega
  have zR : ¬ F rb := fun g => hW.apart rb g hR.own
  clear hP hR hW hB4
  go_enter Tryz.func26, Tryz.ntmps26
  go_wp2_with fail
  generalize w.heap.size = na at *
  generalize w.alloc (.cells #[.string t.K, .int .i64 t.o, .int .i64 t.t, .int .i64 t.b, .int .i64 t.n, .int .i64 t.r, .int .i64 t.eb, .int .i64 t.ey, .int .i64 t.em] 44) = w4 at *
  refine (pch_free F cb C hC few g hg t.o wf.o A w4 L4.ch hP4).mono ?_
  rintro e w5 ⟨ev, F5, rfl, hE5, hP5, hM5⟩
  have s51 : w5.cell? ⟨na, 1, none⟩ = some (.int .i64 t.o) := hM5.cell s1 zF
  obtain ⟨hR5, hW5⟩ := hW4.oneC hR4 hM5
  go_wp2_with fail
  refine (rch_free G rb C hC (by have := hf.k; omega) (by have := hf.y; have := hf.v; omega) t.o w5 hR5.whole).mono ?_
  rintro e w6 ⟨rfl, G6, hR6, hM6⟩
  obtain ⟨hP6, hW6⟩ := hW5.twoC hP5 hM6
  have L6 := hL.below hW6.below
  have d1 : (C.s.freeN t.o C.cyc == C.s.freeN t.o C.cyc) = true := by simp
  go_wp2_with (go_at_call 12; refine (coded3_of (hE5.tells L6)).mono ?_; rintro e w7 ⟨rfl, hB7⟩)
  go_ret
  exact ⟨rfl, F5, G6, _, g + 2000, (Ch.Went.free hC hf t.o).ok, (Ch.Went.free hC hf t.o).fit, Nat.le_refl _, hP6.nextB hB7, hR6.nextB hB7, hW6.nextB hB7⟩
set_option maxRecDepth 100000 in
set_option maxHeartbeats 4000000 in
theorem cact_bake_bad (w0 : World) (F G : Nat → Prop) (cb rb : Nat) (C : Ch) (hC : C.Ok) (i : Nat) (hi : i ≤ 400) (hf : C.Fit i) (g : Nat) (_hg : g ≤ 800000) (t : CA) (_wf : t.Wf) (A : Nat → Addr) (w : World) (hL : Laid w0 A) (hP : PCh F w cb C g) (hR : RCh G w rb C) (hW : Sides w0.heap.size w0 w F G) (t0 : (t.K.toList == [112, 97, 121]) = false) (t1 : (t.K.toList == [115, 116, 97, 107, 101]) = false) (t2 : (t.K.toList == [117, 110, 115, 116, 97, 107, 101]) = false) (t3 : (t.K.toList == [102, 114, 101, 101]) = false) (t4 : (t.K.toList == [97, 99, 99, 117, 115, 101]) = false) (ty : (t.K.toList == [98, 97, 107, 101]) = true) (hr : ¬ TurnOk C.cyc C.lev t.r) :
    Calls Tryz.prog 26 #[.pointer (some ⟨cb, 0, none⟩), .pointer (some ⟨rb, 0, none⟩), .agg #[.string t.K, .int .i64 t.o, .int .i64 t.t, .int .i64 t.b, .int .i64 t.n, .int .i64 t.r, .int .i64 t.eb, .int .i64 t.ey, .int .i64 t.em]] w fun e w' => e = .returned (.bool true) ∧ BothC w0.heap.size w0 w' cb rb (g + 2000) (i + 1) := by
  have s0 : (w.alloc (.cells #[.string t.K, .int .i64 t.o, .int .i64 t.t, .int .i64 t.b, .int .i64 t.n, .int .i64 t.r, .int .i64 t.eb, .int .i64 t.ey, .int .i64 t.em] 44)).cell? ⟨w.heap.size, 0, none⟩ = some (.string t.K) := by simp
  have s3 : (w.alloc (.cells #[.string t.K, .int .i64 t.o, .int .i64 t.t, .int .i64 t.b, .int .i64 t.n, .int .i64 t.r, .int .i64 t.eb, .int .i64 t.ey, .int .i64 t.em] 44)).cell? ⟨w.heap.size, 3, none⟩ = some (.int .i64 t.b) := by simp
  have s5 : (w.alloc (.cells #[.string t.K, .int .i64 t.o, .int .i64 t.t, .int .i64 t.b, .int .i64 t.n, .int .i64 t.r, .int .i64 t.eb, .int .i64 t.ey, .int .i64 t.em] 44)).cell? ⟨w.heap.size, 5, none⟩ = some (.int .i64 t.r) := by simp
  have hB4 : Below w.heap.size w (w.alloc (.cells #[.string t.K, .int .i64 t.o, .int .i64 t.t, .int .i64 t.b, .int .i64 t.n, .int .i64 t.r, .int .i64 t.eb, .int .i64 t.ey, .int .i64 t.em] 44)) := (Below.refl _ _).alloc (Nat.le_refl _) _
  obtain ⟨pb, sb, kb, hR⟩ := hR.parts
  have hP4 := hP.nextB hB4
  have hR4 := hR.nextB hB4
  have hW4 := hW.nextB hB4
  have L4 := hL.below hW4.below
  have few := hf.few hi
  have zF : ¬ F w.heap.size := fun g => by have := hP.lt _ g; omega
  have zG : ¬ G w.heap.size := fun g => by have := hR.lt _ g; omega
  have zR : ¬ F rb := fun g => hW.apart rb g hR.own
  clear hP hR hW hB4
  go_enter Tryz.func26, Tryz.ntmps26
  go_wp2_with fail
  generalize w.heap.size = na at *
  generalize w.alloc (.cells #[.string t.K, .int .i64 t.o, .int .i64 t.t, .int .i64 t.b, .int .i64 t.n, .int .i64 t.r, .int .i64 t.eb, .int .i64 t.ey, .int .i64 t.em] 44) = w4 at *
  refine (pch_bake_bad F cb C hC few g t.b t.r hr A w4 L4.ch hP4).mono ?_
  rintro e w5 ⟨ev, F5, rfl, hE5, hP5, hM5⟩
  have s53 : w5.cell? ⟨na, 3, none⟩ = some (.int .i64 t.b) := hM5.cell s3 zF
  have s55 : w5.cell? ⟨na, 5, none⟩ = some (.int .i64 t.r) := hM5.cell s5 zF
  obtain ⟨hR5, hW5⟩ := hW4.oneC hR4 hM5
  go_wp2_with fail
  refine (rch_bake_bad G rb C hC t.b t.r hr w5 hR5.whole).mono ?_
  rintro e w6 ⟨rfl, hR6, hB6⟩
  have hP6 := hP5.nextB hB6
  have hW6 := hW5.nextB hB6
  have L6 := hL.below hW6.below
  have d1 : ((0 : Int) == (0 : Int)) = true := by simp
  go_wp2_with (go_at_call 12; refine (coded3_of (hE5.tells L6)).mono ?_; rintro e w7 ⟨rfl, hB7⟩)
  go_ret
  exact ⟨rfl, F5, G, _, g + 2000, (Ch.Went.same hC hf).ok, (Ch.Went.same hC hf).fit, Nat.le_refl _, hP6.nextB hB7, hR6.nextB hB7, hW6.nextB hB7⟩
set_option maxRecDepth 100000 in
set_option maxHeartbeats 4000000 in
theorem cact_bake_other (w0 : World) (F G : Nat → Prop) (cb rb : Nat) (C : Ch) (hC : C.Ok) (i : Nat) (hi : i ≤ 400) (hf : C.Fit i) (g : Nat) (_hg : g ≤ 800000) (t : CA) (_wf : t.Wf) (A : Nat → Addr) (w : World) (hL : Laid w0 A) (hP : PCh F w cb C g) (hR : RCh G w rb C) (hW : Sides w0.heap.size w0 w F G) (t0 : (t.K.toList == [112, 97, 121]) = false) (t1 : (t.K.toList == [115, 116, 97, 107, 101]) = false) (t2 : (t.K.toList == [117, 110, 115, 116, 97, 107, 101]) = false) (t3 : (t.K.toList == [102, 114, 101, 101]) = false) (t4 : (t.K.toList == [97, 99, 99, 117, 115, 101]) = false) (ty : (t.K.toList == [98, 97, 107, 101]) = true) (hr : TurnOk C.cyc C.lev t.r) (T : ∀ k, Turn 3 C.pic C.seed C.cyc C.lev t.r k → k ≠ t.b) :
    Calls Tryz.prog 26 #[.pointer (some ⟨cb, 0, none⟩), .pointer (some ⟨rb, 0, none⟩), .agg #[.string t.K, .int .i64 t.o, .int .i64 t.t, .int .i64 t.b, .int .i64 t.n, .int .i64 t.r, .int .i64 t.eb, .int .i64 t.ey, .int .i64 t.em]] w fun e w' => e = .returned (.bool true) ∧ BothC w0.heap.size w0 w' cb rb (g + 2000) (i + 1) := by
  have s0 : (w.alloc (.cells #[.string t.K, .int .i64 t.o, .int .i64 t.t, .int .i64 t.b, .int .i64 t.n, .int .i64 t.r, .int .i64 t.eb, .int .i64 t.ey, .int .i64 t.em] 44)).cell? ⟨w.heap.size, 0, none⟩ = some (.string t.K) := by simp
  have s3 : (w.alloc (.cells #[.string t.K, .int .i64 t.o, .int .i64 t.t, .int .i64 t.b, .int .i64 t.n, .int .i64 t.r, .int .i64 t.eb, .int .i64 t.ey, .int .i64 t.em] 44)).cell? ⟨w.heap.size, 3, none⟩ = some (.int .i64 t.b) := by simp
  have s5 : (w.alloc (.cells #[.string t.K, .int .i64 t.o, .int .i64 t.t, .int .i64 t.b, .int .i64 t.n, .int .i64 t.r, .int .i64 t.eb, .int .i64 t.ey, .int .i64 t.em] 44)).cell? ⟨w.heap.size, 5, none⟩ = some (.int .i64 t.r) := by simp
  have hB4 : Below w.heap.size w (w.alloc (.cells #[.string t.K, .int .i64 t.o, .int .i64 t.t, .int .i64 t.b, .int .i64 t.n, .int .i64 t.r, .int .i64 t.eb, .int .i64 t.ey, .int .i64 t.em] 44)) := (Below.refl _ _).alloc (Nat.le_refl _) _
  obtain ⟨pb, sb, kb, hR⟩ := hR.parts
  have hP4 := hP.nextB hB4
  have hR4 := hR.nextB hB4
  have hW4 := hW.nextB hB4
  have L4 := hL.below hW4.below
  have few := hf.few hi
  have zF : ¬ F w.heap.size := fun g => by have := hP.lt _ g; omega
  have zG : ¬ G w.heap.size := fun g => by have := hR.lt _ g; omega
  have zR : ¬ F rb := fun g => hW.apart rb g hR.own
  clear hP hR hW hB4
  go_enter Tryz.func26, Tryz.ntmps26
  go_wp2_with fail
  generalize w.heap.size = na at *
  generalize w.alloc (.cells #[.string t.K, .int .i64 t.o, .int .i64 t.t, .int .i64 t.b, .int .i64 t.n, .int .i64 t.r, .int .i64 t.eb, .int .i64 t.ey, .int .i64 t.em] 44) = w4 at *
  refine (pch_bake_other F cb C hC few g t.b t.r hr T A w4 L4.ch hP4).mono ?_
  rintro e w5 ⟨ev, F5, rfl, hE5, hP5, hM5⟩
  have s53 : w5.cell? ⟨na, 3, none⟩ = some (.int .i64 t.b) := hM5.cell s3 zF
  have s55 : w5.cell? ⟨na, 5, none⟩ = some (.int .i64 t.r) := hM5.cell s5 zF
  obtain ⟨hR5, hW5⟩ := hW4.oneC hR4 hM5
  go_wp2_with fail
  refine (rch_bake_other G rb C hC t.b t.r hr w5 hR5.whole T).mono ?_
  rintro e w6 ⟨rfl, hR6, hB6⟩
  have hP6 := hP5.nextB hB6
  have hW6 := hW5.nextB hB6
  have L6 := hL.below hW6.below
  have d1 : ((0 : Int) == (0 : Int)) = true := by simp
  go_wp2_with (go_at_call 12; refine (coded3_of (hE5.tells L6)).mono ?_; rintro e w7 ⟨rfl, hB7⟩)
  go_ret
  exact ⟨rfl, F5, G, _, g + 2000, (Ch.Went.same hC hf).ok, (Ch.Went.same hC hf).fit, Nat.le_refl _, hP6.nextB hB7, hR6.nextB hB7, hW6.nextB hB7⟩
set_option maxRecDepth 100000 in
set_option maxHeartbeats 4000000 in
theorem cact_bake_own (w0 : World) (F G : Nat → Prop) (cb rb : Nat) (C : Ch) (hC : C.Ok) (i : Nat) (hi : i ≤ 400) (hf : C.Fit i) (g : Nat) (hg : g ≤ 800000) (t : CA) (_wf : t.Wf) (A : Nat → Addr) (w : World) (hL : Laid w0 A) (hP : PCh F w cb C g) (hR : RCh G w rb C) (hW : Sides w0.heap.size w0 w F G) (t0 : (t.K.toList == [112, 97, 121]) = false) (t1 : (t.K.toList == [115, 116, 97, 107, 101]) = false) (t2 : (t.K.toList == [117, 110, 115, 116, 97, 107, 101]) = false) (t3 : (t.K.toList == [102, 114, 101, 101]) = false) (t4 : (t.K.toList == [97, 99, 99, 117, 115, 101]) = false) (ty : (t.K.toList == [98, 97, 107, 101]) = true) (hr : TurnOk C.cyc C.lev t.r) (T : ∀ k, Turn 3 C.pic C.seed C.cyc C.lev t.r k → k = t.b) :
    Calls Tryz.prog 26 #[.pointer (some ⟨cb, 0, none⟩), .pointer (some ⟨rb, 0, none⟩), .agg #[.string t.K, .int .i64 t.o, .int .i64 t.t, .int .i64 t.b, .int .i64 t.n, .int .i64 t.r, .int .i64 t.eb, .int .i64 t.ey, .int .i64 t.em]] w fun e w' => e = .returned (.bool true) ∧ BothC w0.heap.size w0 w' cb rb (g + 2000) (i + 1) := by
  have s0 : (w.alloc (.cells #[.string t.K, .int .i64 t.o, .int .i64 t.t, .int .i64 t.b, .int .i64 t.n, .int .i64 t.r, .int .i64 t.eb, .int .i64 t.ey, .int .i64 t.em] 44)).cell? ⟨w.heap.size, 0, none⟩ = some (.string t.K) := by simp
  have s3 : (w.alloc (.cells #[.string t.K, .int .i64 t.o, .int .i64 t.t, .int .i64 t.b, .int .i64 t.n, .int .i64 t.r, .int .i64 t.eb, .int .i64 t.ey, .int .i64 t.em] 44)).cell? ⟨w.heap.size, 3, none⟩ = some (.int .i64 t.b) := by simp
  have s5 : (w.alloc (.cells #[.string t.K, .int .i64 t.o, .int .i64 t.t, .int .i64 t.b, .int .i64 t.n, .int .i64 t.r, .int .i64 t.eb, .int .i64 t.ey, .int .i64 t.em] 44)).cell? ⟨w.heap.size, 5, none⟩ = some (.int .i64 t.r) := by simp
  have hB4 : Below w.heap.size w (w.alloc (.cells #[.string t.K, .int .i64 t.o, .int .i64 t.t, .int .i64 t.b, .int .i64 t.n, .int .i64 t.r, .int .i64 t.eb, .int .i64 t.ey, .int .i64 t.em] 44)) := (Below.refl _ _).alloc (Nat.le_refl _) _
  obtain ⟨pb, sb, kb, hR⟩ := hR.parts
  have hP4 := hP.nextB hB4
  have hR4 := hR.nextB hB4
  have hW4 := hW.nextB hB4
  have L4 := hL.below hW4.below
  have few := hf.few hi
  have zF : ¬ F w.heap.size := fun g => by have := hP.lt _ g; omega
  have zG : ¬ G w.heap.size := fun g => by have := hR.lt _ g; omega
  have zR : ¬ F rb := fun g => hW.apart rb g hR.own
  clear hP hR hW hB4
  go_enter Tryz.func26, Tryz.ntmps26
  go_wp2_with fail
  generalize w.heap.size = na at *
  generalize w.alloc (.cells #[.string t.K, .int .i64 t.o, .int .i64 t.t, .int .i64 t.b, .int .i64 t.n, .int .i64 t.r, .int .i64 t.eb, .int .i64 t.ey, .int .i64 t.em] 44) = w4 at *
  refine (pch_bake_own F cb C hC few g hg t.b t.r hr T A w4 L4.ch hP4).mono ?_
  rintro e w5 ⟨ev, F5, rfl, hE5, hP5, hM5⟩
  have s53 : w5.cell? ⟨na, 3, none⟩ = some (.int .i64 t.b) := hM5.cell s3 zF
  have s55 : w5.cell? ⟨na, 5, none⟩ = some (.int .i64 t.r) := hM5.cell s5 zF
  obtain ⟨hR5, hW5⟩ := hW4.oneC hR4 hM5
  go_wp2_with fail
  refine (rch_bake_fine G rb C hC i hi hf t.b t.r hr w5 hR5.whole T).mono ?_
  rintro e w6 ⟨rfl, G6, hR6, hM6⟩
  obtain ⟨hP6, hW6⟩ := hW5.twoC hP5 hM6
  have L6 := hL.below hW6.below
  have d1 : (C.bakeN t.b == C.bakeN t.b) = true := by simp
  go_wp2_with (go_at_call 12; refine (coded3_of (hE5.tells L6)).mono ?_; rintro e w7 ⟨rfl, hB7⟩)
  go_ret
  exact ⟨rfl, F5, G6, _, g + 2000, (Ch.Went.bake hC hf t.b).ok, (Ch.Went.bake hC hf t.b).fit, Nat.le_refl _, hP6.nextB hB7, hR6.nextB hB7, hW6.nextB hB7⟩
set_option maxRecDepth 100000 in
set_option maxHeartbeats 4000000 in
theorem cact_turn_no (w0 : World) (F G : Nat → Prop) (cb rb : Nat) (C : Ch) (hC : C.Ok) (i : Nat) (hi : i ≤ 400) (hf : C.Fit i) (g : Nat) (_hg : g ≤ 800000) (t : CA) (_wf : t.Wf) (A : Nat → Addr) (w : World) (hL : Laid w0 A) (hP : PCh F w cb C g) (hR : RCh G w rb C) (hW : Sides w0.heap.size w0 w F G) (t0 : (t.K.toList == [112, 97, 121]) = false) (t1 : (t.K.toList == [115, 116, 97, 107, 101]) = false) (t2 : (t.K.toList == [117, 110, 115, 116, 97, 107, 101]) = false) (t3 : (t.K.toList == [102, 114, 101, 101]) = false) (t4 : (t.K.toList == [97, 99, 99, 117, 115, 101]) = false) (t5 : (t.K.toList == [98, 97, 107, 101]) = false) (hr : ¬ TurnOk C.cyc C.lev t.r) :
    Calls Tryz.prog 26 #[.pointer (some ⟨cb, 0, none⟩), .pointer (some ⟨rb, 0, none⟩), .agg #[.string t.K, .int .i64 t.o, .int .i64 t.t, .int .i64 t.b, .int .i64 t.n, .int .i64 t.r, .int .i64 t.eb, .int .i64 t.ey, .int .i64 t.em]] w fun e w' => e = .returned (.bool true) ∧ BothC w0.heap.size w0 w' cb rb (g + 2000) (i + 1) := by
  have s0 : (w.alloc (.cells #[.string t.K, .int .i64 t.o, .int .i64 t.t, .int .i64 t.b, .int .i64 t.n, .int .i64 t.r, .int .i64 t.eb, .int .i64 t.ey, .int .i64 t.em] 44)).cell? ⟨w.heap.size, 0, none⟩ = some (.string t.K) := by simp
  have s5 : (w.alloc (.cells #[.string t.K, .int .i64 t.o, .int .i64 t.t, .int .i64 t.b, .int .i64 t.n, .int .i64 t.r, .int .i64 t.eb, .int .i64 t.ey, .int .i64 t.em] 44)).cell? ⟨w.heap.size, 5, none⟩ = some (.int .i64 t.r) := by simp
  have hB4 : Below w.heap.size w (w.alloc (.cells #[.string t.K, .int .i64 t.o, .int .i64 t.t, .int .i64 t.b, .int .i64 t.n, .int .i64 t.r, .int .i64 t.eb, .int .i64 t.ey, .int .i64 t.em] 44)) := (Below.refl _ _).alloc (Nat.le_refl _) _
  obtain ⟨pb, sb, kb, hR⟩ := hR.parts
  have hP4 := hP.nextB hB4
  have hR4 := hR.nextB hB4
  have hW4 := hW.nextB hB4
  have L4 := hL.below hW4.below
  have few := hf.few hi
  have zF : ¬ F w.heap.size := fun g => by have := hP.lt _ g; omega
  have zG : ¬ G w.heap.size := fun g => by have := hR.lt _ g; omega
  have zR : ¬ F rb := fun g => hW.apart rb g hR.own
  clear hP hR hW hB4
  go_enter Tryz.func26, Tryz.ntmps26
  go_wp2_with fail
  generalize w.heap.size = na at *
  generalize w.alloc (.cells #[.string t.K, .int .i64 t.o, .int .i64 t.t, .int .i64 t.b, .int .i64 t.n, .int .i64 t.r, .int .i64 t.eb, .int .i64 t.ey, .int .i64 t.em] 44) = w4 at *
  refine (pch_turn_bad F cb C hC few g t.r hr A w4 L4.ch hP4).mono ?_
  rintro e w5 ⟨ev, rfl, hE5, hB5⟩
  have hP5 := hP4.nextB hB5
  have hR5 := hR4.nextB hB5
  have hW5 := hW4.nextB hB5
  have s55 := stk_old hB5 s5
  clear hP4 hR4 hW4 hB5 s0 s5 zF zG zR
  go_wp2_with fail
  refine (rch_turn_bad G rb C hC t.r hr w5 hR5.whole).mono ?_
  rintro e w6 ⟨rfl, hB6⟩
  have hP6 := hP5.nextB hB6
  have hR6 := hR5.nextB hB6
  have hW6 := hW5.nextB hB6
  have s65 := stk_old hB6 s55
  clear hP5 hR5 hW5 hB6 s55
  go_wp2_with fail
  have hB7 : Below w6.heap.size w6 (w6.alloc (.cells #[.int .i64 2, .int .i64 (-1)] 104)) := (Below.refl _ _).alloc (Nat.le_refl _) _
  have hP7 := hP6.nextB hB7
  have hR7 := hR6.nextB hB7
  have hW7 := hW6.nextB hB7
  have f7 : (w6.alloc (.cells #[.int .i64 2, .int .i64 (-1)] 104)).cell? ⟨w6.heap.size, 0, none⟩ = some (.int .i64 2) := by simp
  have L7 := hL.below hW7.below
  clear hP6 hR6 hW6 hB7 s65
  generalize w6.alloc (.cells #[.int .i64 2, .int .i64 (-1)] 104) = w7 at *
  generalize w6.heap.size = nf at *
  refine (faulted3_of (hE5.tells L7)).mono ?_
  rintro e w8 ⟨rfl, hB8⟩
  have f8 := stk_old hB8 f7
  go_wp2_with fail
  go_ret
  exact ⟨rfl, F, G, C, g, hC, hf.more (Nat.le_succ _), Nat.le_add_right _ _, hP7.nextB hB8, (hR7.nextB hB8).whole, hW7.nextB hB8⟩
set_option maxRecDepth 100000 in
set_option maxHeartbeats 4000000 in
theorem cact_turn_yes (w0 : World) (F G : Nat → Prop) (cb rb : Nat) (C : Ch) (hC : C.Ok) (i : Nat) (hi : i ≤ 400) (hf : C.Fit i) (g : Nat) (hg : g ≤ 800000) (t : CA) (_wf : t.Wf) (A : Nat → Addr) (w : World) (hL : Laid w0 A) (hP : PCh F w cb C g) (hR : RCh G w rb C) (hW : Sides w0.heap.size w0 w F G) (t0 : (t.K.toList == [112, 97, 121]) = false) (t1 : (t.K.toList == [115, 116, 97, 107, 101]) = false) (t2 : (t.K.toList == [117, 110, 115, 116, 97, 107, 101]) = false) (t3 : (t.K.toList == [102, 114, 101, 101]) = false) (t4 : (t.K.toList == [97, 99, 99, 117, 115, 101]) = false) (t5 : (t.K.toList == [98, 97, 107, 101]) = false) (hr : TurnOk C.cyc C.lev t.r) :
    Calls Tryz.prog 26 #[.pointer (some ⟨cb, 0, none⟩), .pointer (some ⟨rb, 0, none⟩), .agg #[.string t.K, .int .i64 t.o, .int .i64 t.t, .int .i64 t.b, .int .i64 t.n, .int .i64 t.r, .int .i64 t.eb, .int .i64 t.ey, .int .i64 t.em]] w fun e w' => e = .returned (.bool true) ∧ BothC w0.heap.size w0 w' cb rb (g + 2000) (i + 1) := by
  have s0 : (w.alloc (.cells #[.string t.K, .int .i64 t.o, .int .i64 t.t, .int .i64 t.b, .int .i64 t.n, .int .i64 t.r, .int .i64 t.eb, .int .i64 t.ey, .int .i64 t.em] 44)).cell? ⟨w.heap.size, 0, none⟩ = some (.string t.K) := by simp
  have s5 : (w.alloc (.cells #[.string t.K, .int .i64 t.o, .int .i64 t.t, .int .i64 t.b, .int .i64 t.n, .int .i64 t.r, .int .i64 t.eb, .int .i64 t.ey, .int .i64 t.em] 44)).cell? ⟨w.heap.size, 5, none⟩ = some (.int .i64 t.r) := by simp
  have hB4 : Below w.heap.size w (w.alloc (.cells #[.string t.K, .int .i64 t.o, .int .i64 t.t, .int .i64 t.b, .int .i64 t.n, .int .i64 t.r, .int .i64 t.eb, .int .i64 t.ey, .int .i64 t.em] 44)) := (Below.refl _ _).alloc (Nat.le_refl _) _
  obtain ⟨pb, sb, kb, hR⟩ := hR.parts
  have hP4 := hP.nextB hB4
  have hR4 := hR.nextB hB4
  have hW4 := hW.nextB hB4
  have L4 := hL.below hW4.below
  have few := hf.few hi
  have zF : ¬ F w.heap.size := fun g => by have := hP.lt _ g; omega
  have zG : ¬ G w.heap.size := fun g => by have := hR.lt _ g; omega
  have zR : ¬ F rb := fun g => hW.apart rb g hR.own
  clear hP hR hW hB4
  go_enter Tryz.func26, Tryz.ntmps26
  go_wp2_with fail
  generalize w.heap.size = na at *
  generalize w.alloc (.cells #[.string t.K, .int .i64 t.o, .int .i64 t.t, .int .i64 t.b, .int .i64 t.n, .int .i64 t.r, .int .i64 t.eb, .int .i64 t.ey, .int .i64 t.em] 44) = w4 at *
  refine (pch_turn F cb C hC few g t.r hr A w4 L4.ch hP4).mono ?_
  rintro e w5 ⟨k, rfl, hk, hB5⟩
  have hP5 := hP4.nextB hB5
  have hR5 := hR4.nextB hB5
  have hW5 := hW4.nextB hB5
  have s55 := stk_old hB5 s5
  have lt5 := cell_lt s55
  clear hP4 hR4 hW4 hB5 s0 s5
  go_wp2_with fail
  refine (rch_turn G rb C hC t.r hr w5 hR5.whole).mono ?_
  rintro e w6 ⟨k2, rfl, hk2, hB6⟩
  obtain rfl : k = k2 := hk.one hk2
  have T := fun k' (h' : Turn 3 C.pic C.seed C.cyc C.lev t.r k') => h'.one hk
  have HT := hide T
  have hP6 := hP5.nextB hB6
  have hR6 := hR5.nextB hB6
  have hW6 := hW5.nextB hB6
  have s65 := stk_old hB6 s55
  clear hP5 hR5 hW5 hB6 s55 hk hk2 T
  go_wp2_with fail
  have hB7 : Below w6.heap.size w6 (w6.alloc (.cells #[.int .i64 0, .int .i64 (-1)] 104)) := (Below.refl _ _).alloc (Nat.le_refl _) _
  have hP7 := hP6.nextB hB7
  have hR7 := hR6.nextB hB7
  have hW7 := hW6.nextB hB7
  have s75 := stk_old hB7 s65
  have f7 : (w6.alloc (.cells #[.int .i64 0, .int .i64 (-1)] 104)).cell? ⟨w6.heap.size, 0, none⟩ = some (.int .i64 0) := by simp
  clear hP6 hR6 hW6 hB7 s65
  generalize w6.alloc (.cells #[.int .i64 0, .int .i64 (-1)] 104) = w7 at *
  generalize w6.heap.size = nf at *
  refine (faulted3_of (tells_nil w7)).mono ?_
  rintro e w8 ⟨rfl, hB8⟩
  have hP8 := hP7.nextB hB8
  have hR8 := hR7.nextB hB8
  have hW8 := hW7.nextB hB8
  have s85 := stk_old hB8 s75
  have f8 := stk_old hB8 f7
  have d0 : (k != k) = false := by simp
  clear hP7 hR7 hW7 hB8 s75 f7
  go_wp2_with fail
  refine (pch_bake_own F cb C hC few g hg k t.r hr HT.out A w8 (hL.below hW8.below).ch hP8).mono ?_
  rintro e w9 ⟨ev, F9, rfl, hE9, hP9, hM9⟩
  have s95 : w9.cell? ⟨na, 5, none⟩ = some (.int .i64 t.r) := hM9.cell s85 zF
  obtain ⟨hR9, hW9⟩ := hW8.oneC hR8 hM9
  clear hP8 hR8 hW8 s85
  go_wp2_with fail
  refine (rch_bake_fine G rb C hC i hi hf k t.r hr w9 hR9.whole HT.out).mono ?_
  rintro e w10 ⟨rfl, G10, hR10, hM10⟩
  obtain ⟨hP10, hW10⟩ := hW9.twoC hP9 hM10
  have L10 := hL.below hW10.below
  have d1 : (C.bakeN k == C.bakeN k) = true := by simp
  go_wp2_with (go_at_call 12; refine (coded3_of (hE9.tells L10)).mono ?_; rintro e w11 ⟨rfl, hB11⟩)
  go_ret
  exact ⟨rfl, F9, G10, _, g + 2000, (Ch.Went.bake hC hf k).ok, (Ch.Went.bake hC hf k).fit, Nat.le_refl _, hP10.nextB hB11, hR10.nextB hB11, hW10.nextB hB11⟩
/-- one act, whatever it is -/
theorem cact_of (w0 : World) (F G : Nat → Prop) (cb rb : Nat) (C : Ch) (hC : C.Ok) (i : Nat) (hi : i ≤ 400) (hf : C.Fit i) (g : Nat) (hg : g ≤ 800000) (t : CA) (wf : t.Wf) (A : Nat → Addr) (w : World) (hL : Laid w0 A) (hP : PCh F w cb C g) (hR : RCh G w rb C) (hW : Sides w0.heap.size w0 w F G) :
    Calls Tryz.prog 26 #[.pointer (some ⟨cb, 0, none⟩), .pointer (some ⟨rb, 0, none⟩), .agg #[.string t.K, .int .i64 t.o, .int .i64 t.t, .int .i64 t.b, .int .i64 t.n, .int .i64 t.r, .int .i64 t.eb, .int .i64 t.ey, .int .i64 t.em]] w fun e w' => e = .returned (.bool true) ∧ BothC w0.heap.size w0 w' cb rb (g + 2000) (i + 1) := by
  cases t0 : (t.K.toList == [112, 97, 121]) with
  | true => exact cact_pay w0 F G cb rb C hC i hi hf g hg t wf A w hL hP hR hW t0
  | false =>
    cases t1 : (t.K.toList == [115, 116, 97, 107, 101]) with
    | true => exact cact_stake w0 F G cb rb C hC i hi hf g hg t wf A w hL hP hR hW t0 t1
    | false =>
      cases t2 : (t.K.toList == [117, 110, 115, 116, 97, 107, 101]) with
      | true => exact cact_unstake w0 F G cb rb C hC i hi hf g hg t wf A w hL hP hR hW t0 t1 t2
      | false =>
        cases t3 : (t.K.toList == [102, 114, 101, 101]) with
        | true => exact cact_free w0 F G cb rb C hC i hi hf g hg t wf A w hL hP hR hW t0 t1 t2 t3
        | false =>
          cases t4 : (t.K.toList == [97, 99, 99, 117, 115, 101]) with
          | true => exact cact_accuse w0 F G cb rb C hC i hi hf g hg t wf A w hL hP hR hW t0 t1 t2 t3 t4
          | false =>
            cases t5 : (t.K.toList == [98, 97, 107, 101]) with
            | true =>
              by_cases hr : TurnOk C.cyc C.lev t.r
              · by_cases hk : Turn 3 C.pic C.seed C.cyc C.lev t.r t.b
                · exact cact_bake_own w0 F G cb rb C hC i hi hf g hg t wf A w hL hP hR hW t0 t1 t2 t3 t4 t5 hr (fun k g => g.one hk)
                · exact cact_bake_other w0 F G cb rb C hC i hi hf g hg t wf A w hL hP hR hW t0 t1 t2 t3 t4 t5 hr (fun k g e => hk (e ▸ g))
              · exact cact_bake_bad w0 F G cb rb C hC i hi hf g hg t wf A w hL hP hR hW t0 t1 t2 t3 t4 t5 hr
            | false =>
              by_cases hr : TurnOk C.cyc C.lev t.r
              · exact cact_turn_yes w0 F G cb rb C hC i hi hf g hg t wf A w hL hP hR hW t0 t1 t2 t3 t4 t5 hr
              · exact cact_turn_no w0 F G cb rb C hC i hi hf g hg t wf A w hL hP hR hW t0 t1 t2 t3 t4 t5 hr
end Go.Proofs.YtjodnacodlhamacGreatDoor

namespace Go.Proofs.YtjodnacodlhamacGreatDoor
open Go.RowKit

/-- a chain's parts, all new -/
theorem rch_first {B : Nat} {w : World} {cb pb pq sb kb : Nat} {seed : Nat} {G : Nat → Prop} (hG : ∀ k, G k → B ≤ k ∧ k ≠ cb ∧ k ≠ pb ∧ k ≠ pq ∧ k ≠ kb) (n1 : cb ≠ pb) (n2 : cb ≠ pq) (n3 : cb ≠ kb) (n4 : kb ≠ pb) (n5 : kb ≠ pq) (b1 : B ≤ cb) (b2 : B ≤ pb) (b3 : B ≤ pq) (b4 : B ≤ kb)
    (c0 : w.cell? ⟨cb, 0, none⟩ = some (.pointer (some ⟨pb, 0, none⟩))) (c1 : w.cell? ⟨cb, 1, none⟩ = some (.pointer (some ⟨sb, 0, none⟩))) (c2 : w.cell? ⟨cb, 2, none⟩ = some (.pointer (some ⟨kb, 0, none⟩))) (c3 : w.cell? ⟨cb, 3, none⟩ = some (.int .u64 seed))
    (c4 : w.cell? ⟨cb, 4, none⟩ = some (.int .i64 0)) (c5 : w.cell? ⟨cb, 5, none⟩ = some (.int .i64 0)) (c6 : w.cell? ⟨cb, 6, none⟩ = some (.int .i64 0)) (c7 : w.cell? ⟨cb, 7, none⟩ = some (.slice none 0 0)) (f : ∀ i, w.frozen? ⟨cb, i, none⟩ = false)
    (hp : RPu w pb pq none') (hs : RSk G w sb Sk.none) (hc : RCt (fun k => k = kb) w kb ⟨[], 0⟩) : ∃ F, RCh F w cb (ch0 seed) ∧ ∀ k, F k → B ≤ k := by
  have dg : ∀ k, Decidable (G k) := fun k => Classical.propDecidable _
  have t1 : ∀ k, (if k = cb then 1 else if k = pb ∨ k = pq then 2 else if k = kb then 4 else if G k then 3 else 0) = 3 ↔ G k := fun k => by
    constructor
    · intro e
      by_cases h1 : k = cb
      · rw [if_pos h1] at e; omega
      · rw [if_neg h1] at e
        by_cases h2 : k = pb ∨ k = pq
        · rw [if_pos h2] at e; omega
        · rw [if_neg h2] at e
          by_cases h3 : k = kb
          · rw [if_pos h3] at e; omega
          · rw [if_neg h3] at e
            by_cases h4 : G k
            · exact h4
            · rw [if_neg h4] at e; omega
    · intro g
      obtain ⟨_, a, b, c, d⟩ := hG k g
      rw [if_neg a, if_neg (by omega), if_neg d, if_pos g]
  have t4 : ∀ k, (if k = cb then 1 else if k = pb ∨ k = pq then 2 else if k = kb then 4 else if G k then 3 else 0) = 4 ↔ k = kb := fun k => by
    constructor
    · intro e
      by_cases h1 : k = cb
      · rw [if_pos h1] at e; omega
      · rw [if_neg h1] at e
        by_cases h2 : k = pb ∨ k = pq
        · rw [if_pos h2] at e; omega
        · rw [if_neg h2] at e
          by_cases h3 : k = kb
          · exact h3
          · rw [if_neg h3] at e
            split at e <;> omega
    · intro g
      rw [if_neg (by omega), if_neg (by omega), if_pos g]
  have lcb : cb < w.heap.size := cell_lt c0
  have lpb : pb < w.heap.size := cell_lt hp.c0
  have lpq : pq < w.heap.size := cell_lt (hp.s 0 (by omega))
  have lkb : kb < w.heap.size := hc.lt kb rfl
  refine ⟨fun k => (if k = cb then 1 else if k = pb ∨ k = pq then 2 else if k = kb then 4 else if G k then 3 else 0) ≠ 0, ⟨fun k => if k = cb then 1 else if k = pb ∨ k = pq then 2 else if k = kb then 4 else if G k then 3 else 0, pb, pq, sb, kb, .slice none 0 0, [], fun _ => Iff.rfl, ?_⟩, fun k hk => ?_⟩
  · exact { c0 := c0, c1 := c1, c2 := c2, c3 := c3, c4 := c4, c5 := c5, c6 := c6, c7 := c7, f := f, p := hp
            s := by rw [show (fun k => (if k = cb then 1 else if k = pb ∨ k = pq then 2 else if k = kb then 4 else if G k then 3 else 0) = 3) = G from funext fun k => propext (t1 k)]; exact hs
            c := by rw [show (fun k => (if k = cb then 1 else if k = pb ∨ k = pq then 2 else if k = kb then 4 else if G k then 3 else 0) = 4) = (fun k => k = kb) from funext fun k => propext (t4 k)]; exact hc
            own := World.ownsRow_nil _ _ _ _
            pic := fun i m W hm _ => by simp at hm
            tc := if_pos rfl
            tp := by
              show (if pb = cb then 1 else if pb = pb ∨ pb = pq then 2 else if pb = kb then 4 else if G pb then 3 else 0) = 2
              rw [if_neg n1.symm, if_pos (.inl rfl)]
            tq := by
              show (if pq = cb then 1 else if pq = pb ∨ pq = pq then 2 else if pq = kb then 4 else if G pq then 3 else 0) = 2
              rw [if_neg n2.symm, if_pos (.inr rfl)]
            tv := fun q e => by cases e
            tm := fun m hm => by cases hm
            lt := fun k hk => by
              have hk' : (if k = cb then 1 else if k = pb ∨ k = pq then 2 else if k = kb then 4 else if G k then 3 else 0) ≠ 0 := hk
              by_cases h1 : k = cb
              · omega
              · by_cases h2 : k = pb ∨ k = pq
                · omega
                · by_cases h3 : k = kb
                  · omega
                  · by_cases h4 : G k
                    · exact hs.lt k h4
                    · rw [if_neg h1, if_neg h2, if_neg h3, if_neg h4] at hk'; exact absurd rfl hk' }
  · have hk' : (if k = cb then 1 else if k = pb ∨ k = pq then 2 else if k = kb then 4 else if G k then 3 else 0) ≠ 0 := hk
    by_cases h1 : k = cb
    · omega
    · by_cases h2 : k = pb ∨ k = pq
      · omega
      · by_cases h3 : k = kb
        · omega
        · by_cases h4 : G k
          · exact (hG k h4).1
          · rw [if_neg h1, if_neg h2, if_neg h3, if_neg h4] at hk'; exact absurd rfl hk'
theorem RPu.nextB2 {w w' : World} {b q : Nat} {x : Pu} (h : RPu w b q x) (hB : Below w.heap.size w w') : RPu w' b q x :=
  ⟨was_cell hB h.c0, was_cell hB h.c1, fun i hi => was_cell hB (h.s i hi), by rw [hB.frozen (p := ⟨b, 1, none⟩) (cell_lt h.c1)]; exact h.f1, fun i hi => by rw [hB.frozen (p := ⟨q, i, none⟩) (cell_lt (h.s i hi))]; exact h.fs i hi, h.ne⟩
set_option maxRecDepth 100000 in
set_option maxHeartbeats 4000000 in
theorem rch_new (seed : Nat) (w : World) :
    Calls Tryz.prog 25 #[.int .u64 seed] w fun e w' => ∃ cb F, e = .returned (.pointer (some ⟨cb, 0, none⟩)) ∧ RCh F w' cb (chNew seed) ∧ (∀ k, F k → w.heap.size ≤ k) ∧ Below w.heap.size w w' := by
  go_enter Tryz.func25, Tryz.ntmps25
  go_wp2_with fail
  refine (rp_new w).mono ?_
  rintro e w1 ⟨pb, pq, rfl, hpb, hpq, hp1, hB1⟩
  go_wp2_with fail
  refine (rs_new w1).mono ?_
  rintro e w2 ⟨sb, G, rfl, hs2, hG, hsb, hB2⟩
  go_wp2_with fail
  have z1 := hB1.size
  have z2 := hB2.size
  have e1 : (w2.alloc (.cells #[.slice none 0 0, .int .i64 0] 93)).heap.size = w2.heap.size + 1 := by simp
  have A1 : Below w2.heap.size w2 (w2.alloc (.cells #[.slice none 0 0, .int .i64 0] 93)) := (Below.refl _ _).alloc (Nat.le_refl _) _
  have A2 : Below (w2.alloc (.cells #[.slice none 0 0, .int .i64 0] 93)).heap.size (w2.alloc (.cells #[.slice none 0 0, .int .i64 0] 93)) ((w2.alloc (.cells #[.slice none 0 0, .int .i64 0] 93)).alloc (.cells #[.pointer (some ⟨pb, 0, none⟩), .pointer (some ⟨sb, 0, none⟩), .pointer (some ⟨w2.heap.size, 0, none⟩), .int .u64 seed, .int .i64 0, .int .i64 0, .int .i64 0, .slice none 0 0] 96)) := (Below.refl _ _).alloc (Nat.le_refl _) _
  have A3 : Below w2.heap.size w2 ((w2.alloc (.cells #[.slice none 0 0, .int .i64 0] 93)).alloc (.cells #[.pointer (some ⟨pb, 0, none⟩), .pointer (some ⟨sb, 0, none⟩), .pointer (some ⟨w2.heap.size, 0, none⟩), .int .u64 seed, .int .i64 0, .int .i64 0, .int .i64 0, .slice none 0 0] 96)) := A1.trans (A2.mono A1.size)
  have BW : Below w.heap.size w ((w2.alloc (.cells #[.slice none 0 0, .int .i64 0] 93)).alloc (.cells #[.pointer (some ⟨pb, 0, none⟩), .pointer (some ⟨sb, 0, none⟩), .pointer (some ⟨w2.heap.size, 0, none⟩), .int .u64 seed, .int .i64 0, .int .i64 0, .int .i64 0, .slice none 0 0] 96)) := (hB1.trans (hB2.mono z1)).trans (A3.mono (by omega))
  have lp : pb < w1.heap.size := cell_lt hp1.c0
  have lq : pq < w1.heap.size := cell_lt (hp1.s 0 (by omega))
  have hp3 := (hp1.nextB2 hB2).nextB2 A3
  have hs3 := hs2.keptP (KeptP.of_below (F := fun _ => False) A3) (fun _ g => g.elim)
  have k0 : ((w2.alloc (.cells #[.slice none 0 0, .int .i64 0] 93))).cell? ⟨w2.heap.size, 0, none⟩ = some (.slice none 0 0) := cell_new _ _ _ _ _ _ rfl rfl
  have k1 : ((w2.alloc (.cells #[.slice none 0 0, .int .i64 0] 93))).cell? ⟨w2.heap.size, 1, none⟩ = some (.int .i64 0) := cell_new _ _ _ _ _ _ rfl rfl
  have hfst := rch_first (B := w.heap.size) (cb := w2.heap.size + 1) (pb := pb) (pq := pq) (sb := sb) (kb := w2.heap.size) (seed := seed) (G := G) (fun k g => by have := hG k g; have := hs2.lt k g; exact ⟨by omega, by omega, by omega, by omega, by omega⟩) (by omega) (by omega) (by omega) (by omega) (by omega) (by omega) (by omega) (by omega) (by omega)
    (cell_new _ _ _ _ _ _ e1.symm rfl) (cell_new _ _ _ _ _ _ e1.symm rfl) (cell_new _ _ _ _ _ _ e1.symm rfl) (cell_new _ _ _ _ _ _ e1.symm rfl) (cell_new _ _ _ _ _ _ e1.symm rfl) (cell_new _ _ _ _ _ _ e1.symm rfl) (cell_new _ _ _ _ _ _ e1.symm rfl) (cell_new _ _ _ _ _ _ e1.symm rfl) (fun i => World.frozen?_alloc_at _ _ _ _ e1.symm)
    hp3 hs3 ⟨.slice none 0 0, fun k => ⟨.inl, fun z => z.elim (fun e => e) (fun e => by cases e)⟩, was_cell A2 k0, was_cell A2 k1, by rw [A2.frozen (p := ⟨w2.heap.size, 0, none⟩) (by rw [e1]; exact Nat.lt_succ_self _)]; exact World.frozen?_alloc_at _ _ _ _ rfl, by rw [A2.frozen (p := ⟨w2.heap.size, 1, none⟩) (by rw [e1]; exact Nat.lt_succ_self _)]; exact World.frozen?_alloc_at _ _ _ _ rfl, World.ownsRow_nil _ _ _ _, by intro e; cases e⟩
  obtain ⟨F0, hR0, hF0⟩ := hfst
  clear hp3 hs3 k0 k1 lp lq A1 A2 A3 e1 hp1 hs2 hG hsb hpb hpq hB1 hB2 z1 z2
  generalize (w2.alloc (.cells #[.slice none 0 0, .int .i64 0] 93)).alloc (.cells #[.pointer (some ⟨pb, 0, none⟩), .pointer (some ⟨sb, 0, none⟩), .pointer (some ⟨w2.heap.size, 0, none⟩), .int .u64 seed, .int .i64 0, .int .i64 0, .int .i64 0, .slice none 0 0] 96) = w3 at *
  generalize w2.heap.size + 1 = cb at *
  go_loopw [4] (fun i wr => ∃ (j : Nat) (F : Nat → Prop), j ≤ 6 ∧ i = .int .i64 j ∧ RCh F wr cb { ch0 seed with p := mintTo j } ∧ (∀ k, F k → w.heap.size ≤ k) ∧ Below w.heap.size w wr) (fun i _ => 6 - (intOf i).toNat)
  case atStart => exact ⟨0, F0, by omega, rfl, hR0, hF0, BW⟩
  case round =>
    obtain ⟨j, F, hj, rfl, hR, hFB, hB⟩ := hrel
    by_cases hlt : j < 6
    · obtain ⟨tag, pb, pq, sb, kb, v, M, hF, g⟩ := hR
      have c0 := g.c0
      go_wp2_with fail
      refine (rp_mint pb pq (mintTo j) (mintTo_ok j) j 10000 wr g.p).mono ?_
      rintro e w4 ⟨rfl, hp4, hK4⟩
      have g4 := g.purse hp4 hK4
      have M4 := g.movedP hF hK4
      go_wp2_with fail
      go_roundw
      case rel => exact ⟨j + 1, F, by omega, by go_num, ⟨tag, pb, pq, sb, kb, v, M, hF, g4⟩, hFB, hB.trans (M4.kept.below hB.size hFB)⟩
      case measure => simp [intOf]; omega
    · obtain rfl : 6 = j := by omega
      clear hlt hj
      have H1 : Hid (∀ k, F k → w.heap.size ≤ k) := hFB
      go_wp2_with fail
      go_loopw [5] (fun i wr => ∃ (j : Nat) (F : Nat → Prop), j ≤ 3 ∧ i = .int .i64 j ∧ RCh F wr cb { ch0 seed with p := outTo j, s := stkSt j } ∧ Mine w.heap.size w wr F) (fun i _ => 3 - (intOf i).toNat)
      case atStart => exact ⟨0, F, by omega, rfl, hR, ⟨hFB, hB, hB.size⟩⟩
      case round =>
        obtain ⟨j, F2, hj, rfl, hR2, hm⟩ := hrel
        clear hR hB hR0 BW
        by_cases hlt : j < 3
        · obtain ⟨tag, pb, pq, sb, kb, v, M, hF, g⟩ := hR2
          have c0 := g.c0
          have c1 := g.c1
          go_wp2_with fail
          refine (rs_register (fun k => tag k = 3) sb (stkSt j) (stkSt_ok j) j _ g.s).mono ?_
          rintro e w4 ⟨rfl, G4, hs4, M4⟩
          have g4 := g.stakes hs4 M4
          have m4 := hm.next (retag_moved hF M4 (by decide))
          have d0 := g4.c0
          clear g c0 c1 hm
          go_wp2_with fail
          refine (rp_out pb pq (outTo j) (outTo_ok j) j 1000 w4 g4.p).mono ?_
          rintro e w5 ⟨rfl, hp5, hK5⟩
          have g5 := g4.purse hp5 hK5
          have m5 := m4.next (g4.movedP (F := fun k => retag tag 3 G4 k ≠ 0) (fun _ => Iff.rfl) hK5)
          have e1 := g5.c1
          clear g4 d0 m4
          go_wp2_with fail
          refine (rs_join (fun k => retag tag 3 G4 k = 3) sb ((stkSt j).reg j) ((stkSt_ok j).reg j) j j 1000 w5 g5.s).mono ?_
          rintro e w6 ⟨rfl, hs6, M6⟩
          have g6 := g5.stakes0 hs6 M6
          have m6 := m5.next (F' := fun k => retag tag 3 G4 k ≠ 0) ⟨M6.kept.mono (fun k _ e => by rw [e]; decide), fun _ _ g => g⟩
          clear g5 e1 m5
          go_wp2_with fail
          go_roundw
          case rel => exact ⟨j + 1, _, by omega, by go_num, ⟨_, pb, pq, sb, kb, v, M, fun _ => Iff.rfl, g6⟩, m6⟩
          case measure => simp [intOf]; omega
        · obtain rfl : 3 = j := by omega
          clear hlt hj
          obtain ⟨i0, hi, hz0, hz1, hz2⟩ := info_parts Tryz.infoPics
          go_wp2_with fail
          go_loopw [6] (fun i wr => ∃ (j : Nat) (F : Nat → Prop), j ≤ 3 ∧ i = .int .i64 j ∧ RCh F wr cb { chNew seed with pics := List.replicate j stakes0.pic } ∧ Mine w.heap.size w wr F) (fun i _ => 3 - (intOf i).toNat)
          case atStart => exact ⟨0, F2, by omega, rfl, hR2, hm⟩
          case round =>
            obtain ⟨j, F3, hj, rfl, hR3, hm3⟩ := hrel
            clear hR2 hm
            by_cases hlt : j < 3
            · obtain ⟨tag, pb, pq, sb, kb, v, M, hF, g⟩ := hR3
              have c7 := g.c7
              have c1 := g.c1
              have t2 : (j : Int) ≤ 2 := by omega
              have pl : ({ chNew seed with pics := List.replicate j stakes0.pic } : Ch).pics.length = j := List.length_replicate ..
              have l63 : j + 1 ≤ maxLen := by simp only [maxLen]; omega
              have l64 : (j + 1) * 24 ≤ 140737488355328 := by omega
              go_wp2_with fail
              go_region_law (first
                | (refine step_append_lies _ (by rfl) (.tmp 55) (.tmp 61) 94 (by rfl) 0 31 i0 (.slice none 0 0) 1 24 Tryz.underlying94 hi hz0 hz1 hz2 rfl (by decide) v j (mrow M) (by rfl) ow4 ⟨w4.heap.size, 0, none⟩ 1 1 [.slice (some ⟨m, 0, none⟩) 3 mcap] (by rfl) rfl N4 one (by decide) l63 l64 (Nat.zero_le _) (w4.heap.size + 1) (by simp) ?_; intro gN capN w7 hown hgrow hat hltN; obtain ⟨d7, e7⟩ := g4.slot7 hgrow)
                | (go_simp; go_at_call 61; refine (rk_picture (fun k => tag k = 3) sb stakes0 stakes0_ok _ (by first | exact g.s | exact (g.drewN 1).s)).mono ?_; rintro e w4 ⟨m, mcap, rfl, ⟨hm5, hm6⟩, hI, hB4⟩; have B4 : Below wr.heap.size wr w4 := (by first | exact hB4 | exact below_drew_end hB4); have g4 := g.nextB B4; have c74 := g4.c7; have f74 := g4.f 7; have A4 : Below w4.heap.size w4 (w4.alloc (.cells #[.slice (some ⟨m, 0, none⟩) 3 mcap] 31)) := ((Below.refl _ _).alloc (Nat.le_refl _) _); have c75 : (w4.alloc (.cells #[.slice (some ⟨m, 0, none⟩) 3 mcap] 31)).cell? ⟨cb, 7, none⟩ = some v := was_cell A4 c74; have ow4 : (w4.alloc (.cells #[.slice (some ⟨m, 0, none⟩) 3 mcap] 31)).ownsRow 0 31 1 v j (mrow M) := (by have o := g4.own; rw [pl] at o; exact o.alloc _); have N4 : ∀ j u, [Value.slice (some ⟨m, 0, none⟩) 3 mcap][j]? = some u → (w4.alloc (.cells #[.slice (some ⟨m, 0, none⟩) 3 mcap] 31)).cell? ((⟨w4.heap.size, 0, none⟩ : Addr).add j) = some u := World.news_of_block (heap_alloc_new w4 _); have one : ∀ u ∈ [Value.slice (some ⟨m, 0, none⟩) 3 mcap], u.oneCell' = true := (by simp [Value.oneCell'])))
              all_goals
                go_wp2_with fail
                go_roundw
                case rel =>
                  obtain ⟨tag', gF, hold, hK⟩ := g.pictured (m := (m, mcap)) (W := stakes0.pic) (n := j + 1) (cap := capN) (.inl hm5) (B4.trans (A4.mono B4.size)) (fun i hi => was_cell A4 (hI i hi)) (by rw [pl]) hown hgrow (hat.imp (fun e => e) (fun e => by rw [e]; simp)) hltN
                  refine ⟨j + 1, fun k => tag' k ≠ 0, by omega, by go_num, ?_, hm3.next ⟨hK.mono (fun k _ e => (hF k).2 e), fun k hk e => (hF k).2 (hold k hk e)⟩⟩
                  rw [List.replicate_succ']
                  exact ⟨tag', pb, pq, sb, kb, _, _, fun _ => Iff.rfl, gF⟩
                case measure => simp [intOf]; omega
            · obtain rfl : 3 = j := by omega
              have t2 : ¬ ((3 : Nat) : Int) ≤ 2 := by omega
              clear hlt hj
              go_wp2_with fail
              go_ret
              exact ⟨cb, rfl, F3, hR3, hm3.f, hm3.below⟩
end Go.Proofs.YtjodnacodlhamacGreatDoor

namespace Go.Proofs.YtjodnacodlhamacGreatDoor
open Go.RowKit

set_option maxRecDepth 100000 in
set_option maxHeartbeats 4000000 in
theorem chainActs_walk (seed : Nat) (hs : seed < W64) (b off len cap : Nat) (A : Nat → Addr) (w : World) (hL : Laid w A) (hb : b < w.heap.size) (h120 : len ≤ 120) (hA : CActs w b off len) :
    Calls Tryz.prog 6 #[.int .u64 seed, .slice (some ⟨b, off, none⟩) len cap] w fun e w' => e = .returned (.bool true) ∧ Below w.heap.size w w' := by
  go_enter Tryz.func6, Tryz.ntmps6
  go_wp2_with fail
  refine (begun_of A w hL.ch).mono ?_
  rintro e w1 ⟨rfl, hB1⟩
  go_wp2_with fail
  refine (pch_new seed hs A w1 (hL.ch.below hB1)).mono ?_
  rintro e w2 ⟨cb, F2, rfl, h2, hF2, hB2⟩
  go_wp2_with fail
  refine (rch_new seed w2).mono ?_
  rintro e w3 ⟨rb, G3, rfl, k3, hG3, hB3⟩
  have B12 := hB1.trans (hB2.mono hB1.size)
  have W3 : Sides w.heap.size w w3 F2 G3 := ⟨fun k hk hg => by have := h2.lt k hk; have := hG3 k hg; omega, fun k hk => Nat.le_trans hB1.size (hF2 k hk), fun k hk => Nat.le_trans B12.size (hG3 k hk), B12.trans (hB3.mono B12.size), Nat.le_trans B12.size hB3.size⟩
  have h3 := h2.nextB hB3
  clear h2 hF2 hG3 hB1 hB2 hB3 B12
  go_wp2_with fail
  go_loopw [8] (fun i wr => ∃ k : Nat, k ≤ len ∧ i = .int .i64 k ∧ BothC w.heap.size w wr cb rb (10000 + 2000 * k) k) (fun i _ => len - (intOf i).toNat)
  case atStart => exact ⟨0, Nat.zero_le _, rfl, F2, G3, chNew seed, 10000, chNew_ok seed hs, chNew_fit seed, Nat.le_refl _, h3, k3, W3⟩
  case round =>
    obtain ⟨k, hk, rfl, F, G, C, g, hC, hf, hg, hP, hR, hW⟩ := hrel
    clear h3 k3 W3
    by_cases hlt : k < len
    · obtain ⟨t, a, f⟩ := hA.below hW.below hb k hlt
      have a0 := a.c0
      have a1 := a.c1
      have a2 := a.c2
      have a3 := a.c3
      have a4 := a.c4
      have a5 := a.c5
      have a6 := a.c6
      have a7 := a.c7
      have a8 := a.c8
      go_wp2_with fail
      refine (cact_of w F G cb rb C hC k (by omega) hf g (by omega) t f A wr hL hP hR hW).mono ?_
      rintro e w4 ⟨rfl, F4, G4, C4, g4, hC4, hf4, hg4, hP4, hR4, hW4⟩
      clear a a0 a1 a2 a3 a4 a5 a6 a7 a8 hP hR hW hC hf
      by_cases h8 : (k : Int) % 8 = 0
      · have d0 : ((k : Int) % 8 == 0) = true := by rw [beq_iff_eq]; exact h8
        clear h8
        go_wp2_with fail
        refine (asChain_of w F4 G4 cb rb C4 hC4 (by have := hf4.k; omega) (by have := hf4.y; have := hf4.v; omega) g4 w4 hP4 hR4 hW4).mono ?_
        rintro e w5 ⟨rfl, hP5, hR5, hW5⟩
        clear hP4 hR4 hW4
        go_wp2_with fail
        go_roundw
        case rel => exact ⟨k + 1, by omega, by go_num, F4, G4, C4, g4, hC4, hf4, by omega, hP5, hR5, hW5⟩
        case measure => simp [intOf]; omega
      · have d0 : ((k : Int) % 8 == 0) = false := by rw [beq_eq_false_iff_ne]; exact h8
        clear h8
        go_wp2_with fail
        go_roundw
        case rel => exact ⟨k + 1, by omega, by go_num, F4, G4, C4, g4, hC4, hf4, by omega, hP4, hR4, hW4⟩
        case measure => simp [intOf]; omega
    · obtain rfl : k = len := by omega
      go_wp2_with fail
      refine (asChain_of w F G cb rb C hC (by have := hf.k; omega) (by have := hf.y; have := hf.v; omega) g wr hP hR hW).mono ?_
      rintro e w5 ⟨rfl, hP5, hR5, hW5⟩
      have hB := hW5.below
      clear hP hR hW hP5 hR5 hW5
      go_wp2_with fail
      go_ret
      exact ⟨rfl, hB⟩
end Go.Proofs.YtjodnacodlhamacGreatDoor

namespace Go.Proofs.YtjodnacodlhamacGreatDoor
open Go.RowKit

set_option maxRecDepth 100000 in
set_option maxHeartbeats 1000000 in
theorem chainActs_none (seed : Nat) (hs : seed < W64) (a : Option Addr) (cap : Nat) (A : Nat → Addr) (w : World) (hL : Laid w A) :
    Calls Tryz.prog 6 #[.int .u64 seed, .slice a 0 cap] w fun e w' => e = .returned (.bool true) ∧ Below w.heap.size w w' := by
  go_enter Tryz.func6, Tryz.ntmps6
  go_wp2_with fail
  refine (begun_of A w hL.ch).mono ?_
  rintro e w1 ⟨rfl, hB1⟩
  go_wp2_with fail
  refine (pch_new seed hs A w1 (hL.ch.below hB1)).mono ?_
  rintro e w2 ⟨cb, F2, rfl, h2, hF2, hB2⟩
  go_wp2_with fail
  refine (rch_new seed w2).mono ?_
  rintro e w3 ⟨rb, G3, rfl, k3, hG3, hB3⟩
  have B12 := hB1.trans (hB2.mono hB1.size)
  have W3 : Sides w.heap.size w w3 F2 G3 := ⟨fun k hk hg => by have := h2.lt k hk; have := hG3 k hg; omega, fun k hk => Nat.le_trans hB1.size (hF2 k hk), fun k hk => Nat.le_trans B12.size (hG3 k hk), B12.trans (hB3.mono B12.size), Nat.le_trans B12.size hB3.size⟩
  have h3 := h2.nextB hB3
  clear h2 hF2 hG3 hB1 hB2 hB3 B12
  go_wp2_with fail
  go_loopw [8] (fun i w' => i = .int .i64 0 ∧ w' = w3) (fun _ _ => 0)
  case atStart => exact ⟨rfl, rfl⟩
  case round =>
    obtain ⟨rfl, rfl⟩ := hrel
    have fit := chNew_fit seed
    go_wp2_with fail
    refine (asChain_of w F2 G3 cb rb (chNew seed) (chNew_ok seed hs) (by have := fit.k; omega) (by have := fit.y; have := fit.v; omega) 10000 _ h3 k3 W3).mono ?_
    rintro e w5 ⟨rfl, hP5, hR5, hW5⟩
    have hB := hW5.below
    clear h3 k3 W3 hP5 hR5 hW5
    go_wp2_with fail
    go_ret
    exact ⟨rfl, hB⟩
set_option maxRecDepth 100000 in
theorem chainActs_many (seed : Nat) (a : Option Addr) (len cap : Nat) (h : 120 < len) (hm : len ≤ 9223372036854775807) (A : Nat → Addr) (w : World) (hL : Laid w A) :
    Calls Tryz.prog 6 #[.int .u64 seed, .slice a len cap] w fun e w' => e = .returned (.bool true) ∧ Below w.heap.size w w' := by
  go_enter Tryz.func6, Tryz.ntmps6
  go_wp2_with fail
  refine (begun_of A w hL.ch).mono ?_
  rintro e w1 ⟨rfl, hB1⟩
  go_wp2
  go_ret
  exact ⟨rfl, hB1⟩
theorem chainActs_any (seed : Nat) (hs : seed < W64) (a : Option Addr) (len cap : Nat) (A : Nat → Addr) (w : World) (hL : Laid w A) (s : IsCActs w a len cap) :
    Calls Tryz.prog 6 #[.int .u64 seed, .slice a len cap] w fun e w' => e = .returned (.bool true) ∧ Below w.heap.size w w' := by
  rcases s with rfl | ⟨b, off, rfl, hb, hcap, hm, hA⟩
  · exact chainActs_none seed hs a cap A w hL
  · rcases Nat.eq_zero_or_pos len with rfl | _
    · exact chainActs_none seed hs _ cap A w hL
    · by_cases h120 : len ≤ 120
      · exact chainActs_walk seed hs b off len cap A w hL hb h120 hA
      · exact chainActs_many seed _ len cap (by omega) (by omega) A w hL
end Go.Proofs.YtjodnacodlhamacGreatDoor
