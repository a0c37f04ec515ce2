/-
  The program's stakes and the document's, side by side.
  The program's chain has what the document's has (bakehouselaw3.asChain), by its contract.
  Plays of the document's chain (bakehouseref2: BakeTurn, One), by their contracts.
  A script of the document's chain (bakehouseref2.Chain.Run), by its contract.
  The document's chain by its contracts: a new one.
  The law PlayRuns of package bakehouselaw3, walked: for every seed and every script it returns true.
-/
import Derived.Test.YtnbmelnacopdpaaGreatDoorCaseRowX
import Derived.Test.YtnbmelnacopdpaaGreatDoorRefStkLeaveX
import Derived.Test.YtnbmelnacopdpaaGreatDoorRefStkSlashX
import Derived.Test.YtnbmelnacopdpaaGreatDoorCoded2X
import Derived.Test.YtnbmelnacopdpaaGreatDoorRightMathX
import Derived.Test.YtnbmelnacopdpaaGreatDoorProgPurseX
import Derived.Test.YtnbmelnacopdpaaGreatDoorPlayedOfX
import Derived.Deep.RegionHeld3
import Derived.Test.YtnbmelnacopdpaaGreatDoorPlayMathX
import Derived.Test.YtnbmelnacopdpaaGreatDoorPlayRow
import Derived.Deep.RegionLaw
namespace Go.Proofs.YtnbmelnacopdpaaGreatDoor
open Go.RowKit

theorem Laid.stk {w : World} {A : Nat → Addr} (h : Laid w A) : StkLaid w A := ⟨h.v1, h.v3, h.v4, h.v5, h.v6, h.v7⟩
theorem PSk.drewN {F : Nat → Prop} {w : World} {sb g : Nat} {S : Sk} (h : PSk F w sb S g) (n : Nat) : PSk F (w.drewN n) sb S g := h.keptP (G := fun _ => False) ((KeptP.refl _ _).drewN n) (fun _ g => g.elim)
theorem PSk.nextB {F : Nat → Prop} {w w' : World} {sb g : Nat} {S : Sk} (h : PSk F w sb S g) (k : Below w.heap.size w w') : PSk F w' sb S g := h.keptP (KeptP.of_below (F := fun _ => False) k) fun _ g => g.elim
theorem RSk.nextB {F : Nat → Prop} {w w' : World} {sb : Nat} {S : Sk} (h : RSk F w sb S) (k : Below w.heap.size w w') : RSk F w' sb S := h.keptP (KeptP.of_below (F := fun _ => False) k) fun _ g => g.elim
/-- a step of the first -/
theorem Sides.first {B : Nat} {w0 w w' : World} {F F' G : Nat → Prop} {rb : Nat} {T : Sk} (h : Sides B w0 w F G) (hR : RSk G w rb T) (hM : Moved F F' w w') : RSk G w' rb T ∧ Sides B w0 w' F' G := by
  refine ⟨hR.keptP hM.kept h.apart, fun k hk hg => ?_, fun k hk => ?_, h.g, h.below.trans (hM.kept.below h.size h.f), Nat.le_trans h.size hM.kept.size⟩
  · exact h.apart k (hM.old k (hR.lt k hg) hk) hg
  · rcases Nat.lt_or_ge k w.heap.size with l | l
    · exact h.f k (hM.old k l hk)
    · exact Nat.le_trans h.size l
/-- a step of the second -/
theorem Sides.second {B : Nat} {w0 w w' : World} {F G G' : Nat → Prop} {sb g : Nat} {S : Sk} (h : Sides B w0 w F G) (hP : PSk F w sb S g) (hM : Moved G G' w w') : PSk F w' sb S g ∧ Sides B w0 w' F G' := by
  refine ⟨hP.keptP hM.kept (fun k hg hf => h.apart k hf hg), fun k hk hg => ?_, h.f, fun k hk => ?_, h.below.trans (hM.kept.below h.size h.g), Nat.le_trans h.size hM.kept.size⟩
  · exact h.apart k hk (hM.old k (hP.lt k hk) hg)
  · rcases Nat.lt_or_ge k w.heap.size with l | l
    · exact h.g k (hM.old k l hk)
    · exact Nat.le_trans h.size l
/-- both after an act: the same stakes -/
def Both (B : Nat) (w0 w : World) (sb rb : Nat) (g l : Nat) : Prop := ∃ F G S, S.Ok ∧ S.K.length ≤ l ∧ PSk F w sb S g ∧ RSk G w rb S ∧ Sides B w0 w F G
theorem RSk.len {G : Nat → Prop} {w : World} {rb : Nat} {S : Sk} (h : RSk G w rb S) {m : Nat} (hl : S.K.length ≤ m) : ∃ tag pb v L, (∀ k, G k ↔ tag k ≠ 0) ∧ RSkAt tag w rb pb v L S ∧ L.length ≤ m := by
  obtain ⟨tag, pb, v, L, hF, h⟩ := h
  exact ⟨tag, pb, v, L, hF, h, by rw [← h.klen]; exact hl⟩
theorem rsk_is (G : Nat → Prop) (rb : Nat) (S : Sk) (hS : S.Ok) (b : Int) (w : World) (h : RSk G w rb S) :
    Calls Tryz.prog 55 #[.pointer (some ⟨rb, 0, none⟩), .int .i64 b] w fun e w' => e = .returned (.bool (S.R b)) ∧ w' = w := by
  obtain ⟨tag, pb, v, L, _, h⟩ := h
  exact rs_is tag rb pb v L S hS b w h
theorem rsk_staked (G : Nat → Prop) (rb : Nat) (S : Sk) (hS : S.Ok) (b : Int) (w : World) (h : RSk G w rb S) :
    Calls Tryz.prog 39 #[.pointer (some ⟨rb, 0, none⟩), .int .i64 b] w fun e w' => e = .returned (.int .i64 (S.P b).T) ∧ w' = w := by
  obtain ⟨tag, pb, v, L, _, h⟩ := h
  exact rs_staked tag rb pb v L S hS b w h
theorem rsk_value (G : Nat → Prop) (rb : Nat) (S : Sk) (hS : S.Ok) (o b : Int) (w : World) (h : RSk G w rb S) :
    Calls Tryz.prog 36 #[.pointer (some ⟨rb, 0, none⟩), .int .i64 o, .int .i64 b] w fun e w' => e = .returned (.int .i64 ((S.P b).val o)) ∧ ∃ n, w' = w.drewN n := by
  obtain ⟨tag, pb, v, L, _, h⟩ := h
  exact rs_value tag rb pb v L S hS o b w h
theorem rsk_waits (G : Nat → Prop) (rb : Nat) (S : Sk) (hS : S.Ok) (hl : S.K.length ≤ 1000) (o b c : Int) (w : World) (h : RSk G w rb S) :
    Calls Tryz.prog 38 #[.pointer (some ⟨rb, 0, none⟩), .int .i64 o, .int .i64 b, .int .i64 c] w fun e w' => e = .returned (.int .i64 ((S.W b c).val o)) ∧ ∃ n, w' = w.drewN n := by
  obtain ⟨tag, pb, v, L, _, h, hL⟩ := h.len hl
  exact rs_waits tag rb pb v L S hS o b c hL w h
theorem rsk_total (G : Nat → Prop) (rb : Nat) (S : Sk) (hS : S.Ok) (hl : S.K.length ≤ 1000) (w : World) (h : RSk G w rb S) :
    Calls Tryz.prog 16 #[.pointer (some ⟨rb, 0, none⟩)] w fun e w' => e = .returned (.int .i64 S.total) ∧ w' = w := by
  obtain ⟨tag, pb, v, L, _, h, hL⟩ := h.len hl
  exact rs_total tag rb pb v L S hS hL w h
end Go.Proofs.YtnbmelnacopdpaaGreatDoor

namespace Go.Proofs.YtnbmelnacopdpaaGreatDoor
open Go.RowKit

set_option maxRecDepth 100000 in
set_option maxHeartbeats 4000000 in
theorem asChain_of (w0 : World) (F G : Nat → Prop) (cb rb : Nat) (C : Ch) (hC : C.Ok) (hk : C.s.K.length ≤ 400) (hy : C.cyc ≤ 400) (g : Nat) (w : World) (hP : PCh F w cb C g) (hR : RCh G w rb C) (hW : Sides w0.heap.size w0 w F G) :
    Calls Tryz.prog 14 #[.pointer (some ⟨cb, 0, none⟩), .pointer (some ⟨rb, 0, none⟩)] w fun e w' => e = .returned (.bool true) ∧ PCh F w' cb C g ∧ RCh G w' rb C ∧ Sides w0.heap.size w0 w' F G := by
  obtain ⟨pb, sb, kb, hR⟩ := hR.parts
  obtain ⟨pq, hp⟩ := hR.pur
  have wy : (Lit.int .i64 (C.cyc : Int)).wf = true := WalkArith.wf_i64 (by omega)
  go_enter Tryz.func14, Tryz.ntmps14
  go_wp2_with fail
  obtain ⟨wz, hz⟩ : ∃ wz, wz = w := ⟨_, rfl⟩
  have B0 : Below wz.heap.size wz w := by rw [hz]; exact Below.refl _ _
  have zP : PCh F wz cb C g := by rw [hz]; exact hP
  have zR : RChB G wz rb pb sb kb C := by rw [hz]; exact hR
  have zW : Sides w0.heap.size w0 wz F G := by rw [hz]; exact hW
  have q0 : w.cell? ⟨rb, 4, none⟩ = some (.int .i64 C.cyc) := hR.c4
  have q1 : w.cell? ⟨rb, 5, none⟩ = some (.int .i64 C.lev) := hR.c5
  have q2 : w.cell? ⟨rb, 6, none⟩ = some (.int .i64 C.bon) := hR.c6
  have q3 : w.cell? ⟨rb, 0, none⟩ = some (.pointer (some ⟨pb, 0, none⟩)) := hR.c0
  have q4 : w.cell? ⟨pb, 1, none⟩ = some (.int .i64 C.p.S) := hp.c1
  have d0 : (((C.cyc : Nat) : Int) != ((C.cyc : Nat) : Int)) = false := by simp
  have d1 : (((C.lev : Nat) : Int) != ((C.lev : Nat) : Int)) = false := by simp
  have d2 : (C.bon != C.bon) = false := by simp
  have d3 : (C.p.S != C.p.S) = false := by simp
  clear hP hR hW
  have u0 : wz.cell? ⟨rb, 4, none⟩ = some (.int .i64 C.cyc) := by rw [hz]; exact q0
  have u1 : wz.cell? ⟨rb, 5, none⟩ = some (.int .i64 C.lev) := by rw [hz]; exact q1
  have u2 : wz.cell? ⟨rb, 6, none⟩ = some (.int .i64 C.bon) := by rw [hz]; exact q2
  have u3 : wz.cell? ⟨rb, 0, none⟩ = some (.pointer (some ⟨pb, 0, none⟩)) := by rw [hz]; exact q3
  have u4 : wz.cell? ⟨pb, 1, none⟩ = some (.int .i64 C.p.S) := by rw [hz]; exact q4
  have up : wz.cell? ⟨pb, 0, none⟩ = some (.slice (some ⟨pq, 0, none⟩) 6 6) := by rw [hz]; exact hp.c0
  have us : ∀ i : Nat, i < 6 → wz.cell? ⟨pq, i, none⟩ = some (.int .i64 (C.p.s i)) := by rw [hz]; exact hp.s
  clear hz hp
  go_region_held3 (fun w' => w'.cell? ⟨rb, 4, none⟩ = some (.int .i64 C.cyc) ∧ w'.cell? ⟨rb, 5, none⟩ = some (.int .i64 C.lev) ∧ w'.cell? ⟨rb, 6, none⟩ = some (.int .i64 C.bon) ∧ w'.cell? ⟨rb, 0, none⟩ = some (.pointer (some ⟨pb, 0, none⟩)) ∧ w'.cell? ⟨pb, 1, none⟩ = some (.int .i64 C.p.S)) (exact ⟨by assumption, by assumption, by assumption, by assumption, by assumption⟩)
    (first
      | (go_at_call 33; refine (pch_cycle F cb C g _ (by first | exact zP.nextB B0 | exact (zP.nextB B0).drewN _)).mono ?_; rintro e w1 ⟨rfl, hB1⟩; have B1 : Below wz.heap.size wz w1 := (by first | exact B0.trans (hB1.mono B0.size) | exact (below_drewN B0 _).trans (hB1.mono B0.size)); have q1_0 : w1.cell? ⟨rb, 4, none⟩ = some (.int .i64 C.cyc) := stk_old B1 u0; have q1_1 : w1.cell? ⟨rb, 5, none⟩ = some (.int .i64 C.lev) := stk_old B1 u1; have q1_2 : w1.cell? ⟨rb, 6, none⟩ = some (.int .i64 C.bon) := stk_old B1 u2; have q1_3 : w1.cell? ⟨rb, 0, none⟩ = some (.pointer (some ⟨pb, 0, none⟩)) := stk_old B1 u3; have q1_4 : w1.cell? ⟨pb, 1, none⟩ = some (.int .i64 C.p.S) := stk_old B1 u4)
      | (go_at_call 11; refine (pch_level F cb C g _ (by first | exact zP.nextB B1 | exact (zP.nextB B1).drewN _)).mono ?_; rintro e w2 ⟨rfl, hB2⟩; have B2 : Below wz.heap.size wz w2 := (by first | exact B1.trans (hB2.mono B1.size) | exact (below_drewN B1 _).trans (hB2.mono B1.size)); have q2_0 : w2.cell? ⟨rb, 4, none⟩ = some (.int .i64 C.cyc) := stk_old B2 u0; have q2_1 : w2.cell? ⟨rb, 5, none⟩ = some (.int .i64 C.lev) := stk_old B2 u1; have q2_2 : w2.cell? ⟨rb, 6, none⟩ = some (.int .i64 C.bon) := stk_old B2 u2; have q2_3 : w2.cell? ⟨rb, 0, none⟩ = some (.pointer (some ⟨pb, 0, none⟩)) := stk_old B2 u3; have q2_4 : w2.cell? ⟨pb, 1, none⟩ = some (.int .i64 C.p.S) := stk_old B2 u4)
      | (go_at_call 34; refine (pch_bonus F cb C g _ (by first | exact zP.nextB B2 | exact (zP.nextB B2).drewN _)).mono ?_; rintro e w3 ⟨rfl, hB3⟩; have B3 : Below wz.heap.size wz w3 := (by first | exact B2.trans (hB3.mono B2.size) | exact (below_drewN B2 _).trans (hB3.mono B2.size)); have q3_0 : w3.cell? ⟨rb, 4, none⟩ = some (.int .i64 C.cyc) := stk_old B3 u0; have q3_1 : w3.cell? ⟨rb, 5, none⟩ = some (.int .i64 C.lev) := stk_old B3 u1; have q3_2 : w3.cell? ⟨rb, 6, none⟩ = some (.int .i64 C.bon) := stk_old B3 u2; have q3_3 : w3.cell? ⟨rb, 0, none⟩ = some (.pointer (some ⟨pb, 0, none⟩)) := stk_old B3 u3; have q3_4 : w3.cell? ⟨pb, 1, none⟩ = some (.int .i64 C.p.S) := stk_old B3 u4)
      | (go_at_call 23; refine (pch_supply F cb C g _ (by first | exact zP.nextB B3 | exact (zP.nextB B3).drewN _)).mono ?_; rintro e w4 ⟨rfl, hB4⟩; have B4 : Below wz.heap.size wz w4 := (by first | exact B3.trans (hB4.mono B3.size) | exact (below_drewN B3 _).trans (hB4.mono B3.size)); have q4_0 : w4.cell? ⟨rb, 4, none⟩ = some (.int .i64 C.cyc) := stk_old B4 u0; have q4_1 : w4.cell? ⟨rb, 5, none⟩ = some (.int .i64 C.lev) := stk_old B4 u1; have q4_2 : w4.cell? ⟨rb, 6, none⟩ = some (.int .i64 C.bon) := stk_old B4 u2; have q4_3 : w4.cell? ⟨rb, 0, none⟩ = some (.pointer (some ⟨pb, 0, none⟩)) := stk_old B4 u3; have q4_4 : w4.cell? ⟨pb, 1, none⟩ = some (.int .i64 C.p.S) := stk_old B4 u4))
  clear q0 q1 q2 q3 q4 d0 d1 d2 d3
  go_wp2_with fail
  go_loopw [5] (fun i wr => ∃ o : Nat, o ≤ 6 ∧ i = .int .i64 o ∧ Below wz.heap.size wz wr) (fun i _ => 6 - (intOf i).toNat)
  case atStart => exact ⟨0, by omega, rfl, B4⟩
  case round =>
    obtain ⟨o, ho, rfl, B⟩ := hrel
    clear B0 B1 B2 B3 B4
    by_cases ho6 : o < 6
    · have wo : (Lit.int .i64 (o : Int)).wf = true := WalkArith.wf_i64 (by omega)
      have d0 : (C.p.s o != C.p.s o) = false := by simp
      have r0 : wr.cell? ⟨rb, 0, none⟩ = some (.pointer (some ⟨pb, 0, none⟩)) := stk_old B u3
      have r1 : wr.cell? ⟨pb, 0, none⟩ = some (.slice (some ⟨pq, 0, none⟩) 6 6) := stk_old B up
      have r2 : wr.cell? ⟨pq, o, none⟩ = some (.int .i64 (C.p.s o)) := stk_old B (us o ho6)
      go_wp2_with fail
      go_region_held3 (fun w' => w'.cell? ⟨rb, 0, none⟩ = some (.pointer (some ⟨pb, 0, none⟩)) ∧ w'.cell? ⟨pb, 0, none⟩ = some (.slice (some ⟨pq, 0, none⟩) 6 6) ∧ w'.cell? ⟨pq, o, none⟩ = some (.int .i64 (C.p.s o))) (exact ⟨by assumption, by assumption, by assumption⟩)
        (first | (go_at_call 24; refine (pch_has F cb C hC g o _ (by first | exact zP.nextB B | exact (zP.nextB B).drewN _)).mono ?_; rintro e w1 ⟨rfl, hB1⟩; have B1 : Below wz.heap.size wz w1 := (by first | exact B.trans (hB1.mono B.size) | exact (below_drewN B _).trans (hB1.mono B.size)); have r1_0 : w1.cell? ⟨rb, 0, none⟩ = some (.pointer (some ⟨pb, 0, none⟩)) := stk_old B1 u3; have r1_1 : w1.cell? ⟨pb, 0, none⟩ = some (.slice (some ⟨pq, 0, none⟩) 6 6) := stk_old B1 up; have r1_2 : w1.cell? ⟨pq, o, none⟩ = some (.int .i64 (C.p.s o)) := stk_old B1 (us o ho6)))
      clear r0 r1 r2 d0
      go_wp2_with fail
      go_loopw [6] (fun i wx => ∃ p : Nat, p ≤ 3 ∧ i = .int .i64 p ∧ Below wz.heap.size wz wx) (fun i _ => 3 - (intOf i).toNat)
      case atStart => exact ⟨0, by omega, rfl, B1⟩
      case round =>
        obtain ⟨p, hp, rfl, B⟩ := hrel
        by_cases hp3 : p < 3
        · have wp : (Lit.int .i64 (p : Int)).wf = true := WalkArith.wf_i64 (by omega)
          have d0 : ((C.s.P p).val o != (C.s.P p).val o) = false := by simp
          have d1 : ((C.s.W p C.cyc).val o != (C.s.W p C.cyc).val o) = false := by simp
          have r0 : wr.cell? ⟨rb, 1, none⟩ = some (.pointer (some ⟨sb, 0, none⟩)) := (zR.nextB B).c1
          have r1 : wr.cell? ⟨rb, 4, none⟩ = some (.int .i64 C.cyc) := (zR.nextB B).c4
          have t0 := zR.c1
          have t1 := zR.c4
          go_wp2_with fail
          go_region_held3 (fun w' => w'.cell? ⟨rb, 1, none⟩ = some (.pointer (some ⟨sb, 0, none⟩)) ∧ w'.cell? ⟨rb, 4, none⟩ = some (.int .i64 C.cyc)) (exact ⟨by assumption, by assumption⟩)
            (first
              | (go_at_call 21; refine (pch_stakes F cb C g _ (by first | exact zP.nextB B | exact (zP.nextB B).drewN _)).mono ?_; rintro e w11 ⟨s1, Fs1, rfl, hs1, _, hB11⟩; have B11 : Below wz.heap.size wz w11 := (by first | exact B.trans (hB11.mono B.size) | exact (below_drewN B _).trans (hB11.mono B.size)); have r11_0 : w11.cell? ⟨rb, 1, none⟩ = some (.pointer (some ⟨sb, 0, none⟩)) := stk_old B11 t0; have r11_1 : w11.cell? ⟨rb, 4, none⟩ = some (.int .i64 C.cyc) := stk_old B11 t1)
              | (go_at_call 35; refine (ps_value Fs1 s1 C.s hC.s _ o p wo _ (by first | exact hs1 | exact hs1.drewN _)).mono ?_; rintro e w12 ⟨rfl, m12, hw12⟩; have B12 : Below wz.heap.size wz w12 := (by rw [hw12]; first | exact below_drewN B11 _ | exact below_drewN (below_drewN B11 _) _); have r12_0 : w12.cell? ⟨rb, 1, none⟩ = some (.pointer (some ⟨sb, 0, none⟩)) := stk_old B12 t0; have r12_1 : w12.cell? ⟨rb, 4, none⟩ = some (.int .i64 C.cyc) := stk_old B12 t1; clear hw12)
              | (go_at_call 36; obtain ⟨Gs, hGs, _⟩ := (zR.nextB B12).stk; refine (rsk_value Gs sb C.s hC.s o p _ (by first | exact hGs | exact hGs.drewN _)).mono ?_; rintro e w13 ⟨rfl, m13, hw13⟩; have B13 : Below wz.heap.size wz w13 := (by rw [hw13]; first | exact below_drewN B12 _ | exact below_drewN (below_drewN B12 _) _); have r13_0 : w13.cell? ⟨rb, 1, none⟩ = some (.pointer (some ⟨sb, 0, none⟩)) := stk_old B13 t0; have r13_1 : w13.cell? ⟨rb, 4, none⟩ = some (.int .i64 C.cyc) := stk_old B13 t1; clear hw13)
              | (go_at_call 21; refine (pch_stakes F cb C g _ (by first | exact zP.nextB B13 | exact (zP.nextB B13).drewN _)).mono ?_; rintro e w14 ⟨s2, Fs2, rfl, hs2, _, hB14⟩; have B14 : Below wz.heap.size wz w14 := (by first | exact B13.trans (hB14.mono B13.size) | exact (below_drewN B13 _).trans (hB14.mono B13.size)); have r14_0 : w14.cell? ⟨rb, 1, none⟩ = some (.pointer (some ⟨sb, 0, none⟩)) := stk_old B14 t0; have r14_1 : w14.cell? ⟨rb, 4, none⟩ = some (.int .i64 C.cyc) := stk_old B14 t1)
              | (go_at_call 33; refine (pch_cycle F cb C g _ (by first | exact zP.nextB B14 | exact (zP.nextB B14).drewN _)).mono ?_; rintro e w15 ⟨rfl, hB15⟩; have hs3 := (by first | exact hs2.nextB hB15 | exact (hs2.drewN _).nextB hB15 : PSk Fs2 w15 s2 C.s g); have B15 : Below wz.heap.size wz w15 := (by first | exact B14.trans (hB15.mono B14.size) | exact (below_drewN B14 _).trans (hB15.mono B14.size)); have r15_0 : w15.cell? ⟨rb, 1, none⟩ = some (.pointer (some ⟨sb, 0, none⟩)) := stk_old B15 t0; have r15_1 : w15.cell? ⟨rb, 4, none⟩ = some (.int .i64 C.cyc) := stk_old B15 t1)
              | (go_at_call 37; refine (ps_waits Fs2 s2 C.s hC.s _ o p C.cyc wo wy _ (by first | exact hs3 | exact hs3.drewN _)).mono ?_; rintro e w16 ⟨rfl, hB16⟩; have B16 : Below wz.heap.size wz w16 := (by first | exact B15.trans (hB16.mono B15.size) | exact (below_drewN B15 _).trans (hB16.mono B15.size)); have r16_0 : w16.cell? ⟨rb, 1, none⟩ = some (.pointer (some ⟨sb, 0, none⟩)) := stk_old B16 t0; have r16_1 : w16.cell? ⟨rb, 4, none⟩ = some (.int .i64 C.cyc) := stk_old B16 t1)
              | (go_at_call 38; obtain ⟨Gt, hGt, _⟩ := (zR.nextB B16).stk; refine (rsk_waits Gt sb C.s hC.s (by omega) o p C.cyc _ (by first | exact hGt | exact hGt.drewN _)).mono ?_; rintro e w17 ⟨rfl, m17, hw17⟩; have B17 : Below wz.heap.size wz w17 := (by rw [hw17]; first | exact below_drewN B16 _ | exact below_drewN (below_drewN B16 _) _); have r17_0 : w17.cell? ⟨rb, 1, none⟩ = some (.pointer (some ⟨sb, 0, none⟩)) := stk_old B17 t0; have r17_1 : w17.cell? ⟨rb, 4, none⟩ = some (.int .i64 C.cyc) := stk_old B17 t1; clear hw17))
          go_wp2_with fail
          go_roundw
          case rel => exact ⟨p + 1, by omega, by go_num, B17⟩
          case measure => simp [intOf]; omega
        · obtain rfl : p = 3 := by omega
          go_wp2_with fail
          go_roundw
          case rel => exact ⟨o + 1, by omega, by go_num, B⟩
          case measure => simp [intOf]; omega
    · obtain rfl : o = 6 := by omega
      have d0 : (C.s.total == C.s.total) = true := by simp
      have r0 : wr.cell? ⟨rb, 1, none⟩ = some (.pointer (some ⟨sb, 0, none⟩)) := (zR.nextB B).c1
      have t0 := zR.c1
      go_wp2_with fail
      go_region_held3 (fun w' => w'.cell? ⟨rb, 1, none⟩ = some (.pointer (some ⟨sb, 0, none⟩))) (assumption)
        (first
          | (go_at_call 21; refine (pch_stakes F cb C g _ (by first | exact zP.nextB B | exact (zP.nextB B).drewN _)).mono ?_; rintro e w11 ⟨s1, Fs1, rfl, hs1, _, hB11⟩; have B11 : Below wz.heap.size wz w11 := (by first | exact B.trans (hB11.mono B.size) | exact (below_drewN B _).trans (hB11.mono B.size)); have r11_0 : w11.cell? ⟨rb, 1, none⟩ = some (.pointer (some ⟨sb, 0, none⟩)) := stk_old B11 t0)
          | (go_at_call 22; refine (ps_total Fs1 s1 C.s hC.s (by omega) _ _ (by first | exact hs1 | exact hs1.drewN _)).mono ?_; rintro e w12 ⟨rfl, hB12⟩; have B12 : Below wz.heap.size wz w12 := (by first | exact B11.trans (hB12.mono B11.size) | exact (below_drewN B11 _).trans (hB12.mono B11.size)); have r12_0 : w12.cell? ⟨rb, 1, none⟩ = some (.pointer (some ⟨sb, 0, none⟩)) := stk_old B12 t0)
          | (go_at_call 16; obtain ⟨Gs, hGs, _⟩ := (zR.nextB B12).stk; refine (rsk_total Gs sb C.s hC.s (by omega) _ (by first | exact hGs | exact hGs.drewN _)).mono ?_; rintro e w13 ⟨rfl, hw13⟩; have B13 : Below wz.heap.size wz w13 := (by rw [hw13]; first | exact B12 | exact below_drewN B12 _); have r13_0 : w13.cell? ⟨rb, 1, none⟩ = some (.pointer (some ⟨sb, 0, none⟩)) := stk_old B13 t0; clear hw13))
      go_wp2_with fail
      go_ret
      exact ⟨rfl, zP.nextB B13, (zR.nextB B13).whole, zW.nextB B13⟩
end Go.Proofs.YtnbmelnacopdpaaGreatDoor

namespace Go.Proofs.YtnbmelnacopdpaaGreatDoor
open Go.RowKit

set_option maxRecDepth 100000 in
set_option maxHeartbeats 1000000 in
theorem rch_bakeTurn (F : Nat → Prop) (cb : Nat) (C : Ch) (hC : C.Ok) (i : Nat) (hi : i ≤ 400) (hf : C.Fit i) (r : Int) (hr : TurnOk C.cyc C.lev r) (w : World) (h : RCh F w cb C) :
    Calls Tryz.prog 62 #[.pointer (some ⟨cb, 0, none⟩), .int .i64 r] w fun e w' => ∃ k, e = .returned (.tuple #[.int .i64 k, .int .i64 (C.bakeN k), .int .i64 0]) ∧ Turn 3 C.pic C.seed C.cyc C.lev r k ∧ ∃ F', RCh F' w' cb (C.bake k) ∧ Moved F F' w w' := by
  go_enter Tryz.func62, Tryz.ntmps62
  go_wp2_with fail
  refine (rch_turn F cb C hC r hr w h).mono ?_
  rintro e w1 ⟨k, rfl, hk, hB1⟩
  have hB2 : Below w1.heap.size w1 (w1.alloc (.cells #[.int .i64 0, .int .i64 (-1)] 138)) := (Below.refl _ _).alloc (Nat.le_refl _) _
  have h2 := (h.nextB hB1).nextB hB2
  have M2 : Moved F F w (w1.alloc (.cells #[.int .i64 0, .int .i64 (-1)] 138)) := ⟨KeptP.of_below (hB1.trans (hB2.mono hB1.size)), fun _ _ g => g⟩
  have HK := hide hk
  clear hk hB1 hB2 h
  go_wp2_with fail
  refine (rch_bake_fine F cb C hC i hi hf k r hr _ h2 (fun k' h' => h'.one HK.out)).mono ?_
  rintro e w3 ⟨rfl, F3, h3, M3⟩
  have M4 := M2.trans M3
  clear h2 M2 M3
  go_wp2_with fail
  go_ret3
  exact ⟨k, rfl, HK.out, F3, h3, M4⟩
set_option maxRecDepth 100000 in
set_option maxHeartbeats 2000000 in
theorem one_accuse (F : Nat → Prop) (cb : Nat) (C : Ch) (hC : C.Ok) (i : Nat) (hi : i ≤ 400) (hf : C.Fit i) (v q o b' b k n' k4 q72 e5 : Int) (v0 : 0 ≤ v) (hv : v ≤ 9223372036854775807) (hq : v / 8 = q) (hm : v % 8 = 4) (ho : q % 6 = o) (hb' : q / 6 = b') (hb : b' % 3 = b) (hk : q / 18 = k) (hn' : k % 2000 = n') (hk4 : k % 4 = k4) (hq72 : q / 72 = q72) (he5 : q72 % 5 = e5) (w : World) (h : RCh F w cb C) :
    Calls Tryz.prog 32 #[.pointer (some ⟨cb, 0, none⟩), .int .i64 v] w fun e w' => e = .returned (.int .i64 (C.c.accC o (b, (C.cyc : Int) - k4, e5) C.cyc)) ∧ ∃ F', RCh F' w' cb (C.accuse o (b, (C.cyc : Int) - k4, e5)) ∧ Moved F F' w w' := by
  have q0 : 0 ≤ q := by omega
  have q1 : q ≤ 1152921504606846975 := by omega
  have o0 : 0 ≤ o := by omega
  have o6 : o < 6 := by omega
  have b0' : 0 ≤ b' := by omega
  have b1' : b' ≤ 1152921504606846975 := by omega
  have b0 : 0 ≤ b := by omega
  have b3 : b < 3 := by omega
  have k0 : 0 ≤ k := by omega
  have k1 : k ≤ 1152921504606846975 := by omega
  have n0 : 0 ≤ n' := by omega
  have n1 : n' < 2000 := by omega
  have x0 : 0 ≤ k4 := by omega
  have x4 : k4 < 4 := by omega
  have y0 : 0 ≤ q72 := by omega
  have y1 : q72 ≤ 1152921504606846975 := by omega
  have z0 : 0 ≤ e5 := by omega
  have z5 : e5 < 5 := by omega
  obtain ⟨y, hy⟩ : ∃ y : Int, (C.cyc : Int) = y := ⟨_, rfl⟩
  have y2 : 0 ≤ y := by omega
  have y3 : y ≤ 400 := by have := hf.y; have := hf.v; omega
  obtain ⟨d, hd⟩ : ∃ d : Int, y - k4 = d := ⟨_, rfl⟩
  have d0 : -4 ≤ d := by omega
  have d1 : d ≤ 400 := by omega
  obtain ⟨pb, sb, kb, hR⟩ := h.parts
  have c2 := hR.c2
  have c4 := hR.c4
  have ACC := hide (fun w' (g : RChB F w' cb pb sb kb C) => rchb_accuse F cb pb sb kb C hC (by have := hf.l; omega) o b d e5 w' g)
  rw [hy, hd]
  rw [hy] at c4
  unfold Hid at ACC
  rw [hy] at ACC
  have AC := hide ACC
  have r1 : IntKind.i64.wrap (y - k.tmod 4) = d := by rw [Int.tmod_eq_emod_of_nonneg k0, hk4, hd]; exact wrap_end d (by omega) (by omega)
  have r2 : (IntKind.i64.wrap (q.tdiv 72)).tmod 5 = e5 := by rw [Int.tdiv_eq_ediv_of_nonneg q0, hq72, wrap_end q72 (by omega) (by omega), Int.tmod_eq_emod_of_nonneg y0, he5]
  clear ACC h hf hC
  go_enter Tryz.func32, Tryz.ntmps32
  go_wp2_with fail
  go_region_held3 (fun w' => w'.cell? ⟨cb, 2, none⟩ = some (.pointer (some ⟨kb, 0, none⟩)) ∧ w'.cell? ⟨cb, 4, none⟩ = some (.int .i64 y)) (exact ⟨by assumption, by assumption⟩)
    (first | (go_simp; go_at_call 61; refine (AC.out _ (by first | exact hR | exact hR.drewN _)).mono ?_; rintro e w1 ⟨rfl, F1, h1, M1⟩; have e2 := h1.c2; have e4 : w1.cell? ⟨cb, 4, none⟩ = some (.int .i64 y) := (by rw [← hy]; exact h1.c4); have M2 : Moved F F1 w w1 := (by first | exact M1 | exact ((Moved.refl F w).drewN _).trans M1)))
  go_wp2_with fail
  go_ret
  exact ⟨rfl, F1, h1.whole, M2⟩
/-- what a number of a play made -/
def OneEnd (F : Nat → Prop) (cb : Nat) (C : Ch) (v : Int) (w : World) (e : Ending) (w' : World) : Prop := ∃ a C' F', e = .returned (.int .i64 a) ∧ Played C v a C' ∧ RCh F' w' cb C' ∧ Moved F F' w w'
set_option maxRecDepth 100000 in
set_option maxHeartbeats 2000000 in
theorem rch_one (F : Nat → Prop) (cb : Nat) (C : Ch) (hC : C.Ok) (i : Nat) (hi : i ≤ 400) (hf : C.Fit i) (v : Int) (hv : v ≤ 9223372036854775807) (w : World) (h : RCh F w cb C) :
    Calls Tryz.prog 32 #[.pointer (some ⟨cb, 0, none⟩), .int .i64 v] w (OneEnd F cb C v w) := by
  by_cases v0 : v < 0
  · go_enter Tryz.func32, Tryz.ntmps32
    go_wp2_with fail
    go_ret
    exact ⟨-1, C, F, rfl, .neg v0, h, Moved.refl _ _⟩
  · have V0 := hide v0
    obtain ⟨q, hq⟩ : ∃ q, v / 8 = q := ⟨_, rfl⟩
    obtain ⟨m, hm⟩ : ∃ m, v % 8 = m := ⟨_, rfl⟩
    obtain ⟨o, ho⟩ : ∃ o, q % 6 = o := ⟨_, rfl⟩
    obtain ⟨b', hb'⟩ : ∃ b', q / 6 = b' := ⟨_, rfl⟩
    obtain ⟨b, hb⟩ : ∃ b, b' % 3 = b := ⟨_, rfl⟩
    obtain ⟨k, hk⟩ : ∃ k, q / 18 = k := ⟨_, rfl⟩
    obtain ⟨n', hn'⟩ : ∃ n', k % 2000 = n' := ⟨_, rfl⟩
    have q0 : 0 ≤ q := by omega
    have q1 : q ≤ 1152921504606846975 := by omega
    have m0 : 0 ≤ m := by omega
    have m8 : m < 8 := by omega
    have o0 : 0 ≤ o := by omega
    have o6 : o < 6 := by omega
    have b0' : 0 ≤ b' := by omega
    have b1' : b' ≤ 1152921504606846975 := by omega
    have b0 : 0 ≤ b := by omega
    have b3 : b < 3 := by omega
    have k0 : 0 ≤ k := by omega
    have k1 : k ≤ 1152921504606846975 := by omega
    have n0 : 0 ≤ n' := by omega
    have n1 : n' < 2000 := by omega
    have EO : Hid (pO v = o) := by unfold Hid pO; rw [hq]; exact ho
    have EB : Hid (pB v = b) := by unfold Hid pB; rw [hq, hb']; exact hb
    have EN : Hid (pN v = n' + 1) := by unfold Hid pN; rw [hq, hk, hn']
    have EQ := hide hq
    have EK := hide hk
    have EM := hide hm
    have e8 : m = 0 ∨ m = 1 ∨ m = 2 ∨ m = 3 ∨ m = 4 ∨ 5 ≤ m := by omega
    rcases e8 with rfl | rfl | rfl | rfl | rfl | m5
    · obtain ⟨pb, sb, kb, hR⟩ := h.parts
      have c0 := hR.c0
      go_enter Tryz.func32, Tryz.ntmps32
      go_wp2_with fail
      refine (rchb_move F cb pb sb kb C hC o b (n' + 1) w hR).mono ?_
      rintro e w1 ⟨rfl, h1, M1⟩
      go_wp2_with fail
      go_ret
      exact ⟨_, _, F, rfl, by rw [← EO.out, ← EB.out, ← EN.out]; exact .pay (by have := V0.out; omega) EM.out, by rw [EO.out, EB.out, EN.out]; exact h1.whole, M1⟩
    · have PC := hide (Played.stake (C := C) (v := v) (by have := V0.out; omega) EM.out)
      unfold Hid at PC
      rw [EO.out, EB.out, EN.out] at PC
      have PD := hide PC
      clear PC
      go_enter Tryz.func32, Tryz.ntmps32
      go_wp2_with fail
      refine (rch_stake F cb C hC o b (n' + 1) w h).mono ?_
      rintro e w1 ⟨rfl, F1, h1, M1⟩
      go_wp2_with fail
      go_ret
      exact ⟨_, _, F1, rfl, PD.out, h1, M1⟩
    · have PC := hide (Played.unstake (C := C) (v := v) (by have := V0.out; omega) EM.out)
      unfold Hid at PC
      rw [EO.out, EB.out, EN.out] at PC
      have PD := hide PC
      clear PC
      obtain ⟨pb, sb, kb, hR⟩ := h.parts
      have c1 := hR.c1
      have c4 := hR.c4
      go_enter Tryz.func32, Tryz.ntmps32
      go_wp2_with fail
      go_region_held3 (fun w' => w'.cell? ⟨cb, 1, none⟩ = some (.pointer (some ⟨sb, 0, none⟩)) ∧ w'.cell? ⟨cb, 4, none⟩ = some (.int .i64 C.cyc)) (exact ⟨by assumption, by assumption⟩)
        (first | (go_at_call 59; refine (rchb_leave F cb pb sb kb C hC (by have := hf.k; omega) o b (n' + 1) _ (by first | exact hR | exact hR.drewN _)).mono ?_; rintro e w1 ⟨rfl, F1, h1, M1⟩; have d1 := h1.c1; have d4 : w1.cell? ⟨cb, 4, none⟩ = some (.int .i64 C.cyc) := h1.c4; have M2 : Moved F F1 w w1 := (by first | exact M1 | exact ((Moved.refl F w).drewN _).trans M1)))
      go_wp2_with fail
      go_ret
      exact ⟨_, _, F1, rfl, PD.out, h1.whole, M2⟩
    · have PC := hide (Played.free (C := C) (v := v) (by have := V0.out; omega) EM.out)
      unfold Hid at PC
      rw [EO.out] at PC
      have PD := hide PC
      clear PC
      go_enter Tryz.func32, Tryz.ntmps32
      go_wp2_with fail
      refine (rch_free F cb C hC (by have := hf.k; omega) (by have := hf.y; have := hf.v; omega) o w h).mono ?_
      rintro e w1 ⟨rfl, F1, h1, M1⟩
      go_wp2_with fail
      go_ret
      exact ⟨_, _, F1, rfl, PD.out, h1, M1⟩
    · obtain ⟨k4, hk4⟩ : ∃ k4, k % 4 = k4 := ⟨_, rfl⟩
      obtain ⟨q72, hq72⟩ : ∃ q72, q / 72 = q72 := ⟨_, rfl⟩
      obtain ⟨e5, he5⟩ : ∃ e5, q72 % 5 = e5 := ⟨_, rfl⟩
      have PC := Played.accuse (C := C) (v := v) (by omega) hm
      have EE : pE C v = (b, (C.cyc : Int) - k4, e5) := by unfold pE; rw [EB.out, EQ.out, EK.out, hk4, hq72, he5]
      rw [EO.out, EE] at PC
      exact (one_accuse F cb C hC i hi hf v q o b' b k n' k4 q72 e5 (by omega) hv hq hm ho hb' hb hk hn' hk4 hq72 he5 w h).mono fun e w' ⟨h1, F1, h2, h3⟩ => ⟨_, _, F1, h1, PC, h2, h3⟩
    · obtain ⟨r, hr⟩ : ∃ r, q % 8 = r := ⟨_, rfl⟩
      have r0 : 0 ≤ r := by omega
      have r8 : r < 8 := by omega
      have t0 : (m == 0) = false := by rw [beq_eq_false_iff_ne]; omega
      have t1 : (m == 1) = false := by rw [beq_eq_false_iff_ne]; omega
      have t2 : (m == 2) = false := by rw [beq_eq_false_iff_ne]; omega
      have t3 : (m == 3) = false := by rw [beq_eq_false_iff_ne]; omega
      have t4 : (m == 4) = false := by rw [beq_eq_false_iff_ne]; omega
      have ER : Hid (pR v = r) := by unfold Hid pR; rw [EQ.out]; exact hr
      have M5 := hide m5
      go_enter Tryz.func32, Tryz.ntmps32
      go_wp2_with fail
      refine (rch_bakeTurn F cb C hC i hi hf r (hf.turn (by omega) r0 r8) w h).mono ?_
      rintro e w1 ⟨x, rfl, hx, F1, h1, M1⟩
      have HX := hide hx
      clear hx
      go_wp2_with fail
      go_ret
      exact ⟨0, _, F1, rfl, .bake (by have := V0.out; omega) (by rw [EM.out]; exact M5.out) x (by rw [ER.out]; exact HX.out), h1, M1⟩
end Go.Proofs.YtnbmelnacopdpaaGreatDoor

namespace Go.Proofs.YtnbmelnacopdpaaGreatDoor
open Go.RowKit

/-- what a script made -/
def RunEnd (F : Nat → Prop) (cb : Nat) (C : Ch) (W : Nat → Int) (n : Nat) (w : World) (e : Ending) (w' : World) : Prop := ∃ v K C' F', e = .returned v ∧ RanTo C W n K C' ∧ RCh F' w' cb C' ∧ Moved F F' w w' ∧ RowV w' v n K ∧ (∀ q, v.ownBlock = some q → w.heap.size ≤ q ∧ ¬ F' q)
set_option maxRecDepth 100000 in
set_option maxHeartbeats 4000000 in
theorem rch_run (F : Nat → Prop) (cb : Nat) (C : Ch) (hC : C.Ok) (j : Nat) (hf : C.Fit j) (a : Option Addr) (n cap : Nat) (hn : j + n ≤ 400) (W : Nat → Int) (w : World) (h : RCh F w cb C) (hA : ∀ i, i < n → ∃ b off, a = some ⟨b, off, none⟩ ∧ b < w.heap.size ∧ ¬ F b ∧ w.cell? ⟨b, off + i, none⟩ = some (.int .i64 (W i)) ∧ W i ≤ 9223372036854775807) :
    Calls Tryz.prog 13 #[.pointer (some ⟨cb, 0, none⟩), .slice a n cap] w (RunEnd F cb C W n w) := by
  go_enter Tryz.func13, Tryz.ntmps13
  go_wp2_with fail
  go_loopw [5, 6] (fun v i wr => ∃ (k : Nat) (K : Nat → Int) (D : Ch) (F' : Nat → Prop), k ≤ n ∧ i = .int .i64 k ∧ RanTo C W k K D ∧ RCh F' wr cb D ∧ Moved F F' w wr ∧ wr.ownsRow w.heap.size 3 1 v k (kRow K k) ∧ ∀ q, v.ownBlock = some q → ¬ F' q) (fun _ i _ => n - (intOf i).toNat)
  case atStart => exact ⟨0, fun _ => 0, C, F, Nat.zero_le _, rfl, rfl, h, Moved.refl _ _, World.ownsRow_nil _ _ _ _, fun q e => by cases e⟩
  case round =>
    obtain ⟨k, K, D, F', hk, rfl, hran, hD, hM, own, hq⟩ := hrel
    obtain ⟨hDo, hDf⟩ := RanTo.ok hC hf k hran
    by_cases hlt : k < n
    · obtain ⟨b, off, rfl, hb, nb, cw, wv⟩ := hA k hlt
      have c0 : wr.cell? ⟨b, off + k, none⟩ = some (.int .i64 (W k)) := hM.cell cw nb
      have k3 : (k : Int) < 3000 := by omega
      obtain ⟨aR, cR, rfl⟩ := row_shape3 own
      have HR := hide hran
      clear hA cw hran
      go_wp2_with fail
      refine (rch_one F' cb D hDo (j + k) (by omega) hDf (W k) wv wr hD).mono ?_
      rintro e w1 ⟨x, D1, F1, rfl, hp, h1, M1⟩
      have own1 := ownsRow_keptP own M1.kept hq
      have q1 : ∀ q, (Value.slice aR k cR).ownBlock = some q → ¬ F1 q := fun q e g => hq q e (M1.old q (own.lt q e).2 g)
      have MM := hM.trans M1
      have HN : Hid (RanTo C W (k + 1) (fun i => if i = k then x else K i) D1) := ⟨D, RanTo.congr k (fun _ _ => rfl) (fun i hi => (if_neg (by omega)).symm) HR.out, by show Played D (W k) (if k = k then x else K k) D1; rw [if_pos rfl]; exact hp⟩
      have sz := MM.kept.size
      obtain ⟨i0, hi, hz0, hz1, hz2⟩ := info_parts Tryz.infoIntR
      have N6 : ∀ j u, [Value.int .i64 x][j]? = some u → (w1.alloc (.cells #[.int .i64 x] 3)).cell? ((⟨w1.heap.size, 0, none⟩ : Addr).add j) = some u := World.news_of_block (heap_alloc_new w1 _)
      have ow : (w1.alloc (.cells #[.int .i64 x] 3)).ownsRow w.heap.size 3 1 (.slice aR k cR) k (kRow K k) := own1.alloc _
      have one : ∀ u ∈ [Value.int .i64 x], u.oneCell' = true := by simp [Value.oneCell']
      have lB : w.heap.size ≤ (w1.alloc (.cells #[.int .i64 x] 3)).heap.size := by simp; omega
      have l63 : k + 1 ≤ maxLen := by simp only [maxLen]; omega
      have l64 : (k + 1) * 8 ≤ 140737488355328 := by omega
      have hB1 : Below w1.heap.size w1 (w1.alloc (.cells #[.int .i64 x] 3)) := (Below.refl _ _).alloc (Nat.le_refl _) _
      have h2 := h1.nextB hB1
      have lt2 := h1.lt
      clear hp own hq hD hM M1 c0 HR hDo hDf
      go_wp2_with (at_builtin; refine wpList_append_lies _ rfl (.tmp 24) (.tmp 26) 23 rfl w.heap.size 3 i0 (.int .i64 0) 1 8 Tryz.underlying23 hi hz0 hz1 hz2 rfl (by decide) _ k (kRow K k) rfl ow ⟨w1.heap.size, 0, none⟩ 1 1 [.int .i64 x] rfl rfl N6 one (by decide) l63 l64 lB _ rfl ?_; intro gN capN w6 hown hgrow hat hltN)
      have KP : KeptP (fun q => (Value.slice aR k cR).ownBlock = some q) (w1.alloc (.cells #[.int .i64 x] 3)) w6 := ⟨hgrow.os, hgrow.tape, hgrow.output, hgrow.size, fun q hq z => hgrow.block q hq fun e => z e.symm⟩
      have h6 : RCh F1 w6 cb D1 := h2.keptP KP (fun q e g => q1 q e g)
      have M6 : Moved F F1 w w6 := ⟨(MM.kept.trans (KeptP.of_below (F := fun _ => False) hB1) fun _ _ g => g.elim).trans KP fun q hq g => absurd (ow.lt q g).1 (Nat.not_le.2 hq), MM.old⟩
      have q6 : ∀ q, (Value.slice (some ⟨gN, 0, none⟩) (k + 1) capN).ownBlock = some q → ¬ F1 q := fun q e g => by
        obtain rfl : gN = q := by simpa [Value.ownBlock] using e
        rcases hat with z | z
        · exact q1 gN z g
        · have := lt2 gN g
          rw [z] at this
          simp at this
          omega
      rw [← kRow_next] at hown
      clear KP hgrow ow N6 own1 q1 h1 h2 MM hB1 hat lt2
      go_roundw
      case rel => exact ⟨k + 1, _, D1, F1, by omega, by go_num, HN.out, h6, M6, hown, q6⟩
      case measure => simp [intOf]; omega
    · obtain rfl : k = n := by omega
      have R := row_reads own
      have Q := fun q e => (⟨(own.lt q e).1, hq q e⟩ : w.heap.size ≤ q ∧ ¬ F' q)
      have k3 : (k : Int) < 3000 := by omega
      clear own hq hA
      go_wp2_with fail
      go_ret
      exact ⟨_, K, D, F', rfl, hran, hD, hM, R, Q⟩
end Go.Proofs.YtnbmelnacopdpaaGreatDoor

namespace Go.Proofs.YtnbmelnacopdpaaGreatDoor
open Go.RowKit

/-- a chain's parts, all new -/
theorem rch_first {B : Nat} {w : World} {cb pb pq sb kb : Nat} {seed : Nat} {G : Nat → Prop} (hG : ∀ k, G k → B ≤ k ∧ k ≠ cb ∧ k ≠ pb ∧ k ≠ pq ∧ k ≠ kb) (n1 : cb ≠ pb) (n2 : cb ≠ pq) (n3 : cb ≠ kb) (n4 : kb ≠ pb) (n5 : kb ≠ pq) (b1 : B ≤ cb) (b2 : B ≤ pb) (b3 : B ≤ pq) (b4 : B ≤ kb)
    (c0 : w.cell? ⟨cb, 0, none⟩ = some (.pointer (some ⟨pb, 0, none⟩))) (c1 : w.cell? ⟨cb, 1, none⟩ = some (.pointer (some ⟨sb, 0, none⟩))) (c2 : w.cell? ⟨cb, 2, none⟩ = some (.pointer (some ⟨kb, 0, none⟩))) (c3 : w.cell? ⟨cb, 3, none⟩ = some (.int .u64 seed))
    (c4 : w.cell? ⟨cb, 4, none⟩ = some (.int .i64 0)) (c5 : w.cell? ⟨cb, 5, none⟩ = some (.int .i64 0)) (c6 : w.cell? ⟨cb, 6, none⟩ = some (.int .i64 0)) (c7 : w.cell? ⟨cb, 7, none⟩ = some (.slice none 0 0)) (f : ∀ i, w.frozen? ⟨cb, i, none⟩ = false)
    (hp : RPu w pb pq none') (hs : RSk G w sb Sk.none) (hc : RCt (fun k => k = kb) w kb ⟨[], 0⟩) : ∃ F, RCh F w cb (ch0 seed) ∧ ∀ k, F k → B ≤ k := by
  have dg : ∀ k, Decidable (G k) := fun k => Classical.propDecidable _
  have t1 : ∀ k, (if k = cb then 1 else if k = pb ∨ k = pq then 2 else if k = kb then 4 else if G k then 3 else 0) = 3 ↔ G k := fun k => by
    constructor
    · intro e
      by_cases h1 : k = cb
      · rw [if_pos h1] at e; omega
      · rw [if_neg h1] at e
        by_cases h2 : k = pb ∨ k = pq
        · rw [if_pos h2] at e; omega
        · rw [if_neg h2] at e
          by_cases h3 : k = kb
          · rw [if_pos h3] at e; omega
          · rw [if_neg h3] at e
            by_cases h4 : G k
            · exact h4
            · rw [if_neg h4] at e; omega
    · intro g
      obtain ⟨_, a, b, c, d⟩ := hG k g
      rw [if_neg a, if_neg (by omega), if_neg d, if_pos g]
  have t4 : ∀ k, (if k = cb then 1 else if k = pb ∨ k = pq then 2 else if k = kb then 4 else if G k then 3 else 0) = 4 ↔ k = kb := fun k => by
    constructor
    · intro e
      by_cases h1 : k = cb
      · rw [if_pos h1] at e; omega
      · rw [if_neg h1] at e
        by_cases h2 : k = pb ∨ k = pq
        · rw [if_pos h2] at e; omega
        · rw [if_neg h2] at e
          by_cases h3 : k = kb
          · exact h3
          · rw [if_neg h3] at e
            split at e <;> omega
    · intro g
      rw [if_neg (by omega), if_neg (by omega), if_pos g]
  have lcb : cb < w.heap.size := cell_lt c0
  have lpb : pb < w.heap.size := cell_lt hp.c0
  have lpq : pq < w.heap.size := cell_lt (hp.s 0 (by omega))
  have lkb : kb < w.heap.size := hc.lt kb rfl
  refine ⟨fun k => (if k = cb then 1 else if k = pb ∨ k = pq then 2 else if k = kb then 4 else if G k then 3 else 0) ≠ 0, ⟨fun k => if k = cb then 1 else if k = pb ∨ k = pq then 2 else if k = kb then 4 else if G k then 3 else 0, pb, pq, sb, kb, .slice none 0 0, [], fun _ => Iff.rfl, ?_⟩, fun k hk => ?_⟩
  · exact { c0 := c0, c1 := c1, c2 := c2, c3 := c3, c4 := c4, c5 := c5, c6 := c6, c7 := c7, f := f, p := hp
            s := by rw [show (fun k => (if k = cb then 1 else if k = pb ∨ k = pq then 2 else if k = kb then 4 else if G k then 3 else 0) = 3) = G from funext fun k => propext (t1 k)]; exact hs
            c := by rw [show (fun k => (if k = cb then 1 else if k = pb ∨ k = pq then 2 else if k = kb then 4 else if G k then 3 else 0) = 4) = (fun k => k = kb) from funext fun k => propext (t4 k)]; exact hc
            own := World.ownsRow_nil _ _ _ _
            pic := fun i m W hm _ => by simp at hm
            tc := if_pos rfl
            tp := by
              show (if pb = cb then 1 else if pb = pb ∨ pb = pq then 2 else if pb = kb then 4 else if G pb then 3 else 0) = 2
              rw [if_neg n1.symm, if_pos (.inl rfl)]
            tq := by
              show (if pq = cb then 1 else if pq = pb ∨ pq = pq then 2 else if pq = kb then 4 else if G pq then 3 else 0) = 2
              rw [if_neg n2.symm, if_pos (.inr rfl)]
            tv := fun q e => by cases e
            tm := fun m hm => by cases hm
            lt := fun k hk => by
              have hk' : (if k = cb then 1 else if k = pb ∨ k = pq then 2 else if k = kb then 4 else if G k then 3 else 0) ≠ 0 := hk
              by_cases h1 : k = cb
              · omega
              · by_cases h2 : k = pb ∨ k = pq
                · omega
                · by_cases h3 : k = kb
                  · omega
                  · by_cases h4 : G k
                    · exact hs.lt k h4
                    · rw [if_neg h1, if_neg h2, if_neg h3, if_neg h4] at hk'; exact absurd rfl hk' }
  · have hk' : (if k = cb then 1 else if k = pb ∨ k = pq then 2 else if k = kb then 4 else if G k then 3 else 0) ≠ 0 := hk
    by_cases h1 : k = cb
    · omega
    · by_cases h2 : k = pb ∨ k = pq
      · omega
      · by_cases h3 : k = kb
        · omega
        · by_cases h4 : G k
          · exact (hG k h4).1
          · rw [if_neg h1, if_neg h2, if_neg h3, if_neg h4] at hk'; exact absurd rfl hk'
theorem RPu.nextB2 {w w' : World} {b q : Nat} {x : Pu} (h : RPu w b q x) (hB : Below w.heap.size w w') : RPu w' b q x :=
  ⟨was_cell hB h.c0, was_cell hB h.c1, fun i hi => was_cell hB (h.s i hi), by rw [hB.frozen (p := ⟨b, 1, none⟩) (cell_lt h.c1)]; exact h.f1, fun i hi => by rw [hB.frozen (p := ⟨q, i, none⟩) (cell_lt (h.s i hi))]; exact h.fs i hi, h.ne⟩
set_option maxRecDepth 100000 in
set_option maxHeartbeats 4000000 in
theorem rch_new (seed : Nat) (w : World) :
    Calls Tryz.prog 12 #[.int .u64 seed] w fun e w' => ∃ cb F, e = .returned (.pointer (some ⟨cb, 0, none⟩)) ∧ RCh F w' cb (chNew seed) ∧ (∀ k, F k → w.heap.size ≤ k) ∧ Below w.heap.size w w' := by
  go_enter Tryz.func12, Tryz.ntmps12
  go_wp2_with fail
  refine (rp_new w).mono ?_
  rintro e w1 ⟨pb, pq, rfl, hpb, hpq, hp1, hB1⟩
  go_wp2_with fail
  refine (rs_new w1).mono ?_
  rintro e w2 ⟨sb, G, rfl, hs2, hG, hsb, hB2⟩
  go_wp2_with fail
  have z1 := hB1.size
  have z2 := hB2.size
  have e1 : (w2.alloc (.cells #[.slice none 0 0, .int .i64 0] 65)).heap.size = w2.heap.size + 1 := by simp
  have A1 : Below w2.heap.size w2 (w2.alloc (.cells #[.slice none 0 0, .int .i64 0] 65)) := (Below.refl _ _).alloc (Nat.le_refl _) _
  have A2 : Below (w2.alloc (.cells #[.slice none 0 0, .int .i64 0] 65)).heap.size (w2.alloc (.cells #[.slice none 0 0, .int .i64 0] 65)) ((w2.alloc (.cells #[.slice none 0 0, .int .i64 0] 65)).alloc (.cells #[.pointer (some ⟨pb, 0, none⟩), .pointer (some ⟨sb, 0, none⟩), .pointer (some ⟨w2.heap.size, 0, none⟩), .int .u64 seed, .int .i64 0, .int .i64 0, .int .i64 0, .slice none 0 0] 43)) := (Below.refl _ _).alloc (Nat.le_refl _) _
  have A3 : Below w2.heap.size w2 ((w2.alloc (.cells #[.slice none 0 0, .int .i64 0] 65)).alloc (.cells #[.pointer (some ⟨pb, 0, none⟩), .pointer (some ⟨sb, 0, none⟩), .pointer (some ⟨w2.heap.size, 0, none⟩), .int .u64 seed, .int .i64 0, .int .i64 0, .int .i64 0, .slice none 0 0] 43)) := A1.trans (A2.mono A1.size)
  have BW : Below w.heap.size w ((w2.alloc (.cells #[.slice none 0 0, .int .i64 0] 65)).alloc (.cells #[.pointer (some ⟨pb, 0, none⟩), .pointer (some ⟨sb, 0, none⟩), .pointer (some ⟨w2.heap.size, 0, none⟩), .int .u64 seed, .int .i64 0, .int .i64 0, .int .i64 0, .slice none 0 0] 43)) := (hB1.trans (hB2.mono z1)).trans (A3.mono (by omega))
  have lp : pb < w1.heap.size := cell_lt hp1.c0
  have lq : pq < w1.heap.size := cell_lt (hp1.s 0 (by omega))
  have hp3 := (hp1.nextB2 hB2).nextB2 A3
  have hs3 := hs2.keptP (KeptP.of_below (F := fun _ => False) A3) (fun _ g => g.elim)
  have k0 : ((w2.alloc (.cells #[.slice none 0 0, .int .i64 0] 65))).cell? ⟨w2.heap.size, 0, none⟩ = some (.slice none 0 0) := cell_new _ _ _ _ _ _ rfl rfl
  have k1 : ((w2.alloc (.cells #[.slice none 0 0, .int .i64 0] 65))).cell? ⟨w2.heap.size, 1, none⟩ = some (.int .i64 0) := cell_new _ _ _ _ _ _ rfl rfl
  have hfst := rch_first (B := w.heap.size) (cb := w2.heap.size + 1) (pb := pb) (pq := pq) (sb := sb) (kb := w2.heap.size) (seed := seed) (G := G) (fun k g => by have := hG k g; have := hs2.lt k g; exact ⟨by omega, by omega, by omega, by omega, by omega⟩) (by omega) (by omega) (by omega) (by omega) (by omega) (by omega) (by omega) (by omega) (by omega)
    (cell_new _ _ _ _ _ _ e1.symm rfl) (cell_new _ _ _ _ _ _ e1.symm rfl) (cell_new _ _ _ _ _ _ e1.symm rfl) (cell_new _ _ _ _ _ _ e1.symm rfl) (cell_new _ _ _ _ _ _ e1.symm rfl) (cell_new _ _ _ _ _ _ e1.symm rfl) (cell_new _ _ _ _ _ _ e1.symm rfl) (cell_new _ _ _ _ _ _ e1.symm rfl) (fun i => World.frozen?_alloc_at _ _ _ _ e1.symm)
    hp3 hs3 ⟨.slice none 0 0, fun k => ⟨.inl, fun z => z.elim (fun e => e) (fun e => by cases e)⟩, was_cell A2 k0, was_cell A2 k1, by rw [A2.frozen (p := ⟨w2.heap.size, 0, none⟩) (by rw [e1]; exact Nat.lt_succ_self _)]; exact World.frozen?_alloc_at _ _ _ _ rfl, by rw [A2.frozen (p := ⟨w2.heap.size, 1, none⟩) (by rw [e1]; exact Nat.lt_succ_self _)]; exact World.frozen?_alloc_at _ _ _ _ rfl, World.ownsRow_nil _ _ _ _, by intro e; cases e⟩
  obtain ⟨F0, hR0, hF0⟩ := hfst
  clear hp3 hs3 k0 k1 lp lq A1 A2 A3 e1 hp1 hs2 hG hsb hpb hpq hB1 hB2 z1 z2
  generalize (w2.alloc (.cells #[.slice none 0 0, .int .i64 0] 65)).alloc (.cells #[.pointer (some ⟨pb, 0, none⟩), .pointer (some ⟨sb, 0, none⟩), .pointer (some ⟨w2.heap.size, 0, none⟩), .int .u64 seed, .int .i64 0, .int .i64 0, .int .i64 0, .slice none 0 0] 43) = w3 at *
  generalize w2.heap.size + 1 = cb at *
  go_loopw [4] (fun i wr => ∃ (j : Nat) (F : Nat → Prop), j ≤ 6 ∧ i = .int .i64 j ∧ RCh F wr cb { ch0 seed with p := mintTo j } ∧ (∀ k, F k → w.heap.size ≤ k) ∧ Below w.heap.size w wr) (fun i _ => 6 - (intOf i).toNat)
  case atStart => exact ⟨0, F0, by omega, rfl, hR0, hF0, BW⟩
  case round =>
    obtain ⟨j, F, hj, rfl, hR, hFB, hB⟩ := hrel
    by_cases hlt : j < 6
    · obtain ⟨tag, pb, pq, sb, kb, v, M, hF, g⟩ := hR
      have c0 := g.c0
      go_wp2_with fail
      refine (rp_mint pb pq (mintTo j) (mintTo_ok j) j 10000 wr g.p).mono ?_
      rintro e w4 ⟨rfl, hp4, hK4⟩
      have g4 := g.purse hp4 hK4
      have M4 := g.movedP hF hK4
      go_wp2_with fail
      go_roundw
      case rel => exact ⟨j + 1, F, by omega, by go_num, ⟨tag, pb, pq, sb, kb, v, M, hF, g4⟩, hFB, hB.trans (M4.kept.below hB.size hFB)⟩
      case measure => simp [intOf]; omega
    · obtain rfl : 6 = j := by omega
      clear hlt hj
      have H1 : Hid (∀ k, F k → w.heap.size ≤ k) := hFB
      go_wp2_with fail
      go_loopw [5] (fun i wr => ∃ (j : Nat) (F : Nat → Prop), j ≤ 3 ∧ i = .int .i64 j ∧ RCh F wr cb { ch0 seed with p := outTo j, s := stkSt j } ∧ Mine w.heap.size w wr F) (fun i _ => 3 - (intOf i).toNat)
      case atStart => exact ⟨0, F, by omega, rfl, hR, ⟨hFB, hB, hB.size⟩⟩
      case round =>
        obtain ⟨j, F2, hj, rfl, hR2, hm⟩ := hrel
        clear hR hB hR0 BW
        by_cases hlt : j < 3
        · obtain ⟨tag, pb, pq, sb, kb, v, M, hF, g⟩ := hR2
          have c0 := g.c0
          have c1 := g.c1
          go_wp2_with fail
          refine (rs_register (fun k => tag k = 3) sb (stkSt j) (stkSt_ok j) j _ g.s).mono ?_
          rintro e w4 ⟨rfl, G4, hs4, M4⟩
          have g4 := g.stakes hs4 M4
          have m4 := hm.next (retag_moved hF M4 (by decide))
          have d0 := g4.c0
          clear g c0 c1 hm
          go_wp2_with fail
          refine (rp_out pb pq (outTo j) (outTo_ok j) j 1000 w4 g4.p).mono ?_
          rintro e w5 ⟨rfl, hp5, hK5⟩
          have g5 := g4.purse hp5 hK5
          have m5 := m4.next (g4.movedP (F := fun k => retag tag 3 G4 k ≠ 0) (fun _ => Iff.rfl) hK5)
          have e1 := g5.c1
          clear g4 d0 m4
          go_wp2_with fail
          refine (rs_join (fun k => retag tag 3 G4 k = 3) sb ((stkSt j).reg j) ((stkSt_ok j).reg j) j j 1000 w5 g5.s).mono ?_
          rintro e w6 ⟨rfl, hs6, M6⟩
          have g6 := g5.stakes0 hs6 M6
          have m6 := m5.next (F' := fun k => retag tag 3 G4 k ≠ 0) ⟨M6.kept.mono (fun k _ e => by rw [e]; decide), fun _ _ g => g⟩
          clear g5 e1 m5
          go_wp2_with fail
          go_roundw
          case rel => exact ⟨j + 1, _, by omega, by go_num, ⟨_, pb, pq, sb, kb, v, M, fun _ => Iff.rfl, g6⟩, m6⟩
          case measure => simp [intOf]; omega
        · obtain rfl : 3 = j := by omega
          clear hlt hj
          obtain ⟨i0, hi, hz0, hz1, hz2⟩ := info_parts Tryz.infoPics
          go_wp2_with fail
          go_loopw [6] (fun i wr => ∃ (j : Nat) (F : Nat → Prop), j ≤ 3 ∧ i = .int .i64 j ∧ RCh F wr cb { chNew seed with pics := List.replicate j stakes0.pic } ∧ Mine w.heap.size w wr F) (fun i _ => 3 - (intOf i).toNat)
          case atStart => exact ⟨0, F2, by omega, rfl, hR2, hm⟩
          case round =>
            obtain ⟨j, F3, hj, rfl, hR3, hm3⟩ := hrel
            clear hR2 hm
            by_cases hlt : j < 3
            · obtain ⟨tag, pb, pq, sb, kb, v, M, hF, g⟩ := hR3
              have c7 := g.c7
              have c1 := g.c1
              have t2 : (j : Int) ≤ 2 := by omega
              have pl : ({ chNew seed with pics := List.replicate j stakes0.pic } : Ch).pics.length = j := List.length_replicate ..
              have l63 : j + 1 ≤ maxLen := by simp only [maxLen]; omega
              have l64 : (j + 1) * 24 ≤ 140737488355328 := by omega
              go_wp2_with fail
              go_region_law (first
                | (refine step_append_lies _ (by rfl) (.tmp 55) (.tmp 61) 41 (by rfl) 0 23 i0 (.slice none 0 0) 1 24 Tryz.underlying41 hi hz0 hz1 hz2 rfl (by decide) v j (mrow M) (by rfl) ow4 ⟨w4.heap.size, 0, none⟩ 1 1 [.slice (some ⟨m, 0, none⟩) 3 mcap] (by rfl) rfl N4 one (by decide) l63 l64 (Nat.zero_le _) (w4.heap.size + 1) (by simp) ?_; intro gN capN w7 hown hgrow hat hltN; obtain ⟨d7, e7⟩ := g4.slot7 hgrow)
                | (go_simp; go_at_call 31; refine (rk_picture (fun k => tag k = 3) sb stakes0 stakes0_ok _ (by first | exact g.s | exact (g.drewN 1).s)).mono ?_; rintro e w4 ⟨m, mcap, rfl, ⟨hm5, hm6⟩, hI, hB4⟩; have B4 : Below wr.heap.size wr w4 := (by first | exact hB4 | exact below_drew_end hB4); have g4 := g.nextB B4; have c74 := g4.c7; have f74 := g4.f 7; have A4 : Below w4.heap.size w4 (w4.alloc (.cells #[.slice (some ⟨m, 0, none⟩) 3 mcap] 23)) := ((Below.refl _ _).alloc (Nat.le_refl _) _); have c75 : (w4.alloc (.cells #[.slice (some ⟨m, 0, none⟩) 3 mcap] 23)).cell? ⟨cb, 7, none⟩ = some v := was_cell A4 c74; have ow4 : (w4.alloc (.cells #[.slice (some ⟨m, 0, none⟩) 3 mcap] 23)).ownsRow 0 23 1 v j (mrow M) := (by have o := g4.own; rw [pl] at o; exact o.alloc _); have N4 : ∀ j u, [Value.slice (some ⟨m, 0, none⟩) 3 mcap][j]? = some u → (w4.alloc (.cells #[.slice (some ⟨m, 0, none⟩) 3 mcap] 23)).cell? ((⟨w4.heap.size, 0, none⟩ : Addr).add j) = some u := World.news_of_block (heap_alloc_new w4 _); have one : ∀ u ∈ [Value.slice (some ⟨m, 0, none⟩) 3 mcap], u.oneCell' = true := (by simp [Value.oneCell'])))
              all_goals
                go_wp2_with fail
                go_roundw
                case rel =>
                  obtain ⟨tag', gF, hold, hK⟩ := g.pictured (m := (m, mcap)) (W := stakes0.pic) (n := j + 1) (cap := capN) (.inl hm5) (B4.trans (A4.mono B4.size)) (fun i hi => was_cell A4 (hI i hi)) (by rw [pl]) hown hgrow (hat.imp (fun e => e) (fun e => by rw [e]; simp)) hltN
                  refine ⟨j + 1, fun k => tag' k ≠ 0, by omega, by go_num, ?_, hm3.next ⟨hK.mono (fun k _ e => (hF k).2 e), fun k hk e => (hF k).2 (hold k hk e)⟩⟩
                  rw [List.replicate_succ']
                  exact ⟨tag', pb, pq, sb, kb, _, _, fun _ => Iff.rfl, gF⟩
                case measure => simp [intOf]; omega
            · obtain rfl : 3 = j := by omega
              have t2 : ¬ ((3 : Nat) : Int) ≤ 2 := by omega
              clear hlt hj
              go_wp2_with fail
              go_ret
              exact ⟨cb, rfl, F3, hR3, hm3.f, hm3.below⟩
end Go.Proofs.YtnbmelnacopdpaaGreatDoor

namespace Go.Proofs.YtnbmelnacopdpaaGreatDoor
open Go.RowKit

set_option maxRecDepth 100000 in
set_option maxHeartbeats 4000000 in
theorem playRuns_walk (seed : Nat) (hs : seed < W64) (a : Option Addr) (n cap : Nat) (W : Nat → Int) (hW : ∀ i, i < n → W i ≤ 9223372036854775807) (A : Nat → Addr) (w : World) (hL : Laid w A) (h200 : n ≤ 200) (hA : RowV w (.slice a n cap) n W) :
    Calls Tryz.prog 4 #[.int .u64 seed, .slice a n cap] w fun e w' => e = .returned (.bool true) ∧ Below w.heap.size w w' := by
  go_enter Tryz.func4, Tryz.ntmps4
  go_wp2_with fail
  refine (played_of A w hL).mono ?_
  rintro e w1 ⟨rfl, hB1⟩
  go_wp2_with fail
  refine (pch_new seed hs A w1 (hL.chP.below hB1)).mono ?_
  rintro e w2 ⟨cb, F2, rfl, h2, hF2, hB2⟩
  go_wp2_with fail
  refine (rch_new seed w2).mono ?_
  rintro e w3 ⟨rb, G3, rfl, k3, hG3, hB3⟩
  have B12 := hB1.trans (hB2.mono hB1.size)
  have W3 : Sides w.heap.size w w3 F2 G3 := ⟨fun k hk hg => by have := h2.lt k hk; have := hG3 k hg; omega, fun k hk => Nat.le_trans hB1.size (hF2 k hk), fun k hk => Nat.le_trans B12.size (hG3 k hk), B12.trans (hB3.mono B12.size), Nat.le_trans B12.size hB3.size⟩
  have h3 := h2.nextB hB3
  have R3 := hA.below W3.below
  clear h2 hF2 hG3 hB1 hB2 hB3 B12
  go_wp2_with fail
  refine (own_of _ n (by omega) W hW w3 R3).mono ?_
  rintro e w4 ⟨u, rfl, hS, hB4⟩
  have S4 := hS F2 h3.lt
  have h4 := h3.nextB hB4
  have k4 := k3.nextB hB4
  have W4 := W3.nextB hB4
  clear h3 k3 W3 hB4 hS R3
  go_wp2_with fail
  refine (pl_run F2 cb (chNew seed) (chNew_ok seed hs) 0 (chNew_fit seed) n (by omega) 10000 (by omega) u W A w hL w4 ⟨W4.f, W4.below, W4.size⟩ h4 S4).mono ?_
  rintro e w5 ⟨v, K, C5, F5, g5, rfl, ran, hg5, h5, M5, own5, q5⟩
  have k5 := k4.keptP M5.kept W4.apart
  have W5 := W4.one k4.lt M5
  have V5 := row_reads own5
  have vG : ∀ q, v.ownBlock = some q → ¬ G3 q := fun q e g => by have := (own5.lt q e).1; have := k4.lt q g; omega
  obtain ⟨ok5, fit5⟩ := RanTo.ok (chNew_ok seed hs) (chNew_fit seed) n ran
  have S5 : ∀ i, i < n → ∃ b off, a = some ⟨b, off, none⟩ ∧ b < w5.heap.size ∧ ¬ G3 b ∧ w5.cell? ⟨b, off + i, none⟩ = some (.int .i64 (W i)) ∧ W i ≤ 9223372036854775807 := fun i hi => by
    obtain ⟨a', c', e', hA⟩ := hA
    cases e'
    obtain ⟨b, off, e, hb, c⟩ := hA i hi
    exact ⟨b, off, e, Nat.lt_of_lt_of_le hb W5.below.size, fun g => by have := W5.g b g; omega, by rw [W5.below.cell (p := ⟨b, off + i, none⟩) hb]; exact c, hW i hi⟩
  clear h4 k4 W4 S4 M5 q5
  go_wp2_with fail
  refine (rch_run G3 rb (chNew seed) (chNew_ok seed hs) 0 (chNew_fit seed) a n cap (by omega) W w5 k5 S5).mono ?_
  rintro e w6 ⟨v', K', C6, G6, rfl, ran', k6, M6, V6, q6⟩
  obtain ⟨rfl, eK⟩ := RanTo.one n ran ran'
  have own6 := ownsRow_keptP own5 M6.kept vG
  have V5' := row_reads own6
  have V6' := V6.congr (fun i hi => (eK i hi).symm)
  have h6 := h5.keptP M6.kept (fun k hg hf => W5.apart k hf hg)
  have W6 := W5.two h5.lt M6
  clear h5 k5 W5 S5 M6 V5 V6 q6 own5 own6 vG ran ran' eK
  go_wp2_with fail
  refine (sameInts_of v v' n (by omega) K w6 V5' V6').mono ?_
  rintro e w7 ⟨rfl, m7, hw⟩
  have B7 : Below w6.heap.size w6 w7 := by rw [hw]; exact below_drewN (Below.refl _ _) m7
  have h7 := h6.nextB B7
  have k7 := k6.nextB B7
  have W7 := W6.nextB B7
  clear hw h6 k6 W6 B7 V5' V6'
  go_wp2_with fail
  refine (asChain_of w F5 G6 cb rb C5 ok5 (by have := fit5.k; omega) (by have := fit5.y; have := fit5.v; omega) g5 w7 h7 k7 W7).mono ?_
  rintro e w8 ⟨rfl, h8, k8, W8⟩
  clear h7 k7 W7
  go_wp2_with fail
  refine (pl_add F5 cb C5 ok5 (by have := fit5.k; omega) g5 w8 h8).mono ?_
  rintro e w9 ⟨rfl, hB9⟩
  have k9 := k8.nextB hB9
  have W9 := W8.nextB hB9
  clear h8 k8 W8 hB9
  have hB10 : Below w9.heap.size w9 (w9.alloc (.cells #[.int .i64 C5.p.sum, .int .i64 C5.s.total, .int .i64 C5.p.S] 30)) := (Below.refl _ _).alloc (Nat.le_refl _) _
  have k10 := k9.nextB hB10
  have W10 := W9.nextB hB10
  have s0 : (w9.alloc (.cells #[.int .i64 C5.p.sum, .int .i64 C5.s.total, .int .i64 C5.p.S] 30)).cell? ⟨w9.heap.size, 0, none⟩ = some (.int .i64 C5.p.sum) := by simp
  have s1 : (w9.alloc (.cells #[.int .i64 C5.p.sum, .int .i64 C5.s.total, .int .i64 C5.p.S] 30)).cell? ⟨w9.heap.size, 1, none⟩ = some (.int .i64 C5.s.total) := by simp
  have s2 : (w9.alloc (.cells #[.int .i64 C5.p.sum, .int .i64 C5.s.total, .int .i64 C5.p.S] 30)).cell? ⟨w9.heap.size, 2, none⟩ = some (.int .i64 C5.p.S) := by simp
  clear k9 W9 hB10
  go_wp2_with fail
  generalize w9.alloc (.cells #[.int .i64 C5.p.sum, .int .i64 C5.s.total, .int .i64 C5.p.S] 30) = wz at *
  generalize w9.heap.size = na at *
  obtain ⟨pb, sb, kb, zR⟩ := k10.parts
  obtain ⟨pq, hp⟩ := zR.pur
  have c0 := zR.c0
  have c1 := zR.c1
  have p1 : wz.cell? ⟨pb, 1, none⟩ = some (.int .i64 C5.p.S) := hp.c1
  have d0 : (C5.p.sum == C5.p.sum) = true := by simp
  have d1 : (C5.s.total == C5.s.total) = true := by simp
  have d2 : (C5.p.S == C5.p.S) = true := by simp
  have B0 : Below wz.heap.size wz wz := Below.refl _ _
  go_region_held3 (fun w' => w'.cell? ⟨na, 0, none⟩ = some (.int .i64 C5.p.sum) ∧ w'.cell? ⟨na, 1, none⟩ = some (.int .i64 C5.s.total) ∧ w'.cell? ⟨na, 2, none⟩ = some (.int .i64 C5.p.S) ∧ w'.cell? ⟨rb, 0, none⟩ = some (.pointer (some ⟨pb, 0, none⟩)) ∧ w'.cell? ⟨rb, 1, none⟩ = some (.pointer (some ⟨sb, 0, none⟩)) ∧ w'.cell? ⟨pb, 1, none⟩ = some (.int .i64 C5.p.S)) (exact ⟨by assumption, by assumption, by assumption, by assumption, by assumption, by assumption⟩)
    (first
      | (go_at_call 15; refine (rp_sum pb pq C5.p ok5.p _ (by first | exact hp | exact hp.drewN _)).mono ?_; rintro e w11 ⟨rfl, hw11⟩; have B11 : Below wz.heap.size wz w11 := (by rw [hw11]; first | exact B0 | exact below_drewN B0 _); have t0 := stk_old B11 s0; have t1 := stk_old B11 s1; have t2 := stk_old B11 s2; have t3 := stk_old B11 c0; have t4 := stk_old B11 c1; have t5 := stk_old B11 p1; clear hw11)
      | (go_at_call 16; obtain ⟨Gs, hGs, _⟩ := (zR.nextB B11).stk; refine (rsk_total Gs sb C5.s ok5.s (by have := fit5.k; omega) _ (by first | exact hGs | exact hGs.drewN _)).mono ?_; rintro e w12 ⟨rfl, hw12⟩; have B12 : Below wz.heap.size wz w12 := (by rw [hw12]; first | exact B11 | exact below_drewN B11 _); have v0 := stk_old B12 s0; have v1 := stk_old B12 s1; have v2 := stk_old B12 s2; have v3 := stk_old B12 c0; have v4 := stk_old B12 c1; have v5 := stk_old B12 p1; clear hw12))
  have hB := (W10.nextB B12).below
  go_wp2_with fail
  go_ret
  exact ⟨rfl, hB⟩
set_option maxRecDepth 100000 in
theorem playRuns_many (seed : Nat) (a : Option Addr) (n cap : Nat) (h : 200 < n) (hm : n ≤ 9223372036854775807) (A : Nat → Addr) (w : World) (hL : Laid w A) :
    Calls Tryz.prog 4 #[.int .u64 seed, .slice a n cap] w fun e w' => e = .returned (.bool true) ∧ Below w.heap.size w w' := by
  go_enter Tryz.func4, Tryz.ntmps4
  go_wp2_with fail
  refine (played_of A w hL).mono ?_
  rintro e w1 ⟨rfl, hB1⟩
  go_wp2
  go_ret
  exact ⟨rfl, hB1⟩
end Go.Proofs.YtnbmelnacopdpaaGreatDoor
