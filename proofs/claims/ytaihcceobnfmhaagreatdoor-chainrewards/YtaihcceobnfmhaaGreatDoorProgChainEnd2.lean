/-
  The program's chain by its contracts: a cycle's end.
-/
import Derived.Test.YtaihcceobnfmhaaGreatDoorProgChainTakeX
namespace Go.Proofs.YtaihcceobnfmhaaGreatDoor
open Go.RowKit

set_option maxRecDepth 100000 in
set_option maxHeartbeats 4000000 in
theorem pcb_end {sb : Nat} (F : Nat → Prop) (cb : Nat) (C : Ch) (hC : C.Ok) (hk : C.s.K.length ≤ 400) (hl : C.c.L.length ≤ 400) (hy : C.cyc ≤ 400) (g : Nat) (hg : g ≤ 851000) (A : Nat → Addr) (w : World) (hL : ChLaid8 w A) (h : PCb sb F w cb C g) :
    Calls Tryz.prog 48 #[.pointer (some ⟨cb, 0, none⟩)] w fun e w' => ∃ F', e = .returned (.tuple #[]) ∧ PCb sb F' w' cb C.ended (g + 1800) ∧ Moved F F' w w' := by
  obtain ⟨tag, pb, kb, xs, hf, h⟩ := h
  have c2 := h.c2
  have D := pc_due (fun k => tag k = 4) kb C.c hC.c (by omega) g w h.c
  have dl : C.c.due.length ≤ 400 := by unfold Ct.due; rw [List.length_drop]; omega
  have wfs := h.c.wfs
  go_enter Tryz.func48, Tryz.ntmps48
  go_wp2_with fail
  refine D.mono ?_
  rintro e w1 ⟨d, q, G, rfl, hC1, hq, hP1, hM1⟩
  have g1 := h.court hP1 hM1 (Nat.le_refl _)
  have M1 := retag_moved hf hM1 (by decide)
  have L1 := h.laid hL hf M1.kept
  have nq : 0 < C.c.due.length → ¬ (retag tag 4 G q ≠ 0) ∧ q < w1.heap.size := fun z => by
    obtain ⟨z1, z2⟩ := hq z
    obtain ⟨a, off, cap, e, _, _, l3, l4⟩ := hC1
    have hlt : q < w1.heap.size := cell_lt (l4 0 (C.c.due[0]'z) (List.getElem?_eq_getElem z)).1
    refine ⟨fun y => ?_, hlt⟩
    unfold retag at y
    rw [if_neg z1] at y
    split at y
    · exact y rfl
    · rename_i n4
      rcases z2 with z2 | z2
      · exact n4 z2
      · have := h.lt q y; omega
  generalize hO : (fun k => retag tag 4 G k ≠ 0) = O1 at *
  have hP : PCb sb O1 w1 cb { C with c := C.c.asked } g := ⟨_, pb, kb, xs, fun k => by rw [← hO], g1⟩
  have nq : 0 < C.c.due.length → ¬ O1 q ∧ q < w1.heap.size := fun z => by rw [← hO]; exact nq z
  have OV : Hid (∀ k, O1 k → ¬ IsVar k) := fun k => by rw [← hO]; exact g1.vs k
  obtain ⟨a, off, cap, rfl, l1, l2, l3, l4⟩ := hC1
  have WFS := hide wfs
  have NQ := hide nq
  clear hP1 hM1 c2 D hq h g1 hO wfs nq
  go_wp2_with fail
  go_loopw [10] (fun i wr => ∃ j : Nat, j ≤ C.c.due.length ∧ i = .int .i64 j ∧ ∃ F1, PCb sb F1 wr cb (Ch.judge { C with c := C.c.asked } (C.c.due.take j)) (g + 4 * j) ∧ Moved O1 F1 w1 wr) (fun i _ => C.c.due.length - (intOf i).toNat)
  case atStart => exact ⟨0, by omega, rfl, O1, hP, Moved.refl _ _⟩
  case round =>
    obtain ⟨j, hj, rfl, F1, gr, Mr⟩ := hrel
    by_cases hlt : j < C.c.due.length
    · obtain ⟨t, ht⟩ : ∃ t, C.c.due[j]? = some t := ⟨_, List.getElem?_eq_getElem hlt⟩
      obtain rfl := l3 (by omega)
      obtain ⟨nqo, nqs⟩ := NQ.out (by omega)
      obtain ⟨r0, r1, r2, r3⟩ := l4 j t ht
      have s0 := Mr.kept.old r0 nqo
      have s1 := Mr.kept.old r1 nqo
      have s2 := Mr.kept.old r2 nqo
      have s3 := Mr.kept.old r3 nqo
      have TS := hide (take_snoc ht)
      have JE := hide (Ch.judge_snoc { C with c := C.c.asked } (C.c.due.take j) t)
      have hO := hC.due_own t (List.mem_of_getElem? ht)
      have tL : t ∈ C.c.L := List.mem_of_mem_drop (List.mem_of_getElem? ht)
      have hBk : Bk t.2.1 := (hC.cas t tL).2
      have ew := WFS.out t tL
      have oj := (Ch.Ok.judge (C.c.due.take j) hC.asked (fun u hu => hC.due_own u (List.mem_of_mem_take hu))).1
      have kj := (Ch.judge_K (C.c.due.take j) { C with c := C.c.asked })
      have Lr := L1.keptP Mr.kept OV.out
      clear r0 r1 r2 r3 l4 l3 hP
      generalize Ch.judge { C with c := C.c.asked } (C.c.due.take j) = E at *
      have kl : E.s.K.length ≤ 900 := by rw [kj]; exact Nat.le_trans hk (by omega)
      have jlt : (j : Int) < (C.c.due.length : Int) := by omega
      clear kj
      obtain ⟨o, b, y, m⟩ := t
      have BA : Below wr.heap.size wr (wr.alloc (.cells #[.int .i64 o, .int .i64 b, .int .i64 y, .int .i64 m] 145)) := (Below.refl _ _).alloc (Nat.le_refl _) _
      have BD : Below wr.heap.size wr (wr.alloc (.cells #[.int .i64 o, .int .i64 b, .int .i64 y, .int .i64 m] 145)).drew := below_drewN BA 1
      obtain ⟨tg, pb, kb, xs, hf, gE⟩ := gr
      have ga := gE.below BA
      have gd := gE.below BD
      have a0 := ga.c0
      have a1 := ga.c1
      have k0 : (wr.alloc (.cells #[.int .i64 o, .int .i64 b, .int .i64 y, .int .i64 m] 145)).cell? ⟨wr.heap.size, 0, none⟩ = some (.int .i64 o) := by simp
      have k1 : (wr.alloc (.cells #[.int .i64 o, .int .i64 b, .int .i64 y, .int .i64 m] 145)).cell? ⟨wr.heap.size, 1, none⟩ = some (.int .i64 b) := by simp
      have k2 : (wr.alloc (.cells #[.int .i64 o, .int .i64 b, .int .i64 y, .int .i64 m] 145)).cell? ⟨wr.heap.size, 2, none⟩ = some (.int .i64 y) := by simp
      have k3 : (wr.alloc (.cells #[.int .i64 o, .int .i64 b, .int .i64 y, .int .i64 m] 145)).cell? ⟨wr.heap.size, 3, none⟩ = some (.int .i64 m) := by simp
      have nt1 : ¬ bksOwn pb (fun k => tg k = 3) cb := fun q => by rcases gE.own cb q with e | e <;> (rw [gE.tc] at e; cases e)
      have nt2 : ¬ bksOwn pb (fun k => tg k = 3) wr.heap.size := fun q => by have := gE.bks.lt _ q; omega
      have JU := bks_judge _ pb sb E oj kl (g + 4 * j) (by omega) (o, b, y, m) hO hBk ew.y ew.m A _ (Lr.below BD) gd.bks
      have GD := hide gd
      have BH := hide BD
      clear oj gE ga gd BA BD
      go_wp2_with fail
      generalize hn : wr.heap.size = nb at *
      generalize wr.alloc (.cells #[.int .i64 o, .int .i64 b, .int .i64 y, .int .i64 m] 145) = wa at *
      go_region_held3 (fun w' => w'.cell? ⟨cb, 0, none⟩ = some (.pointer (some ⟨pb, 0, none⟩)) ∧ w'.cell? ⟨cb, 1, none⟩ = some (.pointer (some ⟨sb, 0, none⟩)) ∧ w'.cell? ⟨nb, 0, none⟩ = some (.int .i64 o) ∧ w'.cell? ⟨nb, 1, none⟩ = some (.int .i64 b) ∧ w'.cell? ⟨nb, 2, none⟩ = some (.int .i64 y) ∧ w'.cell? ⟨nb, 3, none⟩ = some (.int .i64 m)) (exact ⟨by assumption, by assumption, by assumption, by assumption, by assumption, by assumption⟩)
        (first
          | (go_at_call 107; refine JU.mono ?_; rintro e w2 ⟨G2, rfl, gj, Mj⟩; have d0 : w2.cell? ⟨cb, 0, none⟩ = some (.pointer (some ⟨pb, 0, none⟩)) := Mj.kept.old a0 nt1; have d1 : w2.cell? ⟨cb, 1, none⟩ = some (.pointer (some ⟨sb, 0, none⟩)) := Mj.kept.old a1 nt1; have q0 : w2.cell? ⟨nb, 0, none⟩ = some (.int .i64 o) := Mj.kept.old k0 nt2; have q1 : w2.cell? ⟨nb, 1, none⟩ = some (.int .i64 b) := Mj.kept.old k1 nt2; have q2 : w2.cell? ⟨nb, 2, none⟩ = some (.int .i64 y) := Mj.kept.old k2 nt2; have q3 : w2.cell? ⟨nb, 3, none⟩ = some (.int .i64 m) := Mj.kept.old k3 nt2))
      obtain ⟨F2, h2, M2'⟩ := GD.out.bk hf gj Mj (by omega) rfl
      have M2 : Moved O1 F2 w1 w2 := Mr.trans ⟨(KeptP.of_below (F := F1) (hn ▸ BH.out)).trans M2'.kept fun _ _ z => z, fun k hk z => M2'.old k (Nat.lt_of_lt_of_le hk (hn ▸ BH.out.size)) z⟩
      have GJ := hide h2
      clear JU gj Mj GD BH s0 s1 s2 s3 h2 M2' a0 a1 k0 k1 k2 k3 d0 d1 q0 q1 q2 q3
      go_wp2_with fail
      go_roundw
      case rel =>
        refine ⟨j + 1, by omega, by go_num, F2, ?_, M2⟩
        rw [TS.out, JE.out]
        exact GJ.out
      case measure => simp [intOf]; omega
    · obtain rfl : j = C.c.due.length := by omega
      rw [List.take_length] at gr
      have oj := (Ch.Ok.judge C.c.due hC.asked (fun u hu => hC.due_own u hu)).1
      have js := hide (Ch.judge_same C.c.due { C with c := C.c.asked })
      have ED : Hid (C.ended = Ch.turned (Ch.judge { C with c := C.c.asked } C.c.due)) := rfl
      have Lr := L1.keptP Mr.kept OV.out
      have MM := M1.trans Mr
      clear l4 l3 hP hlt hj L1 Mr M1
      generalize Ch.judge { C with c := C.c.asked } C.c.due = E at *
      generalize hn : C.c.due.length = n at *
      obtain ⟨tg, pb, kb, xs, hf, gE⟩ := gr
      have BN := hide (show bonusN E.bon E.ratio = bonusV E.bon E.ratio from if_pos oj.rateOk)
      have c0 := gE.c0
      have c1 := gE.c1
      have c6 := gE.c6
      have f6 := gE.f 6
      go_upto_region 5 with fail
      go_cut [21] (fun _ wx => PChAt tg wx cb pb sb kb xs { E with bon := bonusV E.bon E.ratio } (g + 4 * n) ∧ KeptP F1 wr wx)
      case first =>
        go_region_with (first
          | (go_at_call 102; refine (bks_ratio _ pb sb E oj (g + 4 * n) A _ (by first | exact Lr | exact Lr.below (below_drewN (Below.refl _ _) 1)) (by first | exact gE.bks | exact gE.bks.drewN 1)).mono ?_; rintro e w2 ⟨rfl, hB2⟩; have B2 : Below wr.heap.size wr w2 := (by first | exact hB2 | exact drew_below hB2); have g2 := gE.below B2; have L2 := Lr.below B2; have d0 := g2.c0; have d1 := g2.c1; have d6 := g2.c6; have e6 := g2.f 6)
          | (go_at_call 108; refine (is_bonus E.bon E.ratio A _ (by first | exact L2.iss | exact (L2.below (below_drewN (Below.refl _ _) 1)).iss)).mono ?_; rintro e w3 ⟨ev3, rfl, _, hB3⟩; rw [BN.out]; have B3 : Below wr.heap.size wr w3 := (by first | exact B2.trans (hB3.mono B2.size) | exact B2.trans ((drew_below hB3).mono B2.size)); have g3 := gE.below B3; have z0 := g3.c0; have z1 := g3.c1; have z6 := g3.c6; have y6 := g3.f 6))
        all_goals
          go_wp2_with fail
          go_meet
        all_goals exact ⟨g3.num E.cyc E.lev (bonusV E.bon E.ratio) E.pics rfl 6 (bonusV E.bon E.ratio) (.inr (.inr ⟨rfl, rfl, rfl, rfl⟩)), (KeptP.of_below (F := F1) B3).setCell (p := ⟨cb, 6, none⟩) ((hf cb).2 (by rw [g3.tc]; decide)) _⟩
      case rest =>
        obtain ⟨g3, K3⟩ := hcut
        clear gE c0 c1 c6 f6
        have c4 := g3.c4
        have f4 := g3.f 4
        have cy9 : E.cyc ≤ 400 := by rw [js.out.2.2.1]; exact hy
        have cy9' : (E.cyc : Int) ≤ 400 := by omega
        have Lc := Lr.keptP K3 fun k z => g3.vs k ((hf k).1 z)
        have g4 := g3.num (E.cyc + 1) E.lev (bonusV E.bon E.ratio) ((fun _ => 0) :: E.pics) rfl 4 ((E.cyc : Int) + 1) (.inl ⟨rfl, by simp, rfl, rfl⟩)
        have K4 := K3.setCell (p := ⟨cb, 4, none⟩) ((hf cb).2 (by rw [g3.tc]; decide)) (.int .i64 ((E.cyc : Int) + 1))
        have tcb := g3.tc
        have G4 := hide g4
        have K4H := hide K4
        clear g3 K3 g4 K4
        have hlen := oj.len
        have hW : (E.pics.drop E.cyc)[2]? = some (E.pics.getD (E.pics.length - 1) (fun _ => 0)) := by
          rw [List.getElem?_drop, List.getD_eq_getElem?_getD, show E.pics.length - 1 = E.cyc + 2 by omega, List.getElem?_eq_getElem (by omega)]
          rfl
        have hps : ∀ i, i < 3 → ((E.pics ++ [E.nextPic]).drop (E.cyc + 1))[i]? = if i = 2 then some (nextOf E.s (E.pics.getD (E.pics.length - 1) (fun _ => 0))) else (((fun _ => 0) :: E.pics).drop (E.cyc + 1))[i + 1]? := fun i hi => by
          show _ = if i = 2 then some E.nextPic else (E.pics.drop E.cyc)[i + 1]?
          rw [List.getElem?_drop]
          by_cases e2 : i = 2
          · rw [if_pos e2, List.getElem?_append_right (by omega), show E.cyc + 1 + i - E.pics.length = 0 by omega]
            rfl
          · rw [if_neg e2, List.getElem?_append_left (by omega), List.getElem?_drop, show E.cyc + 1 + i = E.cyc + (i + 1) by omega]
        go_wp2_with fail
        have K4 := K4H.out
        refine (pcb_take tg cb pb sb kb xs { E with cyc := E.cyc + 1, bon := bonusV E.bon E.ratio, pics := (fun _ => 0) :: E.pics } oj.s _ hW (E.pics ++ [E.nextPic]) hps (g + 4 * n) _ G4.out).mono ?_
        rintro e w5 ⟨tg', xs', rfl, gF, hold, hK⟩
        go_wp2_with fail
        go_end0
        refine ⟨fun k => tg' k ≠ 0, rfl, ?_, ?_⟩
        · rw [ED.out]
          exact ⟨tg', pb, kb, xs', fun _ => Iff.rfl, gF.more (by omega)⟩
        · refine MM.trans ⟨K4.trans hK fun k _ z => (hf k).2 z, fun k hk z => (hf k).2 (hold k (by have := K4.size; omega) z)⟩
end Go.Proofs.YtaihcceobnfmhaaGreatDoor
