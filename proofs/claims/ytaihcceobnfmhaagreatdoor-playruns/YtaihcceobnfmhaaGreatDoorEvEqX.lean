/-
  The document's rate (bakehouseref2.RateOf), by its contract.
  The document's chain by its contracts: a block.
  The document's chain in memory: a picture more.
  Two pieces of evidence, held against each other.
-/
import Derived.Test.YtaihcceobnfmhaaGreatDoorBend4X
import Derived.Test.YtaihcceobnfmhaaGreatDoorBendOf
import Derived.Test.YtaihcceobnfmhaaGreatDoorProgPurseX
import Derived.Test.YtaihcceobnfmhaaGreatDoorRefChTurn
import Derived.Deep.CutRange
import Derived.Test.YtaihcceobnfmhaaGreatDoorRefStkSumsX
import Derived.Test.YtaihcceobnfmhaaGreatDoorAidX
import Derived.Laws.StructEq
namespace Go.Proofs.YtaihcceobnfmhaaGreatDoor
open Go.RowKit

theorem ref_bend4 (r : Int) (h0 : 0 ≤ r) (h1 : r ≤ 1000000) (w : World) (t : TypeId) :
    Calls Tryz.prog 174 #[.slice (some ⟨w.heap.size, 0, none⟩) 4 4, .int .i64 r] (w.alloc (.cells four4 t)) fun e w' => e = .returned (.int .i64 (bendR r)) ∧ Below w.heap.size w w' := by
  have B0 : Below w.heap.size w (w.alloc (.cells four4 t)) := (Below.refl _ _).alloc (Nat.le_refl _) _
  rcases at4 h0 h1 with ⟨hx, e⟩ | ⟨i, hi, hx, hx1, e⟩
  · rw [← e]
    exact (bendOf_last w.heap.size 0 4 4 X4 Y4 r _ (by omega) (by omega) (pts4 w t) hx).mono fun e w' ⟨a, b⟩ => ⟨a, B0.trans (b.mono B0.size)⟩
  · rw [← e]
    exact (bendOf_mid w.heap.size 0 4 4 i X4 Y4 r _ (by simp) (by omega) (pts4 w t) good4 hi hx hx1).mono fun e w' ⟨a, b⟩ => ⟨a, B0.trans (b.mono B0.size)⟩
theorem ref_rate (r b : Int) (h : RateOk r b) (w : World) :
    Calls Tryz.prog 132 #[.int .i64 r, .int .i64 b] w fun e w' => e = .returned (.int .i64 (bendR r + b)) ∧ Below w.heap.size w w' := by
  obtain ⟨⟨r0, r1⟩, b0, b1⟩ := h
  have P := ref_bend4 r r0 r1 w 168
  obtain ⟨c0, c1⟩ := bendR_bd r0 r1
  generalize bendR r = q at *
  go_enter Tryz.func132, Tryz.ntmps132
  go_wp2_with (go_at_call 174; refine P.mono ?_; rintro e w1 ⟨rfl, hB⟩)
  go_ret
  exact ⟨rfl, hB⟩
end Go.Proofs.YtaihcceobnfmhaaGreatDoor

namespace Go.Proofs.YtaihcceobnfmhaaGreatDoor
open Go.RowKit

theorem Ch.Ok.rew_is {C : Ch} (h : C.Ok) : rewardN C.p.S (bendR C.ratio + C.bon) = C.rew := by
  unfold Ch.rew Ch.rate rateN
  rw [if_pos h.rateOk]
set_option maxRecDepth 100000 in
set_option maxHeartbeats 1000000 in
theorem rch_bake_other (F : Nat → Prop) (cb : Nat) (C : Ch) (hC : C.Ok) (b r : Int) (hr : TurnOk C.cyc C.lev r) (w : World) (h : RCh F w cb C) (T : ∀ k, Turn 3 C.pic C.seed C.cyc C.lev r k → k ≠ b) :
    Calls Tryz.prog 77 #[.pointer (some ⟨cb, 0, none⟩), .int .i64 b, .int .i64 r] w fun e w' => e = .returned (.tuple #[.int .i64 0, .int .i64 9]) ∧ RCh F w' cb C ∧ Below w.heap.size w w' := by
  go_enter Tryz.func77, Tryz.ntmps77
  go_wp2_with fail
  refine (rch_turn F cb C hC r hr w h).mono ?_
  rintro e w1 ⟨k, rfl, hk, hB1⟩
  have ne : (k != b) = true := by rw [bne_iff_ne]; exact T k hk
  have h1 := h.nextB hB1
  have HK := hide hk
  clear hk h T
  go_wp2_with fail
  go_ret2
  refine ⟨rfl, ?_, ?_⟩
  · exact h1.nextB (((Below.refl _ w1).alloc (Nat.le_refl _) _))
  · exact hB1.trans (((Below.refl _ w1).alloc (Nat.le_refl _) _).mono hB1.size)
set_option maxRecDepth 100000 in
set_option maxHeartbeats 1000000 in
theorem rch_bake_bad (F : Nat → Prop) (cb : Nat) (C : Ch) (hC : C.Ok) (b r : Int) (hr : ¬ TurnOk C.cyc C.lev r) (w : World) (h : RCh F w cb C) :
    Calls Tryz.prog 77 #[.pointer (some ⟨cb, 0, none⟩), .int .i64 b, .int .i64 r] w fun e w' => e = .returned (.tuple #[.int .i64 0, .int .i64 2]) ∧ RCh F w' cb C ∧ Below w.heap.size w w' := by
  go_enter Tryz.func77, Tryz.ntmps77
  go_wp2_with fail
  refine (rch_turn_bad F cb C hC r hr w h).mono ?_
  rintro e w1 ⟨rfl, hB1⟩
  have h1 := h.nextB hB1
  clear h
  go_wp2_with fail
  have hB2 : Below w1.heap.size w1 (w1.alloc (.cells #[.int .i64 2, .int .i64 (-1)] 114)) := (Below.refl _ _).alloc (Nat.le_refl _) _
  have h2 := h1.nextB hB2
  have L2 : Below w.heap.size w (w1.alloc (.cells #[.int .i64 2, .int .i64 (-1)] 114)) := hB1.trans (hB2.mono hB1.size)
  have q0 : (w1.alloc (.cells #[.int .i64 2, .int .i64 (-1)] 114)).cell? ⟨w1.heap.size, 0, none⟩ = some (.int .i64 2) := by simp
  clear hB2 h1 hB1
  generalize w1.alloc (.cells #[.int .i64 2, .int .i64 (-1)] 114) = w2 at *
  generalize w1.heap.size = n1 at *
  go_quiet (fail)
  go_wp2_with fail
  go_ret2
  exact ⟨rfl, h2.drewN _, below_drewN L2 _⟩
theorem St.addC_nn (x : St) (n : Int) : 0 ≤ x.addC n := by unfold St.addC; repeat' split <;> omega
theorem Sk.addC_nn (S : Sk) (b n : Int) : 0 ≤ S.addC b n := by
  unfold Sk.addC
  split
  · exact St.addC_nn _ _
  · omega
/-- what is asked of a cycle's end -/
def EndsAs (cb : Nat) (C : Ch) : Prop := ∀ (F : Nat → Prop) (w : World), RCh F w cb C → Calls Tryz.prog 136 #[.pointer (some ⟨cb, 0, none⟩)] w fun e w' => e = .returned (.tuple #[]) ∧ ∃ F', RCh F' w' cb C.ended ∧ Moved F F' w w'

set_option maxRecDepth 100000 in
set_option maxHeartbeats 2000000 in
theorem rch_bake_own (F : Nat → Prop) (cb : Nat) (C : Ch) (hC : C.Ok) (hv : C.lev ≤ 900) (b r : Int) (hr : TurnOk C.cyc C.lev r) (w : World) (h : RCh F w cb C) (T : ∀ k, Turn 3 C.pic C.seed C.cyc C.lev r k → k = b) (EN : EndsAs cb { C.paid b with lev := C.lev + 1 }) :
    Calls Tryz.prog 77 #[.pointer (some ⟨cb, 0, none⟩), .int .i64 b, .int .i64 r] w fun e w' => e = .returned (.tuple #[.int .i64 (C.bakeN b), .int .i64 0]) ∧ ∃ F', RCh F' w' cb (C.bake b) ∧ Moved F F' w w' := by
  have rb := hC.rew_bd
  have top := hC.p.top
  have pos := hC.pos
  obtain ⟨rb0, rb1⟩ := rb
  have RI := hide hC.rew_is
  have PS := hide (C.paid_same b)
  go_enter Tryz.func77, Tryz.ntmps77
  go_wp2_with fail
  refine (rch_turn F cb C hC r hr w h).mono ?_
  rintro e w1 ⟨k, rfl, hk, hB1⟩
  obtain rfl : k = b := T k hk
  have ne : (k != k) = false := by simp
  have h1 := h.nextB hB1
  clear hk h T
  go_wp2_with fail
  have hB2 : Below w1.heap.size w1 (w1.alloc (.cells #[.int .i64 0, .int .i64 (-1)] 114)) := (Below.refl _ _).alloc (Nat.le_refl _) _
  have h2 := h1.nextB hB2
  have L2 : Below w.heap.size w (w1.alloc (.cells #[.int .i64 0, .int .i64 (-1)] 114)) := hB1.trans (hB2.mono hB1.size)
  clear hB2 h1 hB1
  generalize w1.alloc (.cells #[.int .i64 0, .int .i64 (-1)] 114) = w2 at *
  generalize w1.heap.size = n1 at *
  have hh := h2
  obtain ⟨tag, pb, pq, sb, kb, v, M, hF, g2⟩ := hh
  have c0 := g2.c0
  have p1 := g2.p.c1
  have c6 := g2.c6
  clear g2
  go_region_held3 (fun w' => w'.cell? ⟨cb, 0, none⟩ = some (.pointer (some ⟨pb, 0, none⟩)) ∧ w'.cell? ⟨pb, 1, none⟩ = some (.int .i64 C.p.S) ∧ w'.cell? ⟨cb, 6, none⟩ = some (.int .i64 C.bon)) (exact ⟨by assumption, by assumption, by assumption⟩)
    (first
      | (go_at_call 133; refine (rch_ratio F cb C hC _ (by first | exact h2 | exact h2.drewN _)).mono ?_; rintro e w3 ⟨rfl, hB3⟩; have d0 := was_cell hB3 c0; have d1 := was_cell hB3 p1; have d6 := was_cell hB3 c6; have h3 : RCh F w3 cb C := (by first | exact h2.nextB hB3 | exact (h2.drewN _).nextB hB3); have L3 : Below w.heap.size w w3 := (by first | exact L2.trans (hB3.mono L2.size) | exact (below_drewN L2 _).trans (hB3.mono L2.size)))
      | (go_at_call 132; refine (ref_rate C.ratio C.bon hC.rateOk _).mono ?_; rintro e w4 ⟨rfl, hB4⟩; have e0 := was_cell hB4 d0; have e1 := was_cell hB4 d1; have e6 := was_cell hB4 d6; have h4 : RCh F w4 cb C := (by first | exact h3.nextB hB4 | exact (h3.drewN _).nextB hB4); have L4 : Below w.heap.size w w4 := (by first | exact L3.trans (hB4.mono L3.size) | exact (below_drewN L3 _).trans (hB4.mono L3.size)))
      | (go_at_call 131; refine (ref_reward C.p.S (bendR C.ratio + C.bon) _).mono ?_; rintro e w5 ⟨rfl, hB5⟩; have f0 := was_cell hB5 e0; have f1 := was_cell hB5 e1; have f6 := was_cell hB5 e6; have h5 : RCh F w5 cb C := (by first | exact h4.nextB hB5 | exact (h4.drewN _).nextB hB5); have L5 : Below w.heap.size w w5 := (by first | exact L4.trans (hB5.mono L4.size) | exact (below_drewN L4 _).trans (hB5.mono L4.size)); rw [RI.out]))
  clear h2 h3 h4 L2 L3 L4 c0 p1 c6 d0 d1 d6 e0 e1 e6 hB3 hB4 hB5 hF
  have M5 : Moved F F w w5 := ⟨KeptP.of_below L5, fun _ _ g => g⟩
  clear L5 f0 f1 f6
  obtain ⟨tag, pb, pq, sb, kb, v, M, hF, g5⟩ := h5
  have c0 := g5.c0
  have p1 := g5.p.c1
  have c1 := g5.c1
  go_upto_if 53 with fail
  go_cut [10] from 54 to 67 (fun nv wx => nv = .int .i64 (C.bakeN k) ∧ ∃ F1, RCh F1 wx cb (C.paid k) ∧ Moved F F1 w wx)
  case first =>
    by_cases k1 : 1125899906842624 < C.p.S + C.rew
    · have np : ¬ C.Payable k := fun g => by have := g.1; omega
      have PE := hide (show C.paid k = C from if_neg np)
      have NE := hide (show C.bakeN k = 0 from if_neg np)
      clear np
      go_wp2_with fail
      go_meet
      case rel => exact ⟨by rw [NE.out], F, by rw [PE.out]; exact ⟨tag, pb, pq, sb, kb, v, M, hF, g5⟩, M5⟩
    · have AD := rs_add (fun i => tag i = 3) sb C.s hC.s k C.rew w5 g5.s
      have k2 : ¬ C.p.S + C.rew > 1125899906842624 := k1
      go_wp2_with fail
      refine AD.mono ?_
      rintro e w6 ⟨rfl, hs6, M6⟩
      have g6 := g5.stakes hs6 M6
      have MM := retag_moved hF M6 (by decide)
      by_cases a0 : C.s.addC k C.rew = 0
      · have py : C.Payable k := ⟨by omega, a0⟩
        have PE := hide (show C.paid k = { C with p := C.p.grow C.rew, s := C.s.add k C.rew } from if_pos py)
        have NE := hide (show C.bakeN k = C.rew from if_pos py)
        have ng : ¬ C.s.addC k C.rew > 0 := by omega
        have d0 := g6.c0
        have GR := rp_grow pb pq C.p hC.p C.rew w6 g6.p
        clear py a0
        generalize C.s.addC k C.rew = ac at *
        go_wp2_with fail
        refine GR.mono ?_
        rintro e w7 ⟨rfl, hp7, hK7⟩
        have g7 := g6.purse hp7 hK7
        have M7 := g6.movedP (F := fun i => retag tag 3 (fun i => tag i = 3) i ≠ 0) (fun _ => Iff.rfl) hK7
        go_wp2_with fail
        go_meet
        case rel => exact ⟨by rw [NE.out], _, by rw [PE.out]; exact ⟨_, pb, pq, sb, kb, v, M, fun _ => Iff.rfl, g7⟩, (M5.trans MM).trans M7⟩
      · have np : ¬ C.Payable k := fun g => a0 g.2
        have PE := hide (show C.paid k = C from if_neg np)
        have NE := hide (show C.bakeN k = 0 from if_neg np)
        have SE := hide (Sk.add_same a0)
        have ng : C.s.addC k C.rew > 0 := by have := Sk.addC_nn C.s k C.rew; omega
        rw [SE.out] at g6
        clear np a0
        generalize C.s.addC k C.rew = ac at *
        go_wp2_with fail
        go_meet
        case rel => exact ⟨by rw [NE.out], _, by rw [PE.out]; exact ⟨_, pb, pq, sb, kb, v, M, fun _ => Iff.rfl, g6⟩, M5.trans MM⟩
  case rest =>
    obtain ⟨rfl, F1, h1, M1⟩ := hcut
    clear g5 c0 p1 c1 M5 hF
    obtain ⟨tag, pb, pq, sb, kb, v, M, hF, g1⟩ := h1
    have c5 := g1.c5
    have f5 := g1.f 5
    rw [PS.out.2.1] at c5
    have HG := hide g1
    clear g1
    by_cases hm : (C.lev + 1) % 4 = 0
    · have t4 : (((C.lev : Int) + 1) % 4 == 0) = true := by rw [beq_iff_eq]; omega
      have ES : Hid (C.bake k = Ch.ended { C.paid k with lev := C.lev + 1 }) := by
        show Ch.stepped (C.paid k) = _
        unfold Ch.stepped
        rw [PS.out.2.1, if_pos hm]
      clear hm
      go_wp2_with fail
      have gY := HG.out.num (C.paid k).cyc (C.lev + 1) (C.paid k).bon 5 ((C.lev : Int) + 1) (.inr (.inl ⟨rfl, by simp, rfl, rfl⟩))
      refine (EN F1 _ ⟨tag, pb, pq, sb, kb, v, M, hF, gY⟩).mono ?_
      rintro e w9 ⟨rfl, F9, h9, M9⟩
      go_wp2_with fail
      go_ret2
      refine ⟨rfl, F9, ?_, M1.trans (Moved.trans (F' := F1) ⟨KeptP.setCell (F := F1) (KeptP.refl _ _) (p := ⟨cb, 5, none⟩) ((hF cb).2 (by rw [HG.out.tc]; decide)) _, fun _ _ g => g⟩ M9)⟩
      rw [ES.out]
      exact h9
    · have t4 : (((C.lev : Int) + 1) % 4 == 0) = false := by rw [beq_eq_false_iff_ne]; omega
      have ES : Hid (C.bake k = { C.paid k with lev := C.lev + 1 }) := by
        show Ch.stepped (C.paid k) = _
        unfold Ch.stepped
        rw [PS.out.2.1, if_neg hm]
      clear hm
      go_wp2_with fail
      have gY := HG.out.num (C.paid k).cyc (C.lev + 1) (C.paid k).bon 5 ((C.lev : Int) + 1) (.inr (.inl ⟨rfl, by simp, rfl, rfl⟩))
      go_ret2
      refine ⟨rfl, F1, ?_, M1.trans (F'' := F1) ⟨KeptP.setCell (F := F1) (KeptP.refl _ _) (p := ⟨cb, 5, none⟩) ((hF cb).2 (by rw [HG.out.tc]; decide)) _, fun _ _ g => g⟩⟩
      rw [ES.out]
      exact ⟨tag, pb, pq, sb, kb, v, M, hF, gY⟩
end Go.Proofs.YtaihcceobnfmhaaGreatDoor

namespace Go.Proofs.YtaihcceobnfmhaaGreatDoor
open Go.RowKit

theorem mrow_snoc (M : List (Nat × Nat)) (m : Nat × Nat) : mrow (M ++ [m]) = mrow M ++ [.slice (some ⟨m.1, 0, none⟩) 3 m.2] := by simp [mrow]
theorem RChAt.pictured {tag : Nat → Nat} {w w1 w2 : World} {cb pb pq sb kb : Nat} {v : Value} {M : List (Nat × Nat)} {C : Ch} (h : RChAt tag w cb pb pq sb kb v M C) {m : Nat × Nat} {W : Nat → Int} {g n cap : Nat}
    (hm : w.heap.size ≤ m.1 ∨ m ∈ M) (hB : Below w.heap.size w w1) (hI : Ints w1 m.1 0 3 W) (hn : n = C.pics.length + 1)
    (hown : w2.ownsRow 0 31 1 (.slice (some ⟨g, 0, none⟩) n cap) n (mrow M ++ [.slice (some ⟨m.1, 0, none⟩) 3 m.2])) (hgrow : w1.grownBy w2 v.ownBlock) (hat : v.ownBlock = some g ∨ w1.heap.size ≤ g) (hg : g < w2.heap.size) :
    ∃ tag', RChAt tag' (w2.setCell ⟨cb, 7, none⟩ (.slice (some ⟨g, 0, none⟩) n cap)) cb pb pq sb kb (.slice (some ⟨g, 0, none⟩) n cap) (M ++ [m]) { C with pics := C.pics ++ [W] } ∧ (∀ k, k < w.heap.size → tag' k ≠ 0 → tag k ≠ 0) ∧
      KeptP (fun k => tag k ≠ 0) w (w2.setCell ⟨cb, 7, none⟩ (.slice (some ⟨g, 0, none⟩) n cap)) := by
  have hs := hB.size
  have new : ∀ k, w.heap.size ≤ k → tag k = 0 := fun k hk => Classical.byContradiction fun e => by have := h.lt k e; omega
  have tg : tag g = 5 ∨ (tag g = 0 ∧ w1.heap.size ≤ g) := by
    rcases hat with e | e
    · exact .inl (h.tv g e)
    · exact .inr ⟨new g (by omega), e⟩
  have tmm : tag m.1 = 6 ∨ tag m.1 = 0 := hm.elim (fun e => .inr (new _ e)) (fun e => .inl (h.tm m e))
  have lm : m.1 < w1.heap.size := cell_lt (a := ⟨m.1, 0 + 0, none⟩) (hI 0 (by omega))
  have gm : g ≠ m.1 := fun e => by
    rcases tg with t | ⟨_, t⟩
    · rw [e] at t; omega
    · omega
  have gc : g ≠ cb := fun e => by
    have := h.tc
    rcases tg with t | ⟨t, _⟩
    · rw [e] at t; omega
    · rw [e] at t; omega
  have mc : m.1 ≠ cb := fun e => by have := h.tc; rw [e] at tmm; omega
  have kp : KeptP (fun k => tag k = 5) w w2 := (KeptP.of_below (F := fun k => tag k = 5) hB).trans (G := fun k => v.ownBlock = some k) ⟨hgrow.os, hgrow.tape, hgrow.output, hgrow.size, fun k hk hx => hgrow.block k hk (fun e => hx e.symm)⟩ (fun k _ e => h.tv k e)
  have kc : KeptP (fun k => k = cb) w2 (w2.setCell ⟨cb, 7, none⟩ (.slice (some ⟨g, 0, none⟩) n cap)) := (KeptP.refl (fun k => k = cb) w2).setCell (p := ⟨cb, 7, none⟩) rfl _
  have k3 : KeptP (fun k => tag k = 5 ∨ tag k = 1) w (w2.setCell ⟨cb, 7, none⟩ (.slice (some ⟨g, 0, none⟩) n cap)) := (kp.mono (fun _ _ e => .inl e)).trans kc (fun k _ e => .inr (by rw [e]; exact h.tc))
  have n5 : ¬ tag cb = 5 := by rw [h.tc]; decide
  have np : ¬ (tag pb = 5 ∨ tag pb = 1) := by rw [h.tp]; decide
  have nq : ¬ (tag pq = 5 ∨ tag pq = 1) := by rw [h.tq]; decide
  have lcb : cb < w.heap.size := cell_lt h.c0
  have lp := cell_lt h.p.c0
  have lq := cell_lt (h.p.s 0 (by omega))
  have far : ∀ {j : Nat} {u : Value}, j ≠ 7 → w.cell? ⟨cb, j, none⟩ = some u → (w2.setCell ⟨cb, 7, none⟩ (.slice (some ⟨g, 0, none⟩) n cap)).cell? ⟨cb, j, none⟩ = some u := fun {j u} ne e => by
    rw [World.cell?_setCell_other _ _ _ _ (fun z => absurd (congrArg Addr.off z) (fun z => ne z.symm))]; exact kp.old e n5
  have same : ∀ u, u ≠ 0 → u ≠ 5 → u ≠ 6 → (fun k => (if k = g then 5 else if k = m.1 then 6 else tag k) = u) = (fun k => tag k = u) := fun u u0 u5 u6 => by
    funext k
    refine propext ⟨fun e => ?_, fun e => ?_⟩
    · by_cases e1 : k = g
      · rw [if_pos e1] at e; exact absurd e.symm u5
      · rw [if_neg e1] at e
        by_cases e2 : k = m.1
        · rw [if_pos e2] at e; exact absurd e.symm u6
        · rw [if_neg e2] at e; exact e
    · have e1 : k ≠ g := fun z => by rw [z] at e; omega
      have e2 : k ≠ m.1 := fun z => by rw [z] at e; omega
      rw [if_neg e1, if_neg e2]; exact e
  have at1 : ∀ {k u}, u ≠ 0 → u ≠ 5 → u ≠ 6 → tag k = u → (if k = g then 5 else if k = m.1 then 6 else tag k) = u := fun {k u} a b c e => by
    have := congrFun (same u a b c) k
    exact this.mpr e
  refine ⟨fun k => if k = g then 5 else if k = m.1 then 6 else tag k, ?_, fun k hk ht => ?_, k3.mono (fun k _ e => by omega)⟩
  · exact { c0 := far (by omega) h.c0, c1 := far (by omega) h.c1, c2 := far (by omega) h.c2, c3 := far (by omega) h.c3, c4 := far (by omega) h.c4, c5 := far (by omega) h.c5, c6 := far (by omega) h.c6
            c7 := World.cell?_setCell_same _ _ _ (kp.old h.c7 n5)
            f := fun i => by rw [World.frozen?_setCell, kp.frozen (p := ⟨cb, i, none⟩) lcb n5]; exact h.f i
            p := ⟨k3.old h.p.c0 np, k3.old h.p.c1 np, fun i hi => k3.old (h.p.s i hi) nq, by rw [k3.frozen (p := ⟨pb, 1, none⟩) lp np]; exact h.p.f1, fun i hi => by rw [k3.frozen (p := ⟨pq, i, none⟩) lq nq]; exact h.p.fs i hi, h.p.ne⟩
            s := by rw [same 3 (by decide) (by decide) (by decide)]; exact h.s.keptP k3 fun k e z => by omega
            c := by rw [same 4 (by decide) (by decide) (by decide)]; exact h.c.keptP k3 fun k e z => by omega
            own := by
              have e : (C.pics ++ [W]).length = n := by rw [List.length_append, hn]; rfl
              show World.ownsRow _ _ _ _ _ (C.pics ++ [W]).length _
              rw [e, mrow_snoc]
              exact ownsRow_keptP hown kc fun q e2 z => by
                have : g = q := by simpa [Value.ownBlock] using e2
                omega
            pic := fun i m' W' hm' hW' j hj => by
              have lenM := h.lenM
              rcases Nat.lt_or_ge i M.length with l | l
              · rw [List.getElem?_append_left l] at hm'
                have hW2 : (C.pics ++ [W])[i]? = some W' := hW'
                rw [List.getElem?_append_left (by omega)] at hW2
                have t6 := h.tm m' (List.mem_of_getElem? hm')
                exact k3.old (h.pic i m' W' hm' hW2 j hj) (show ¬ (tag m'.1 = 5 ∨ tag m'.1 = 1) by omega)
              · have li : i < (M ++ [m]).length := (List.getElem?_eq_some_iff.1 hm').1
                rw [List.length_append] at li
                have ei : i = M.length := by have : [m].length = 1 := rfl; omega
                subst ei
                rw [List.getElem?_append_right (Nat.le_refl _), Nat.sub_self] at hm'
                obtain rfl : m = m' := by simpa using hm'
                have hW2 : (C.pics ++ [W])[M.length]? = some W' := hW'
                rw [lenM, List.getElem?_append_right (Nat.le_refl _), Nat.sub_self] at hW2
                obtain rfl : W = W' := by simpa using hW2
                have c1 : w2.cell? ⟨m.1, 0 + j, none⟩ = some (.int .i64 (W j)) := by
                  have e := hgrow.block m.1 lm (fun e => by
                    have t5 := h.tv m.1 e.symm
                    omega)
                  rw [World.cell?_of_block (w := w1) (a := ⟨m.1, 0 + j, none⟩) e]
                  exact hI j hj
                rw [World.cell?_setCell_other _ _ _ _ (fun z => mc (congrArg Addr.block z).symm)]
                exact c1
            tc := at1 (by decide) (by decide) (by decide) h.tc, tp := at1 (by decide) (by decide) (by decide) h.tp, tq := at1 (by decide) (by decide) (by decide) h.tq
            tv := fun q e => by
              have : g = q := by simpa [Value.ownBlock] using e
              show (if q = g then 5 else if q = m.1 then 6 else tag q) = 5
              rw [if_pos this.symm]
            tm := fun m' hm' => by
              show (if m'.1 = g then 5 else if m'.1 = m.1 then 6 else tag m'.1) = 6
              rcases List.mem_append.1 hm' with e | e
              · have t6 := h.tm m' e
                have e1 : m'.1 ≠ g := fun z => by rw [z] at t6; omega
                rw [if_neg e1]
                split
                · rfl
                · exact t6
              · rw [List.mem_singleton.1 e, if_neg gm.symm, if_pos rfl]
            lt := fun k hk => by
              have hk' : (if k = g then 5 else if k = m.1 then 6 else tag k) ≠ 0 := hk
              have sz : (w2.setCell ⟨cb, 7, none⟩ (.slice (some ⟨g, 0, none⟩) n cap)).heap.size = w2.heap.size := by simp [World.setCell]
              rw [sz]
              have := hgrow.size
              by_cases e1 : k = g
              · rw [e1]; exact hg
              · rw [if_neg e1] at hk'
                by_cases e2 : k = m.1
                · omega
                · rw [if_neg e2] at hk'
                  have := h.lt k hk'
                  omega }
  · have ht' : (if k = g then 5 else if k = m.1 then 6 else tag k) ≠ 0 := ht
    by_cases e1 : k = g
    · rcases tg with t | ⟨_, t⟩
      · rw [e1, t]; decide
      · omega
    · rw [if_neg e1] at ht'
      by_cases e2 : k = m.1
      · rcases hm with t | t
        · omega
        · rw [e2, h.tm m t]; decide
      · rw [if_neg e2] at ht'; exact ht'
end Go.Proofs.YtaihcceobnfmhaaGreatDoor

namespace Go.Proofs.YtaihcceobnfmhaaGreatDoor
open Go.RowKit

theorem Tryz.fieldsEv : (Tryz.prog.fieldsOf 42) = #[⟨ "Baker", 3, 0, false, "", "", 0⟩, ⟨ "Cycle", 3, 1, false, "", "", 8⟩, ⟨ "Number", 3, 2, false, "", "", 16⟩] := by kernel_rfl
theorem ev_guard (op : BinOp) (x y : Operand) (xs ys : Array Value) (w : World) : (eqGuard op 42 x y (.agg xs) (.agg ys)).run Tryz.prog w = .ok () w := run_eqGuard_agg w op 42 x y xs ys (by kernel_rfl)
theorem ev_eql (a1 a2 a3 b1 b2 b3 : Int) (w : World) : (binOp .eql 42 (.agg #[.int .i64 a1, .int .i64 a2, .int .i64 a3]) (.agg #[.int .i64 b1, .int .i64 b2, .int .i64 b3])).run Tryz.prog w = .ok (.bool (decide ((a1, a2, a3) = (b1, b2, b3)))) w := by
  have h1 : Tryz.prog.underlying 42 = some (.struct (Tryz.prog.fieldsOf 42)) := by kernel_rfl
  have h2 : Tryz.prog.stoodInHeld 42 = false := by kernel_rfl
  rw [run_eql_struct, run_equalIn_agg w 9999 42 _ _ h1 h2, Tryz.fieldsEv]
  have e : ∀ (d : Nat) (x y : Int) (w : World), (Op.equalIn (d + 1) 3 (.int .i64 x) (.int .i64 y)).run Tryz.prog w = .ok (x == y) w := fun d x y w => run_equalIn_int w d 3 .i64 .i64 x y Tryz.underlying3
  simp [Op.eqFields, e 9998, go_sem]
  by_cases c1 : a1 = b1 <;> by_cases c2 : a2 = b2 <;> by_cases c3 : a3 = b3 <;> simp [c1, c2, c3]
end Go.Proofs.YtaihcceobnfmhaaGreatDoor
