/-
  The program's chain by its contracts: a block is baked.
-/
import Derived.Test.YtaihcceobnfmhaaDoorProgChainEnd2
namespace Go.Proofs.YtaihcceobnfmhaaDoor
open Go.RowKit

theorem PCb.laid {sb : Nat} {F : Nat → Prop} {w w' : World} {cb g : Nat} {C : Ch} {A : Nat → Addr} (h : PCb sb F w cb C g) (hL : ChLaid8 w A) (hK : KeptP F w w') : ChLaid8 w' A := by
  obtain ⟨_, _, _, _, hf, h⟩ := h
  exact h.laid hL hf hK
theorem PCb.below {sb : Nat} {F : Nat → Prop} {w w' : World} {cb g : Nat} {C : Ch} (h : PCb sb F w cb C g) (hB : Below w.heap.size w w') : PCb sb F w' cb C g := h.keptP (KeptP.of_below (F := fun _ => False) hB) fun _ z => z.elim
theorem PCb.more {sb : Nat} {F : Nat → Prop} {w : World} {cb g g' : Nat} {C : Ch} (h : PCb sb F w cb C g) (hg : g ≤ g') : PCb sb F w cb C g' := by
  obtain ⟨tag, pb, kb, xs, hf, h⟩ := h
  exact ⟨tag, pb, kb, xs, hf, h.more hg⟩
theorem PCb.stays {sb : Nat} {F : Nat → Prop} {w w' : World} {cb g : Nat} {C : Ch} (_ : PCb sb F w cb C g) (hB : Below w.heap.size w w') : Moved F F w w' := ⟨KeptP.of_below hB, fun _ _ z => z⟩

set_option maxRecDepth 100000 in
set_option maxHeartbeats 1000000 in
theorem pcb_bake_bad {sb : Nat} (F : Nat → Prop) (cb : Nat) (C : Ch) (hC : C.Ok) (hb : C.Few) (g : Nat) (b r : Int) (hr : ¬ TurnOk C.cyc C.lev r) (A : Nat → Addr) (w : World) (hL : ChLaid8 w A) (h : PCb sb F w cb C g) :
    Calls Tryd.prog 18 #[.pointer (some ⟨cb, 0, none⟩), .int .i64 b, .int .i64 r] w (CbEndN sb F cb g C 0 2 A w) := by
  have T := pcb_turn_bad F cb C hC hb g r hr A w hL h
  go_enter Tryd.func18, Tryd.ntmps18
  go_wp2_with fail
  refine T.mono ?_
  rintro e w1 ⟨ev, rfl, hE, hB⟩
  obtain ⟨z, rfl⟩ : ∃ z, ev = sent z := by
    rcases hE with ⟨z, _⟩ | ⟨i, _, _, z⟩
    · exact absurd z (by decide)
    · exact ⟨_, z⟩
  go_wp2_with fail
  go_ret2
  exact ⟨_, F, rfl, hE, (h.below hB).more (by omega), h.stays hB⟩

set_option maxRecDepth 100000 in
set_option maxHeartbeats 1000000 in
theorem pcb_bake_other {sb : Nat} (F : Nat → Prop) (cb : Nat) (C : Ch) (hC : C.Ok) (hb : C.Few) (g : Nat) (b r : Int) (hr : TurnOk C.cyc C.lev r) (T : ∀ k, Turn 3 C.pic C.seed C.cyc C.lev r k → k ≠ b) (A : Nat → Addr) (w : World) (hL : ChLaid8 w A) (h : PCb sb F w cb C g) :
    Calls Tryd.prog 18 #[.pointer (some ⟨cb, 0, none⟩), .int .i64 b, .int .i64 r] w (CbEndN sb F cb g C 0 9 A w) := by
  have P := pcb_turn F cb C hC hb g r hr A w hL h
  go_enter Tryd.func18, Tryd.ntmps18
  go_wp2_with fail
  refine P.mono ?_
  rintro e w1 ⟨k, rfl, hT, hB⟩
  have ne := T k hT
  have ne' : ¬ (b = k) := fun z => ne z.symm
  have v8 := (hL.below hB).v8
  clear P
  go_wp2_with fail
  go_quiet (fail)
  go_wp2
  go_ret2
  have hB' := below_drewN hB nq
  exact ⟨_, F, rfl, .inr ⟨8, by omega, rfl, rfl⟩, (h.below hB').more (by omega), h.stays hB'⟩

theorem Ch.paid_parts (C : Ch) (b : Int) : { C with p := (C.paid b).p, s := (C.paid b).s } = C.paid b := by
  unfold Ch.paid
  split <;> rfl
set_option maxRecDepth 100000 in
set_option maxHeartbeats 1000000 in
theorem pcb_bake_own {sb : Nat} (F : Nat → Prop) (cb : Nat) (C : Ch) (hC : C.Ok) (hb : C.Few) (g : Nat) (hg : g ≤ 850000) (b r : Int) (hr : TurnOk C.cyc C.lev r) (T : ∀ k, Turn 3 C.pic C.seed C.cyc C.lev r k → k = b) (A : Nat → Addr) (w : World) (hL : ChLaid8 w A) (h : PCb sb F w cb C g) :
    Calls Tryd.prog 18 #[.pointer (some ⟨cb, 0, none⟩), .int .i64 b, .int .i64 r] w (CbEndN sb F cb g (C.bake b) (C.bakeN b) 0 A w) := by
  have P := pcb_turn F cb C hC hb g r hr A w hL h
  go_enter Tryd.func18, Tryd.ntmps18
  go_wp2_with fail
  refine P.mono ?_
  rintro e w1 ⟨k, rfl, hT, hB⟩
  obtain rfl := T k hT
  have h1 := h.below hB
  obtain ⟨tag, pb, kb, xs, hf1, h1⟩ := h1
  have c0 := h1.c0
  have c1 := h1.c1
  have c6 := h1.c6
  have L1 := hL.below hB
  have hd : PChAt tag w1.drew cb pb sb kb xs C g := h1.keptP ((KeptP.refl (fun _ => False) w1).drew) fun _ q => q.elim
  have nt1 : ¬ bksOwn pb (fun k => tag k = 3) cb := fun q => by rcases h1.own cb q with e | e <;> (rw [h1.tc] at e; cases e)
  have R := bks_reward _ pb sb C hC g (by omega) k A w1.drew (L1.below (below_drewN (Below.refl w1.heap.size w1) 1)) hd.bks
  have H := hide hd
  clear P h1 hd
  go_wp2_with fail
  go_region_held3 (fun w' => w'.cell? ⟨cb, 0, none⟩ = some (.pointer (some ⟨pb, 0, none⟩)) ∧ w'.cell? ⟨cb, 1, none⟩ = some (.pointer (some ⟨sb, 0, none⟩)) ∧ w'.cell? ⟨cb, 6, none⟩ = some (.int .i64 C.bon)) (exact ⟨by assumption, by assumption, by assumption⟩)
    (first
      | (go_at_call 35; refine R.mono ?_; rintro e w2 ⟨G2, rfl, hb2, hM2⟩; have d0 : w2.cell? ⟨cb, 0, none⟩ = some (.pointer (some ⟨pb, 0, none⟩)) := hM2.kept.old c0 nt1; have d1 : w2.cell? ⟨cb, 1, none⟩ = some (.pointer (some ⟨sb, 0, none⟩)) := hM2.kept.old c1 nt1; have d6 : w2.cell? ⟨cb, 6, none⟩ = some (.int .i64 C.bon) := hM2.kept.old c6 nt1))
  obtain ⟨F2, h2, M2⟩ := H.out.bk hf1 hb2 hM2 (by omega) (C.paid_parts k)
  have M2 := moved_drew M2
  have L2 := (h.below hB).laid (hL.below hB) M2.kept
  have MM := (h.stays hB).trans M2
  have od := hC.paid k
  have k4 : (C.paid k).s.K.length ≤ 400 := by rw [C.paid_K k]; exact hb.k
  have l4 : (C.paid k).c.L.length ≤ 400 := by rw [(C.paid_same k).2.2]; exact hb.l
  have y4 : (C.paid k).cyc ≤ 400 := by rw [(C.paid_same k).1]; exact hb.y
  have v4 : (C.paid k).lev ≤ 400 := by rw [(C.paid_same k).2.1]; exact hb.v
  have BK : Hid (C.bake k = (C.paid k).stepped) := rfl
  clear R M2 hL h hC T hT hb hr H hb2 hM2 c0 c1 c6 d0 d1 d6 L1 nt1 hf1
  generalize C.paid k = D at *
  have oE : ({ D with lev := D.lev + 1 } : Ch).Ok := ⟨od.p, od.s, od.c, od.sum, od.pos, od.reg, od.bon, od.cas, od.len, od.heavy, od.seed⟩
  obtain ⟨tg, pb, kb, xs, hf, gE⟩ := h2
  have c5 := gE.c5
  have f5 := gE.f 5
  have v4' : (D.lev : Int) ≤ 400 := by omega
  have v0' : (0 : Int) ≤ (D.lev : Int) := by omega
  have g2 := gE.num D.cyc (D.lev + 1) D.bon D.pics rfl 5 ((D.lev : Int) + 1) (.inr (.inl ⟨rfl, by simp, rfl, rfl⟩))
  have K2 := (KeptP.refl F2 w2).setCell (p := ⟨cb, 5, none⟩) ((hf cb).2 (by rw [gE.tc]; decide)) (.int .i64 ((D.lev : Int) + 1))
  have L3 := gE.laid L2 hf K2
  have G2 := hide g2
  clear gE g2
  by_cases h4 : (D.lev + 1) % 4 = 0
  · have ST : Hid (D.stepped = Ch.ended { D with lev := D.lev + 1 }) := hide (if_pos h4)
    have h4' : ((D.lev : Int) + 1).tmod 4 = 0 := by rw [Int.tmod_eq_emod_of_nonneg (by omega)]; omega
    go_wp2_with fail
    refine (pcb_end F2 cb { D with lev := D.lev + 1 } oE k4 l4 y4 (g + 4) (by omega) A _ L3 ⟨tg, pb, kb, xs, hf, G2.out⟩).mono ?_
    rintro e w4 ⟨F4, rfl, hP, M4⟩
    go_wp2_with fail
    go_ret2
    refine ⟨_, F4, rfl, .inl ⟨rfl, rfl⟩, ?_, MM.trans ⟨K2.trans M4.kept fun _ _ z => z, fun k hk z => M4.old k (Nat.lt_of_lt_of_le hk K2.size) z⟩⟩
    rw [BK.out, ST.out]
    exact hP.more (by omega)
  · have ST : Hid (D.stepped = { D with lev := D.lev + 1 }) := hide (if_neg h4)
    have h4' : ¬ ((D.lev : Int) + 1).tmod 4 = 0 := by rw [Int.tmod_eq_emod_of_nonneg (by omega)]; omega
    go_wp2_with fail
    go_ret2
    refine ⟨_, F2, rfl, .inl ⟨rfl, rfl⟩, ?_, MM.trans ⟨K2, fun _ _ z => z⟩⟩
    rw [BK.out, ST.out]
    exact ⟨tg, pb, kb, xs, hf, G2.out.more (by omega)⟩
end Go.Proofs.YtaihcceobnfmhaaDoor
