/-
  The program's chain by its contracts: a block is baked.
  The program's books by their contracts: new ones.
  The program's chain by its contracts: a new one.
  The program's chain by its contracts: all of them, whatever block its stakes have.
  A block of the program's chain by whose turn it is; the closed fact 'begun' of package bakehouselaw3.
-/
import Derived.Test.YtaihcceobnfmhaaGreatDoorProgChainEnd2
import Derived.Test.YtaihcceobnfmhaaGreatDoorStkPartsX
namespace Go.Proofs.YtaihcceobnfmhaaGreatDoor
open Go.RowKit

theorem PCb.laid {sb : Nat} {F : Nat → Prop} {w w' : World} {cb g : Nat} {C : Ch} {A : Nat → Addr} (h : PCb sb F w cb C g) (hL : ChLaid8 w A) (hK : KeptP F w w') : ChLaid8 w' A := by
  obtain ⟨_, _, _, _, hf, h⟩ := h
  exact h.laid hL hf hK
theorem PCb.below {sb : Nat} {F : Nat → Prop} {w w' : World} {cb g : Nat} {C : Ch} (h : PCb sb F w cb C g) (hB : Below w.heap.size w w') : PCb sb F w' cb C g := h.keptP (KeptP.of_below (F := fun _ => False) hB) fun _ z => z.elim
theorem PCb.more {sb : Nat} {F : Nat → Prop} {w : World} {cb g g' : Nat} {C : Ch} (h : PCb sb F w cb C g) (hg : g ≤ g') : PCb sb F w cb C g' := by
  obtain ⟨tag, pb, kb, xs, hf, h⟩ := h
  exact ⟨tag, pb, kb, xs, hf, h.more hg⟩
theorem PCb.stays {sb : Nat} {F : Nat → Prop} {w w' : World} {cb g : Nat} {C : Ch} (_ : PCb sb F w cb C g) (hB : Below w.heap.size w w') : Moved F F w w' := ⟨KeptP.of_below hB, fun _ _ z => z⟩

set_option maxRecDepth 100000 in
set_option maxHeartbeats 1000000 in
theorem pcb_bake_bad {sb : Nat} (F : Nat → Prop) (cb : Nat) (C : Ch) (hC : C.Ok) (hb : C.Few) (g : Nat) (b r : Int) (hr : ¬ TurnOk C.cyc C.lev r) (A : Nat → Addr) (w : World) (hL : ChLaid8 w A) (h : PCb sb F w cb C g) :
    Calls Tryz.prog 13 #[.pointer (some ⟨cb, 0, none⟩), .int .i64 b, .int .i64 r] w (CbEndN sb F cb g C 0 2 A w) := by
  have T := pcb_turn_bad F cb C hC hb g r hr A w hL h
  go_enter Tryz.func13, Tryz.ntmps13
  go_wp2_with fail
  refine T.mono ?_
  rintro e w1 ⟨ev, rfl, hE, hB⟩
  obtain ⟨z, rfl⟩ : ∃ z, ev = sent z := by
    rcases hE with ⟨z, _⟩ | ⟨i, _, _, z⟩
    · exact absurd z (by decide)
    · exact ⟨_, z⟩
  go_wp2_with fail
  go_ret2
  exact ⟨_, F, rfl, hE, (h.below hB).more (by omega), h.stays hB⟩

set_option maxRecDepth 100000 in
set_option maxHeartbeats 1000000 in
theorem pcb_bake_other {sb : Nat} (F : Nat → Prop) (cb : Nat) (C : Ch) (hC : C.Ok) (hb : C.Few) (g : Nat) (b r : Int) (hr : TurnOk C.cyc C.lev r) (T : ∀ k, Turn 3 C.pic C.seed C.cyc C.lev r k → k ≠ b) (A : Nat → Addr) (w : World) (hL : ChLaid8 w A) (h : PCb sb F w cb C g) :
    Calls Tryz.prog 13 #[.pointer (some ⟨cb, 0, none⟩), .int .i64 b, .int .i64 r] w (CbEndN sb F cb g C 0 9 A w) := by
  have P := pcb_turn F cb C hC hb g r hr A w hL h
  go_enter Tryz.func13, Tryz.ntmps13
  go_wp2_with fail
  refine P.mono ?_
  rintro e w1 ⟨k, rfl, hT, hB⟩
  have ne := T k hT
  have ne' : ¬ (b = k) := fun z => ne z.symm
  have v8 := (hL.below hB).v8
  clear P
  go_wp2_with fail
  go_quiet (fail)
  go_wp2
  go_ret2
  have hB' := below_drewN hB nq
  exact ⟨_, F, rfl, .inr ⟨8, by omega, rfl, rfl⟩, (h.below hB').more (by omega), h.stays hB'⟩

theorem Ch.paid_parts (C : Ch) (b : Int) : { C with p := (C.paid b).p, s := (C.paid b).s } = C.paid b := by
  unfold Ch.paid
  split <;> rfl
set_option maxRecDepth 100000 in
set_option maxHeartbeats 1000000 in
theorem pcb_bake_own {sb : Nat} (F : Nat → Prop) (cb : Nat) (C : Ch) (hC : C.Ok) (hb : C.Few) (g : Nat) (hg : g ≤ 850000) (b r : Int) (hr : TurnOk C.cyc C.lev r) (T : ∀ k, Turn 3 C.pic C.seed C.cyc C.lev r k → k = b) (A : Nat → Addr) (w : World) (hL : ChLaid8 w A) (h : PCb sb F w cb C g) :
    Calls Tryz.prog 13 #[.pointer (some ⟨cb, 0, none⟩), .int .i64 b, .int .i64 r] w (CbEndN sb F cb g (C.bake b) (C.bakeN b) 0 A w) := by
  have P := pcb_turn F cb C hC hb g r hr A w hL h
  go_enter Tryz.func13, Tryz.ntmps13
  go_wp2_with fail
  refine P.mono ?_
  rintro e w1 ⟨k, rfl, hT, hB⟩
  obtain rfl := T k hT
  have h1 := h.below hB
  obtain ⟨tag, pb, kb, xs, hf1, h1⟩ := h1
  have c0 := h1.c0
  have c1 := h1.c1
  have c6 := h1.c6
  have L1 := hL.below hB
  have hd : PChAt tag w1.drew cb pb sb kb xs C g := h1.keptP ((KeptP.refl (fun _ => False) w1).drew) fun _ q => q.elim
  have nt1 : ¬ bksOwn pb (fun k => tag k = 3) cb := fun q => by rcases h1.own cb q with e | e <;> (rw [h1.tc] at e; cases e)
  have R := bks_reward _ pb sb C hC g (by omega) k A w1.drew (L1.below (below_drewN (Below.refl w1.heap.size w1) 1)) hd.bks
  have H := hide hd
  clear P h1 hd
  go_wp2_with fail
  go_region_held3 (fun w' => w'.cell? ⟨cb, 0, none⟩ = some (.pointer (some ⟨pb, 0, none⟩)) ∧ w'.cell? ⟨cb, 1, none⟩ = some (.pointer (some ⟨sb, 0, none⟩)) ∧ w'.cell? ⟨cb, 6, none⟩ = some (.int .i64 C.bon)) (exact ⟨by assumption, by assumption, by assumption⟩)
    (first
      | (go_at_call 47; refine R.mono ?_; rintro e w2 ⟨G2, rfl, hb2, hM2⟩; have d0 : w2.cell? ⟨cb, 0, none⟩ = some (.pointer (some ⟨pb, 0, none⟩)) := hM2.kept.old c0 nt1; have d1 : w2.cell? ⟨cb, 1, none⟩ = some (.pointer (some ⟨sb, 0, none⟩)) := hM2.kept.old c1 nt1; have d6 : w2.cell? ⟨cb, 6, none⟩ = some (.int .i64 C.bon) := hM2.kept.old c6 nt1))
  obtain ⟨F2, h2, M2⟩ := H.out.bk hf1 hb2 hM2 (by omega) (C.paid_parts k)
  have M2 := moved_drew M2
  have L2 := (h.below hB).laid (hL.below hB) M2.kept
  have MM := (h.stays hB).trans M2
  have od := hC.paid k
  have k4 : (C.paid k).s.K.length ≤ 400 := by rw [C.paid_K k]; exact hb.k
  have l4 : (C.paid k).c.L.length ≤ 400 := by rw [(C.paid_same k).2.2]; exact hb.l
  have y4 : (C.paid k).cyc ≤ 400 := by rw [(C.paid_same k).1]; exact hb.y
  have v4 : (C.paid k).lev ≤ 400 := by rw [(C.paid_same k).2.1]; exact hb.v
  have BK : Hid (C.bake k = (C.paid k).stepped) := rfl
  clear R M2 hL h hC T hT hb hr H hb2 hM2 c0 c1 c6 d0 d1 d6 L1 nt1 hf1
  generalize C.paid k = D at *
  have oE : ({ D with lev := D.lev + 1 } : Ch).Ok := ⟨od.p, od.s, od.c, od.sum, od.pos, od.reg, od.bon, od.cas, od.len, od.heavy, od.seed⟩
  obtain ⟨tg, pb, kb, xs, hf, gE⟩ := h2
  have c5 := gE.c5
  have f5 := gE.f 5
  have v4' : (D.lev : Int) ≤ 400 := by omega
  have v0' : (0 : Int) ≤ (D.lev : Int) := by omega
  have g2 := gE.num D.cyc (D.lev + 1) D.bon D.pics rfl 5 ((D.lev : Int) + 1) (.inr (.inl ⟨rfl, by simp, rfl, rfl⟩))
  have K2 := (KeptP.refl F2 w2).setCell (p := ⟨cb, 5, none⟩) ((hf cb).2 (by rw [gE.tc]; decide)) (.int .i64 ((D.lev : Int) + 1))
  have L3 := gE.laid L2 hf K2
  have G2 := hide g2
  clear gE g2
  by_cases h4 : (D.lev + 1) % 4 = 0
  · have ST : Hid (D.stepped = Ch.ended { D with lev := D.lev + 1 }) := hide (if_pos h4)
    have h4' : ((D.lev : Int) + 1).tmod 4 = 0 := by rw [Int.tmod_eq_emod_of_nonneg (by omega)]; omega
    go_wp2_with fail
    refine (pcb_end F2 cb { D with lev := D.lev + 1 } oE k4 l4 y4 (g + 4) (by omega) A _ L3 ⟨tg, pb, kb, xs, hf, G2.out⟩).mono ?_
    rintro e w4 ⟨F4, rfl, hP, M4⟩
    go_wp2_with fail
    go_ret2
    refine ⟨_, F4, rfl, .inl ⟨rfl, rfl⟩, ?_, MM.trans ⟨K2.trans M4.kept fun _ _ z => z, fun k hk z => M4.old k (Nat.lt_of_lt_of_le hk K2.size) z⟩⟩
    rw [BK.out, ST.out]
    exact hP.more (by omega)
  · have ST : Hid (D.stepped = { D with lev := D.lev + 1 }) := hide (if_neg h4)
    have h4' : ¬ ((D.lev : Int) + 1).tmod 4 = 0 := by rw [Int.tmod_eq_emod_of_nonneg (by omega)]; omega
    go_wp2_with fail
    go_ret2
    refine ⟨_, F2, rfl, .inl ⟨rfl, rfl⟩, ?_, MM.trans ⟨K2, fun _ _ z => z⟩⟩
    rw [BK.out, ST.out]
    exact ⟨tg, pb, kb, xs, hf, G2.out.more (by omega)⟩
end Go.Proofs.YtaihcceobnfmhaaGreatDoor

namespace Go.Proofs.YtaihcceobnfmhaaGreatDoor
open Go.RowKit

theorem stake0_fits : ∀ j, j < 3 → ∀ D : Ch, D.p = outTo j → D.s = (stkSt j).reg j → D.stake j j 1000 = { D with p := outTo (j + 1), s := stkSt (j + 1) } := fun j hj D hp hs => by
  have z : D.stakeC j j 1000 = 0 := by
    unfold Ch.stakeC
    rw [hp, hs]
    have e : j = 0 ∨ j = 1 ∨ j = 2 := by omega
    rcases e with rfl | rfl | rfl <;> decide
  unfold Ch.stake
  rw [if_pos z, hp, hs]
  rfl
theorem PurAt.belowP {w w' : World} {b : Nat} {x : Pu} (h : PurAt w b x) (hB : Below w.heap.size w w') : PurAt w' b x :=
  ⟨⟨fun i hi => was_cellP hB (h.raw.s i hi), was_cellP hB h.raw.c6, fun i => by rw [hB.frozen (p := ⟨b, i, none⟩) h.lt]; exact h.raw.f i⟩, h.ok⟩
/-- new books, as they are being opened: a copy, and where the answer goes -/
structure BkOpen (w : World) (rb nb pb sb : Nat) : Prop where
  box : BkBox w nb pb sb
  r0 : ∃ v, w.cell? ⟨rb, 0, none⟩ = some v
  r1 : ∃ v, w.cell? ⟨rb, 1, none⟩ = some v
  f : ∀ i, w.frozen? ⟨rb, i, none⟩ = false
theorem BkOpen.keptP {w w' : World} {rb nb pb sb : Nat} {H : Nat → Prop} (h : BkOpen w rb nb pb sb) (hK : KeptP H w w') (hn : ¬ H nb) (hr : ¬ H rb) : BkOpen w' rb nb pb sb := by
  obtain ⟨v0, e0⟩ := h.r0
  obtain ⟨v1, e1⟩ := h.r1
  exact ⟨h.box.keptP hK hn, ⟨v0, hK.old e0 hr⟩, ⟨v1, hK.old e1 hr⟩, fun i => by rw [hK.frozen (p := ⟨rb, i, none⟩) (show rb < w.heap.size from cell_lt e0) hr]; exact h.f i⟩
/-- own blocks are new, and none of two -/
structure BkApart (B : Nat) (w0 w : World) (rb nb pb : Nat) (G : Nat → Prop) : Prop where
  mine : Mine B w0 w (bksOwn pb G)
  n1 : ¬ bksOwn pb G nb
  n2 : ¬ bksOwn pb G rb
  l1 : nb < w.heap.size
  l2 : rb < w.heap.size
theorem BkApart.next {B : Nat} {w0 w w' : World} {rb nb pb : Nat} {G G' : Nat → Prop} (h : BkApart B w0 w rb nb pb G) (hM : Moved (bksOwn pb G) (bksOwn pb G') w w') : BkApart B w0 w' rb nb pb G' :=
  ⟨h.mine.next hM, fun q => h.n1 (hM.old _ h.l1 q), fun q => h.n2 (hM.old _ h.l2 q), Nat.lt_of_lt_of_le h.l1 hM.kept.size, Nat.lt_of_lt_of_le h.l2 hM.kept.size⟩
set_option maxRecDepth 100000 in
set_option maxHeartbeats 4000000 in
theorem bks_open (A : Nat → Addr) (w : World) (hL : ChLaid8 w A) :
    Calls Tryz.prog 39 #[] w fun e w' => ∃ pb sb G, e = .returned (.agg #[.pointer (some ⟨pb, 0, none⟩), .pointer (some ⟨sb, 0, none⟩)]) ∧ BksAt G w' pb sb { ch0 0 with p := outTo 3, s := stkSt 3 } 6012 ∧ (∀ k, bksOwn pb G k → w.heap.size ≤ k) ∧ Below w.heap.size w w' := by
  have VI : Hid (∀ k, IsVar k → k < w.heap.size) := hL.vin
  go_enter Tryz.func39, Tryz.ntmps39
  go_wp2_with fail
  have BR : Below w.heap.size w (w.alloc (.cells #[.pointer none, .pointer none] 70)) := (Below.refl _ _).alloc (Nat.le_refl _) _
  have z0 : (w.alloc (.cells #[.pointer none, .pointer none] 70)).cell? ⟨w.heap.size, 0, none⟩ = some (.pointer none) := cell_new _ _ _ _ _ _ rfl rfl
  have z1 : (w.alloc (.cells #[.pointer none, .pointer none] 70)).cell? ⟨w.heap.size, 1, none⟩ = some (.pointer none) := cell_new _ _ _ _ _ _ rfl rfl
  have zf : ∀ i, (w.alloc (.cells #[.pointer none, .pointer none] 70)).frozen? ⟨w.heap.size, i, none⟩ = false := fun i => World.frozen?_alloc_at _ _ _ _ rfl
  have sR : w.heap.size < (w.alloc (.cells #[.pointer none, .pointer none] 70)).heap.size := cell_lt z0
  generalize hrb : w.heap.size = rb at *
  generalize w.alloc (.cells #[.pointer none, .pointer none] 70) = w0 at *
  refine (pu_new w0).mono ?_
  rintro e w1 ⟨pb, rfl, hpb, hp1, hB1⟩
  go_wp2_with fail
  refine (ps_new w1).mono ?_
  rintro e w2 ⟨sb, G, rfl, hs2, hG, hB2⟩
  go_wp2_with fail
  have y1 := hB1.size
  have y2 := hB2.size
  have lp := hp1.lt
  have A3 : Below w2.heap.size w2 (w2.alloc (.cells #[.pointer (some ⟨pb, 0, none⟩), .pointer (some ⟨sb, 0, none⟩)] 70)) := (Below.refl _ _).alloc (Nat.le_refl _) _
  have y3 := A3.size
  have BW : Below rb w (w2.alloc (.cells #[.pointer (some ⟨pb, 0, none⟩), .pointer (some ⟨sb, 0, none⟩)] 70)) := ((BR.trans (hB1.mono (by omega))).trans (hB2.mono (by omega))).trans (A3.mono (by omega))
  have lo : ∀ k, bksOwn pb G k → rb < k ∧ k < w2.heap.size := fun k hk => by
    rcases hk with rfl | hk
    · exact ⟨by omega, by omega⟩
    · have := hG k hk; have := hs2.lt k hk; exact ⟨by omega, by omega⟩
  have bk0 : BksAt G (w2.alloc (.cells #[.pointer (some ⟨pb, 0, none⟩), .pointer (some ⟨sb, 0, none⟩)] 70)) pb sb { ch0 0 with p := mintTo 0 } 0 :=
    { p := (hp1.belowP hB2).belowP A3
      s := hs2.keptP (KeptP.of_below (F := fun _ => False) A3) (fun _ z => z.elim)
      np := fun q => by have := hG pb q; omega
      vin := fun k hk => by have := VI.out k hk; omega
      vs := fun k hk z => by have := lo k hk; have := VI.out k z; omega }
  have op0 : BkOpen (w2.alloc (.cells #[.pointer (some ⟨pb, 0, none⟩), .pointer (some ⟨sb, 0, none⟩)] 70)) rb w2.heap.size pb sb :=
    { box := box_new w2 70 pb sb
      r0 := ⟨_, was_cellP A3 (was_cellP hB2 (was_cellP hB1 z0))⟩
      r1 := ⟨_, was_cellP A3 (was_cellP hB2 (was_cellP hB1 z1))⟩
      f := fun i => by rw [A3.frozen (p := ⟨rb, i, none⟩) (by show rb < _; omega), hB2.frozen (p := ⟨rb, i, none⟩) (by show rb < _; omega), hB1.frozen (p := ⟨rb, i, none⟩) sR]; exact zf i }
  have ap0 : BkApart rb w (w2.alloc (.cells #[.pointer (some ⟨pb, 0, none⟩), .pointer (some ⟨sb, 0, none⟩)] 70)) rb w2.heap.size pb G :=
    { mine := ⟨fun k hk => Nat.le_of_lt (lo k hk).1, BW, by omega⟩
      n1 := fun q => by have := lo _ q; omega
      n2 := fun q => by have := lo _ q; omega
      l1 := by simp
      l2 := by omega }
  clear hp1 hs2 hG hB1 hB2 lp A3 BW lo BR z0 z1 zf sR y1 y2 y3 hpb VI
  generalize (w2.alloc (.cells #[.pointer (some ⟨pb, 0, none⟩), .pointer (some ⟨sb, 0, none⟩)] 70)) = w3 at *
  generalize w2.heap.size = nb at *
  go_loopw [7] (fun i wr => ∃ j : Nat, j ≤ 6 ∧ i = .int .i64 j ∧ BksAt G wr pb sb { ch0 0 with p := mintTo j } 0 ∧ BkOpen wr rb nb pb sb ∧ BkApart rb w wr rb nb pb G) (fun i _ => 6 - (intOf i).toNat)
  case atStart => exact ⟨0, by omega, rfl, bk0, op0, ap0⟩
  case round =>
    obtain ⟨j, hj, rfl, hb, ho, ha⟩ := hrel
    clear bk0 op0 ap0
    by_cases hlt : j < 6
    · have e0 := ho.box.e0
      have Lr := hL.below (hrb.symm ▸ ha.mine.below)
      have jl : (j : Int) < 6 := by omega
      have P := pu_mint pb (mintTo j) (mintTo_ok j) j 10000 A wr Lr.pur hb.p
      have HB := hide hb
      clear hb
      go_wp2_with fail
      refine P.mono ?_
      rintro e w5 ⟨ev, rfl, _, hp5, hK5⟩
      have b5 := HB.out.purse hp5 hK5
      have M5 := HB.out.purseMoved hK5
      have B5 := hide b5
      clear HB hp5 hK5 e0 b5 P
      go_wp2_with fail
      go_roundw
      case rel => exact ⟨j + 1, by omega, by go_num, B5.out, ho.keptP M5.kept ha.n1 ha.n2, ha.next M5⟩
      case measure => simp [intOf]; omega
    · obtain rfl : 6 = j := by omega
      clear hlt hj
      have jl : ¬ ((6 : Nat) : Int) < 6 := by omega
      have HB := hide hb
      clear hb
      go_wp2_with fail
      go_loopw [15] (fun i wr => ∃ (j : Nat) (G : Nat → Prop), j ≤ 3 ∧ i = .int .i64 j ∧ BksAt G wr pb sb { ch0 0 with p := outTo j, s := stkSt j } (2004 * j) ∧ BkOpen wr rb nb pb sb ∧ BkApart rb w wr rb nb pb G) (fun i _ => 3 - (intOf i).toNat)
      case atStart => exact ⟨0, G, by omega, rfl, HB.out, ho, ha⟩
      case round =>
        obtain ⟨j, G2, hj, rfl, hb2, ho2, ha2⟩ := hrel
        clear HB ho ha
        by_cases hlt : j < 3
        · have e1 := ho2.box.e1
          have Lr := hL.below (hrb.symm ▸ ha2.mine.below)
          have jl : (j : Int) < 3 := by omega
          have P := ps_register G2 sb (stkSt j) (stkSt_ok j) (2004 * j) (by omega) j A wr Lr.stk hb2.s
          have HB := hide hb2
          clear hb2
          go_wp2_with fail
          refine P.mono ?_
          rintro e w5 ⟨ev, G5, rfl, _, hs5, M5⟩
          have b5 := HB.out.stakes hs5 M5
          have m5 := HB.out.stakesMoved M5
          have o5 := ho2.keptP m5.kept ha2.n1 ha2.n2
          have a5 := ha2.next m5
          have L5 := hL.below (hrb.symm ▸ a5.mine.below)
          have f0 := o5.box.e0
          have f1 := o5.box.e1
          have S := bks_stake G5 pb sb { ch0 0 with p := outTo j, s := (stkSt j).reg j } (outTo_ok j) ((stkSt_ok j).reg j) (2004 * j + 4) (by omega) j j 1000 (small_wf _ (by omega) (by omega)) A w5 L5 b5
          rw [stake0_fits j hlt _ rfl rfl] at S
          clear P HB hs5 M5 b5 e1 ho2 ha2 m5
          go_wp2_with fail
          refine S.mono ?_
          rintro e w6 ⟨ev6, G6, rfl, _, b6, M6⟩
          have o6 := o5.keptP M6.kept a5.n1 a5.n2
          have a6 := a5.next M6
          have B6 := hide b6
          clear S b6 f0 f1 o5 a5 M6
          go_wp2_with fail
          go_roundw
          case rel => exact ⟨j + 1, G6, by omega, by go_num, B6.out.more (by omega), o6, a6⟩
          case measure => simp [intOf]; omega
        · obtain rfl : 3 = j := by omega
          clear hlt hj
          have jl : ¬ ((3 : Nat) : Int) < 3 := by omega
          have e0 := ho2.box.e0
          have e1 := ho2.box.e1
          obtain ⟨v0, c0⟩ := ho2.r0
          obtain ⟨v1, c1⟩ := ho2.r1
          have f0 := ho2.f 0
          have f1 := ho2.f 1
          have ne : (⟨rb, 1, none⟩ : Addr) ≠ ⟨rb, 0, none⟩ := fun z => absurd (show 1 = 0 from congrArg Addr.off z) (by decide)
          have q0 : ((wr.setCell ⟨rb, 0, none⟩ (.pointer (some ⟨pb, 0, none⟩))).setCell ⟨rb, 1, none⟩ (.pointer (some ⟨sb, 0, none⟩))).cell? ⟨rb, 0, none⟩ = some (.pointer (some ⟨pb, 0, none⟩)) := by
            rw [World.cell?_setCell_other _ _ _ _ ne]
            exact World.cell?_setCell_same _ _ _ c0
          have q1 : ((wr.setCell ⟨rb, 0, none⟩ (.pointer (some ⟨pb, 0, none⟩))).setCell ⟨rb, 1, none⟩ (.pointer (some ⟨sb, 0, none⟩))).cell? ⟨rb, 1, none⟩ = some (.pointer (some ⟨sb, 0, none⟩)) := by
            refine World.cell?_setCell_same _ _ _ (?_ : _ = some v1)
            rw [World.cell?_setCell_other _ _ _ _ ne.symm]
            exact c1
          have K5 : KeptP (fun k => k = rb) wr ((wr.setCell ⟨rb, 0, none⟩ (.pointer (some ⟨pb, 0, none⟩))).setCell ⟨rb, 1, none⟩ (.pointer (some ⟨sb, 0, none⟩))) := ((KeptP.refl (fun k => k = rb) wr).setCell (p := ⟨rb, 0, none⟩) rfl _).setCell (p := ⟨rb, 1, none⟩) rfl _
          have b5 := hb2.keptP K5 fun k z y => by rw [z] at y; exact ha2.n2 y
          have BF : Below rb w ((wr.setCell ⟨rb, 0, none⟩ (.pointer (some ⟨pb, 0, none⟩))).setCell ⟨rb, 1, none⟩ (.pointer (some ⟨sb, 0, none⟩))) := (ha2.mine.below.setCell (p := ⟨rb, 0, none⟩) (Nat.le_refl _) _).setCell (p := ⟨rb, 1, none⟩) (Nat.le_refl _) _
          have HB := hide b5
          have HF := hide BF
          clear hb2 b5 K5 BF
          go_wp2_with fail
          refine bodyPost_ret (v := .agg #[.pointer (some ⟨pb, 0, none⟩), .pointer (some ⟨sb, 0, none⟩)]) ?_ rfl ⟨pb, sb, rfl, G2, HB.out, ha2.mine.f, HF.out⟩
          have hr : Tryz.f39.results = #[.cell 0 70] := rfl
          simp only [results, hr]
          go_simp
end Go.Proofs.YtaihcceobnfmhaaGreatDoor

namespace Go.Proofs.YtaihcceobnfmhaaGreatDoor
open Go.RowKit

open Classical in
/-- tags of parts that are all new -/
noncomputable def tag0 (cb pb m : Nat) (G H : Nat → Prop) (k : Nat) : Nat := if k = cb then 1 else if k = pb then 2 else if G k then 3 else if H k then 4 else if k = m then 6 else 0
/-- a chain's parts, all new -/
theorem pcb_first {B : Nat} {w : World} {cb pb sb kb seed g m cap : Nat} {G H : Nat → Prop} {Wn : Nat → Int} (hG : ∀ k, G k → B ≤ k ∧ k ≠ cb ∧ k ≠ pb) (hH : ∀ k, H k → B ≤ k ∧ k ≠ cb ∧ k ≠ pb ∧ ¬ G k) (hm : m ≠ cb ∧ m ≠ pb ∧ ¬ G m ∧ ¬ H m ∧ B ≤ m ∧ m < w.heap.size) (n1 : cb ≠ pb) (b1 : B ≤ cb) (b2 : B ≤ pb) (hB : B ≤ w.heap.size) (hv : ∀ k, IsVar k → k < B)
    (c0 : w.cell? ⟨cb, 0, none⟩ = some (.pointer (some ⟨pb, 0, none⟩))) (c1 : w.cell? ⟨cb, 1, none⟩ = some (.pointer (some ⟨sb, 0, none⟩))) (c2 : w.cell? ⟨cb, 2, none⟩ = some (.pointer (some ⟨kb, 0, none⟩))) (c3 : w.cell? ⟨cb, 3, none⟩ = some (.int .u64 seed))
    (c4 : w.cell? ⟨cb, 4, none⟩ = some (.int .i64 0)) (c5 : w.cell? ⟨cb, 5, none⟩ = some (.int .i64 0)) (c6 : w.cell? ⟨cb, 6, none⟩ = some (.int .i64 0)) (c7 : w.cell? ⟨cb, 7, none⟩ = some (.slice (some ⟨m, 0, none⟩) 3 cap)) (c8 : w.cell? ⟨cb, 8, none⟩ = some (.slice (some ⟨m, 0, none⟩) 3 cap)) (c9 : w.cell? ⟨cb, 9, none⟩ = some (.slice (some ⟨m, 0, none⟩) 3 cap)) (f : ∀ i, w.frozen? ⟨cb, i, none⟩ = false)
    (p : Pu) (s : Sk) (hp : PurAt w pb p) (hs : PSk G w sb s g) (hc : PCt H w kb ⟨[], 0⟩ g) (I : Ints w m 0 3 Wn) : ∃ F, PCb sb F w cb ⟨p, s, ⟨[], 0⟩, seed, 0, 0, 0, [Wn, Wn, Wn]⟩ g ∧ ∀ k, F k → B ≤ k := by
  have t3 : (fun k => tag0 cb pb m G H k = 3) = G := funext fun k => propext ⟨fun e => by
    unfold tag0 at e
    repeat' split at e
    all_goals (first | assumption | (cases e)), fun z => by
    obtain ⟨_, a, b⟩ := hG k z
    unfold tag0
    rw [if_neg a, if_neg b, if_pos z]⟩
  have t4 : (fun k => tag0 cb pb m G H k = 4) = H := funext fun k => propext ⟨fun e => by
    unfold tag0 at e
    repeat' split at e
    all_goals (first | assumption | (cases e)), fun z => by
    obtain ⟨_, a, b, c⟩ := hH k z
    unfold tag0
    rw [if_neg a, if_neg b, if_neg c, if_pos z]⟩
  have nz : ∀ k, tag0 cb pb m G H k ≠ 0 → k = cb ∨ k = pb ∨ G k ∨ H k ∨ k = m := fun k e => by
    unfold tag0 at e
    repeat' split at e
    all_goals first | (exact absurd rfl e) | (simp only [*, true_or, or_true])
  have lo : ∀ k, tag0 cb pb m G H k ≠ 0 → B ≤ k := fun k e => by
    rcases nz k e with z | z | z | z | z
    · omega
    · omega
    · exact (hG k z).1
    · exact (hH k z).1
    · rw [z]; exact hm.2.2.2.2.1
  refine ⟨fun k => tag0 cb pb m G H k ≠ 0, ⟨tag0 cb pb m G H, pb, kb, fun _ => .slice (some ⟨m, 0, none⟩) 3 cap, fun _ => Iff.rfl, ?_⟩, lo⟩
  exact { c0 := c0, c1 := c1, c2 := c2, c3 := c3, c4 := c4, c5 := c5, c6 := c6, c7 := c7, c8 := c8, c9 := c9, f := f, p := hp
          s := by rw [t3]; exact hs
          c := by rw [t4]; exact hc
          pics := ⟨fun i W hi hW => by
            have hW : [Wn, Wn, Wn][i]? = some W := hW
            have e : W = Wn := by
              have : i = 0 ∨ i = 1 ∨ i = 2 := by omega
              rcases this with rfl | rfl | rfl <;> (cases hW; rfl)
            refine ⟨m, cap, rfl, ?_, e ▸ I⟩
            unfold tag0
            rw [if_neg hm.1, if_neg hm.2.1, if_neg hm.2.2.1, if_neg hm.2.2.2.1, if_pos rfl]⟩
          tc := by unfold tag0; rw [if_pos rfl]
          tp := by unfold tag0; rw [if_neg n1.symm, if_pos rfl]
          lt := fun k e => by
            rcases nz k e with z | z | z | z | z
            · rw [z]; exact cell_lt c0
            · rw [z]; exact hp.lt
            · exact hs.lt k z
            · exact hc.lt k z
            · rw [z]; exact hm.2.2.2.2.2
          vin := fun k z => Nat.lt_of_lt_of_le (hv k z) hB
          vs := fun k e z => by have := lo k e; have := hv k z; omega }
/-- the first pictures are laid -/
def picsTo (w : World) (cb : Nat) (v : Value) : Nat → World
  | 0 => w
  | j + 1 => (picsTo w cb v j).setCell ⟨cb, 7 + j, none⟩ v
theorem picsTo_other {w : World} {cb : Nat} {v : Value} (a : Addr) : ∀ j, (∀ i, i < j → (⟨cb, 7 + i, none⟩ : Addr) ≠ a) → (picsTo w cb v j).cell? a = w.cell? a
  | 0, _ => rfl
  | j + 1, h => by
    show ((picsTo w cb v j).setCell ⟨cb, 7 + j, none⟩ v).cell? a = _
    rw [World.cell?_setCell_other _ _ _ _ (h j (by omega))]
    exact picsTo_other a j fun i hi => h i (by omega)
theorem picsTo_frozen {w : World} {cb : Nat} {v : Value} (a : Addr) : ∀ j, (picsTo w cb v j).frozen? a = w.frozen? a
  | 0 => rfl
  | j + 1 => by
    show ((picsTo w cb v j).setCell ⟨cb, 7 + j, none⟩ v).frozen? a = _
    rw [World.frozen?_setCell]
    exact picsTo_frozen a j
theorem picsTo_kept {w : World} {cb : Nat} {v : Value} : ∀ j, KeptP (fun k => k = cb) w (picsTo w cb v j)
  | 0 => KeptP.refl _ _
  | j + 1 => (picsTo_kept j).setCell (p := ⟨cb, 7 + j, none⟩) rfl _
theorem picsTo_in {w : World} {cb : Nat} {v u : Value} : ∀ j i, i < j → (∀ i, i < j → w.cell? ⟨cb, 7 + i, none⟩ = some u) → (picsTo w cb v j).cell? ⟨cb, 7 + i, none⟩ = some v
  | j + 1, i, hi, h => by
    show ((picsTo w cb v j).setCell ⟨cb, 7 + j, none⟩ v).cell? ⟨cb, 7 + i, none⟩ = _
    by_cases e : i = j
    · subst e
      refine World.cell?_setCell_same _ _ _ (?_ : _ = some u)
      rw [picsTo_other _ i fun k hk z => absurd (show 7 + k = 7 + i from congrArg Addr.off z) (by omega)]
      exact h i (by omega)
    · rw [World.cell?_setCell_other _ _ _ _ (fun z => absurd (show 7 + j = 7 + i from congrArg Addr.off z) (by omega))]
      exact picsTo_in j i (by omega) fun k hk => h k (by omega)
set_option maxRecDepth 100000 in
set_option maxHeartbeats 4000000 in
theorem pcb_new (seed : Nat) (_hs : seed < W64) (A : Nat → Addr) (w : World) (hL : ChLaid8 w A) :
    Calls Tryz.prog 10 #[.int .u64 seed] w fun e w' => ∃ cb F sb, e = .returned (.pointer (some ⟨cb, 0, none⟩)) ∧ PCb sb F w' cb (chNew seed) 10000 ∧ (∀ k, F k → w.heap.size ≤ k) ∧ Below w.heap.size w w' := by
  go_enter Tryz.func10, Tryz.ntmps10
  go_wp2_with fail
  refine (bks_open A w hL).mono ?_
  rintro e w1 ⟨pb, sb, G, rfl, hb1, hf1, hB1⟩
  have HB1 := hide hb1
  clear hb1
  go_wp2_with fail
  refine (pc_new w1).mono ?_
  rintro e w2 ⟨kb, H, rfl, hc2, hH, hB2⟩
  have HC2 := hide hc2
  clear hc2
  have A3 : Below w2.heap.size w2 (w2.alloc (.cells #[.pointer (some ⟨pb, 0, none⟩), .pointer (some ⟨sb, 0, none⟩), .pointer (some ⟨kb, 0, none⟩), .int .u64 seed, .int .i64 0, .int .i64 0, .int .i64 0, .slice none 0 0, .slice none 0 0, .slice none 0 0] 76)) := (Below.refl _ _).alloc (Nat.le_refl _) _
  have k0 : (w2.alloc (.cells #[.pointer (some ⟨pb, 0, none⟩), .pointer (some ⟨sb, 0, none⟩), .pointer (some ⟨kb, 0, none⟩), .int .u64 seed, .int .i64 0, .int .i64 0, .int .i64 0, .slice none 0 0, .slice none 0 0, .slice none 0 0] 76)).cell? ⟨w2.heap.size, 0, none⟩ = _ := cell_new _ _ _ _ _ _ rfl rfl
  have k1 : (w2.alloc (.cells #[.pointer (some ⟨pb, 0, none⟩), .pointer (some ⟨sb, 0, none⟩), .pointer (some ⟨kb, 0, none⟩), .int .u64 seed, .int .i64 0, .int .i64 0, .int .i64 0, .slice none 0 0, .slice none 0 0, .slice none 0 0] 76)).cell? ⟨w2.heap.size, 1, none⟩ = some (.pointer (some ⟨sb, 0, none⟩)) := cell_new _ _ _ _ _ _ rfl rfl
  have k2 : (w2.alloc (.cells #[.pointer (some ⟨pb, 0, none⟩), .pointer (some ⟨sb, 0, none⟩), .pointer (some ⟨kb, 0, none⟩), .int .u64 seed, .int .i64 0, .int .i64 0, .int .i64 0, .slice none 0 0, .slice none 0 0, .slice none 0 0] 76)).cell? ⟨w2.heap.size, 2, none⟩ = _ := cell_new _ _ _ _ _ _ rfl rfl
  have k3 : (w2.alloc (.cells #[.pointer (some ⟨pb, 0, none⟩), .pointer (some ⟨sb, 0, none⟩), .pointer (some ⟨kb, 0, none⟩), .int .u64 seed, .int .i64 0, .int .i64 0, .int .i64 0, .slice none 0 0, .slice none 0 0, .slice none 0 0] 76)).cell? ⟨w2.heap.size, 3, none⟩ = _ := cell_new _ _ _ _ _ _ rfl rfl
  have k4 : (w2.alloc (.cells #[.pointer (some ⟨pb, 0, none⟩), .pointer (some ⟨sb, 0, none⟩), .pointer (some ⟨kb, 0, none⟩), .int .u64 seed, .int .i64 0, .int .i64 0, .int .i64 0, .slice none 0 0, .slice none 0 0, .slice none 0 0] 76)).cell? ⟨w2.heap.size, 4, none⟩ = _ := cell_new _ _ _ _ _ _ rfl rfl
  have k5 : (w2.alloc (.cells #[.pointer (some ⟨pb, 0, none⟩), .pointer (some ⟨sb, 0, none⟩), .pointer (some ⟨kb, 0, none⟩), .int .u64 seed, .int .i64 0, .int .i64 0, .int .i64 0, .slice none 0 0, .slice none 0 0, .slice none 0 0] 76)).cell? ⟨w2.heap.size, 5, none⟩ = _ := cell_new _ _ _ _ _ _ rfl rfl
  have k6 : (w2.alloc (.cells #[.pointer (some ⟨pb, 0, none⟩), .pointer (some ⟨sb, 0, none⟩), .pointer (some ⟨kb, 0, none⟩), .int .u64 seed, .int .i64 0, .int .i64 0, .int .i64 0, .slice none 0 0, .slice none 0 0, .slice none 0 0] 76)).cell? ⟨w2.heap.size, 6, none⟩ = _ := cell_new _ _ _ _ _ _ rfl rfl
  have kz : ∀ i, i < 3 → (w2.alloc (.cells #[.pointer (some ⟨pb, 0, none⟩), .pointer (some ⟨sb, 0, none⟩), .pointer (some ⟨kb, 0, none⟩), .int .u64 seed, .int .i64 0, .int .i64 0, .int .i64 0, .slice none 0 0, .slice none 0 0, .slice none 0 0] 76)).cell? ⟨w2.heap.size, 7 + i, none⟩ = some (.slice none 0 0) := fun i hi => by
    have : i = 0 ∨ i = 1 ∨ i = 2 := by omega
    rcases this with rfl | rfl | rfl <;> exact cell_new _ _ _ _ _ _ rfl rfl
  have kf : ∀ i, (w2.alloc (.cells #[.pointer (some ⟨pb, 0, none⟩), .pointer (some ⟨sb, 0, none⟩), .pointer (some ⟨kb, 0, none⟩), .int .u64 seed, .int .i64 0, .int .i64 0, .int .i64 0, .slice none 0 0, .slice none 0 0, .slice none 0 0] 76)).frozen? ⟨w2.heap.size, i, none⟩ = false := fun i => World.frozen?_alloc_at _ _ _ _ rfl
  have b3 := (HB1.out.below hB2).below A3
  have c3 := HC2.out.keptP (KeptP.of_below (F := fun _ => False) A3) fun _ z => z.elim
  have l1 := HB1.out.lt
  have l2 := HC2.out.lt
  have P := pr_picture G sb stakes0 stakes0_ok 6012 _ b3.s
  have Q0 := hide k0
  have Q2 := hide k2
  have Q3 := hide k3
  have Q4 := hide k4
  have Q5 := hide k5
  have Q6 := hide k6
  have B3 := hide b3
  have C3 := hide c3
  have VI : Hid (∀ k, IsVar k → k < w.heap.size) := hL.vin
  clear k0 k2 k3 k4 k5 k6 b3 c3 HB1 HC2 hL
  go_wp2_with fail
  have y1 := hB1.size
  have y2 := hB2.size
  have y3 := A3.size
  have BW : Below w.heap.size w (w2.alloc (.cells #[.pointer (some ⟨pb, 0, none⟩), .pointer (some ⟨sb, 0, none⟩), .pointer (some ⟨kb, 0, none⟩), .int .u64 seed, .int .i64 0, .int .i64 0, .int .i64 0, .slice none 0 0, .slice none 0 0, .slice none 0 0] 76)) := (hB1.trans (hB2.mono y1)).trans (A3.mono (by omega))
  have lc : w2.heap.size < (w2.alloc (.cells #[.pointer (some ⟨pb, 0, none⟩), .pointer (some ⟨sb, 0, none⟩), .pointer (some ⟨kb, 0, none⟩), .int .u64 seed, .int .i64 0, .int .i64 0, .int .i64 0, .slice none 0 0, .slice none 0 0, .slice none 0 0] 76)).heap.size := cell_lt k1
  clear hB1 hB2 A3
  generalize hcb : w2.heap.size = cb at *
  generalize (w2.alloc (.cells #[.pointer (some ⟨pb, 0, none⟩), .pointer (some ⟨sb, 0, none⟩), .pointer (some ⟨kb, 0, none⟩), .int .u64 seed, .int .i64 0, .int .i64 0, .int .i64 0, .slice none 0 0, .slice none 0 0, .slice none 0 0] 76)) = w3 at *
  refine P.mono ?_
  rintro e w4 ⟨m, cap, rfl, ⟨hm, hm1⟩, I, hB4⟩
  have y4 := hB4.size
  have B4 : Below w.heap.size w w4 := BW.trans (hB4.mono (by omega))
  have b4 := B3.out.below hB4
  have c4 := C3.out.keptP (KeptP.of_below (F := fun _ => False) hB4) fun _ z => z.elim
  have z4 : ∀ i, i < 3 → w4.cell? ⟨cb, 7 + i, none⟩ = some (.slice none 0 0) := fun i hi => was_cellP hB4 (kz i hi)
  have f4 : ∀ i, w4.frozen? ⟨cb, i, none⟩ = false := fun i => by rw [hB4.frozen (p := ⟨cb, i, none⟩) lc]; exact kf i
  have R0 := hide (was_cellP hB4 Q0.out)
  have R1 := hide (was_cellP hB4 k1)
  have R2 := hide (was_cellP hB4 Q2.out)
  have R3 := hide (was_cellP hB4 Q3.out)
  have R4 := hide (was_cellP hB4 Q4.out)
  have R5 := hide (was_cellP hB4 Q5.out)
  have R6 := hide (was_cellP hB4 Q6.out)
  have HB4 := hide b4
  have HC4 := hide c4
  clear P B3 C3 Q0 Q2 Q3 Q4 Q5 Q6 k1 kz kf BW hB4 b4 c4
  go_wp2_with fail
  go_loopw [17] (fun i wr => ∃ j : Nat, j ≤ 3 ∧ i = .int .i64 j ∧ wr = picsTo w4 cb (.slice (some ⟨m, 0, none⟩) 3 cap) j) (fun i _ => 3 - (intOf i).toNat)
  case atStart => exact ⟨0, by omega, rfl, rfl⟩
  case round =>
    obtain ⟨j, hj, rfl, hwr⟩ := hrel
    by_cases hlt : j < 3
    · have jl : (j : Int) < 3 := by omega
      have cj : wr.cell? ⟨cb, 7 + j, none⟩ = some (.slice none 0 0) := by
        rw [hwr, picsTo_other _ j fun k hk z => absurd (show 7 + k = 7 + j from congrArg Addr.off z) (by omega)]
        exact z4 j hlt
      have fj : wr.frozen? ⟨cb, 7 + j, none⟩ = false := by rw [hwr, picsTo_frozen]; exact f4 _
      have HW := hide hwr
      clear hwr z4 f4
      go_wp2_with fail
      go_roundw
      case rel => exact ⟨j + 1, by omega, by go_num, by rw [HW.out]; rfl⟩
      case measure => simp [intOf]; omega
    · obtain rfl : 3 = j := by omega
      clear hlt hj
      have jl : ¬ ((3 : Nat) : Int) < 3 := by omega
      have HW := hide hwr
      clear hwr
      go_wp2_with fail
      go_ret
      have hwr := HW.out
      have K := picsTo_kept (w := w4) (cb := cb) (v := .slice (some ⟨m, 0, none⟩) 3 cap) 3
      rw [← hwr] at K
      have old : ∀ {i : Nat} {u : Value}, i < 7 → w4.cell? ⟨cb, i, none⟩ = some u → wr.cell? ⟨cb, i, none⟩ = some u := fun {i u} hi e => by
        rw [hwr, picsTo_other _ 3 fun k hk z => absurd (show 7 + k = i from congrArg Addr.off z) (by omega)]
        exact e
      have new : ∀ i, i < 3 → wr.cell? ⟨cb, 7 + i, none⟩ = some (.slice (some ⟨m, 0, none⟩) 3 cap) := fun i hi => by
        rw [hwr]
        exact picsTo_in 3 i hi z4
      have own : ∀ k, bksOwn pb G k → w.heap.size ≤ k ∧ k < w1.heap.size := fun k hk => ⟨hf1 k hk, l1 k hk⟩
      have b5 := HB4.out.keptP K fun k z y => by have := own k y; omega
      have c5 := HC4.out.keptP K fun k z y => by have := l2 k y; omega
      have BF : Below w.heap.size w wr := B4.trans (K.below (B := w.heap.size) (by omega) fun k z => by omega)
      obtain ⟨F, hF, lo⟩ := pcb_first (B := w.heap.size) (w := wr) (cb := cb) (pb := pb) (sb := sb) (kb := kb) (seed := seed) (g := 6012) (m := m) (cap := cap) (G := G) (H := H) (Wn := stakes0.pic)
        (fun k q => by have := own k (.inr q); exact ⟨by omega, by omega, fun z => b5.np (z ▸ q)⟩)
        (fun k q => by have := hH k q; have := l2 k q; have := own pb (.inl rfl); exact ⟨by omega, by omega, by omega, fun z => by have := own k (.inr z); omega⟩)
        ⟨by omega, fun z => by have := own pb (.inl rfl); omega, fun z => by have := own m (.inr z); omega, fun z => by have := l2 m z; omega, by omega, by have := K.size; omega⟩
        (fun z => by have := own pb (.inl rfl); omega) (by omega) (own pb (.inl rfl)).1 BF.size VI.out
        (old (by omega) R0.out) (old (by omega) R1.out) (old (by omega) R2.out) (old (by omega) R3.out) (old (by omega) R4.out) (old (by omega) R5.out) (old (by omega) R6.out) (new 0 (by omega)) (new 1 (by omega)) (new 2 (by omega)) (fun i => by rw [hwr, picsTo_frozen]; exact f4 i)
        (outTo 3) (stkSt 3) b5.p b5.s (c5.more (by omega)) (fun i hi => K.old (I i hi) (by show ¬ m = cb; omega))
      exact ⟨cb, rfl, F, ⟨sb, hF.more (by omega)⟩, lo, BF⟩
end Go.Proofs.YtaihcceobnfmhaaGreatDoor

namespace Go.Proofs.YtaihcceobnfmhaaGreatDoor
open Go.RowKit

def PCh (F : Nat → Prop) (w : World) (cb : Nat) (C : Ch) (g : Nat) : Prop := ∃ sb, PCb sb F w cb C g
def ChEnd (F : Nat → Prop) (cb g : Nat) (C' : Ch) (c : Int) (A : Nat → Addr) (w : World) (e : Ending) (w' : World) : Prop := ∃ ev F', e = .returned ev ∧ ErrIs A ev c ∧ PCh F' w' cb C' (g + 2000) ∧ Moved F F' w w'
def ChEndN (F : Nat → Prop) (cb g : Nat) (C' : Ch) (n c : Int) (A : Nat → Addr) (w : World) (e : Ending) (w' : World) : Prop := ∃ ev F', e = .returned (.tuple #[.int .i64 n, ev]) ∧ ErrIs A ev c ∧ PCh F' w' cb C' (g + 2000) ∧ Moved F F' w w'
theorem CbEnd.ch {sb : Nat} {F : Nat → Prop} {cb g : Nat} {C' : Ch} {c : Int} {A : Nat → Addr} {w : World} {e : Ending} {w' : World} (h : CbEnd sb F cb g C' c A w e w') : ChEnd F cb g C' c A w e w' := by
  obtain ⟨ev, F', he, hE, hP, hM⟩ := h
  exact ⟨ev, F', he, hE, ⟨sb, hP⟩, hM⟩
theorem CbEndN.ch {sb : Nat} {F : Nat → Prop} {cb g : Nat} {C' : Ch} {n c : Int} {A : Nat → Addr} {w : World} {e : Ending} {w' : World} (h : CbEndN sb F cb g C' n c A w e w') : ChEndN F cb g C' n c A w e w' := by
  obtain ⟨ev, F', he, hE, hP, hM⟩ := h
  exact ⟨ev, F', he, hE, ⟨sb, hP⟩, hM⟩
section
variable {F : Nat → Prop} {w w' : World} {cb g : Nat} {C : Ch}
theorem PCh.keptP {G : Nat → Prop} (h : PCh F w cb C g) (hK : KeptP G w w') (hF : ∀ k, G k → ¬ F k) : PCh F w' cb C g := h.imp fun _ z => z.keptP hK hF
theorem PCh.lt (h : PCh F w cb C g) (k : Nat) (hk : F k) : k < w.heap.size := by
  obtain ⟨_, h⟩ := h
  exact h.lt k hk
theorem PCh.laid {A : Nat → Addr} (h : PCh F w cb C g) (hL : ChLaid8 w A) (hK : KeptP F w w') : ChLaid8 w' A := by
  obtain ⟨_, h⟩ := h
  exact h.laid hL hK
theorem PCh.below (h : PCh F w cb C g) (hB : Below w.heap.size w w') : PCh F w' cb C g := h.imp fun _ z => z.below hB
theorem PCh.more {g' : Nat} (h : PCh F w cb C g) (hg : g ≤ g') : PCh F w cb C g' := h.imp fun _ z => z.more hg
theorem PCh.stays (_ : PCh F w cb C g) (hB : Below w.heap.size w w') : Moved F F w w' := ⟨KeptP.of_below hB, fun _ _ z => z⟩
end
theorem pch_cycle (F : Nat → Prop) (cb : Nat) (C : Ch) (g : Nat) (w : World) (h : PCh F w cb C g) :
    Calls Tryz.prog 19 #[.pointer (some ⟨cb, 0, none⟩)] w fun e w' => e = .returned (.int .i64 C.cyc) ∧ Below w.heap.size w w' := by
  obtain ⟨sb, h⟩ := h
  exact pcb_cycle F cb C g w h
theorem pch_level (F : Nat → Prop) (cb : Nat) (C : Ch) (g : Nat) (w : World) (h : PCh F w cb C g) :
    Calls Tryz.prog 15 #[.pointer (some ⟨cb, 0, none⟩)] w fun e w' => e = .returned (.int .i64 C.lev) ∧ Below w.heap.size w w' := by
  obtain ⟨sb, h⟩ := h
  exact pcb_level F cb C g w h
theorem pch_bonus (F : Nat → Prop) (cb : Nat) (C : Ch) (g : Nat) (w : World) (h : PCh F w cb C g) :
    Calls Tryz.prog 25 #[.pointer (some ⟨cb, 0, none⟩)] w fun e w' => e = .returned (.int .i64 C.bon) ∧ Below w.heap.size w w' := by
  obtain ⟨sb, h⟩ := h
  exact pcb_bonus F cb C g w h
theorem pch_supply (F : Nat → Prop) (cb : Nat) (C : Ch) (g : Nat) (w : World) (h : PCh F w cb C g) :
    Calls Tryz.prog 18 #[.pointer (some ⟨cb, 0, none⟩)] w fun e w' => e = .returned (.int .i64 C.p.S) ∧ Below w.heap.size w w' := by
  obtain ⟨sb, h⟩ := h
  exact pcb_supply F cb C g w h
theorem pch_has (F : Nat → Prop) (cb : Nat) (C : Ch) (hC : C.Ok) (g : Nat) (o : Int) (w : World) (h : PCh F w cb C g) :
    Calls Tryz.prog 22 #[.pointer (some ⟨cb, 0, none⟩), .int .i64 o] w fun e w' => e = .returned (.int .i64 (C.p.s o)) ∧ Below w.heap.size w w' := by
  obtain ⟨sb, h⟩ := h
  exact pcb_has F cb C hC g o w h
theorem pch_stakes (F : Nat → Prop) (cb : Nat) (C : Ch) (g : Nat) (w : World) (h : PCh F w cb C g) :
    Calls Tryz.prog 16 #[.pointer (some ⟨cb, 0, none⟩)] w fun e w' => ∃ sb Fs, e = .returned (.pointer (some ⟨sb, 0, none⟩)) ∧ PSk Fs w' sb C.s g ∧ (∀ k, Fs k → F k) ∧ Below w.heap.size w w' := by
  obtain ⟨sb, h⟩ := h
  refine (pcb_stakes F cb C g w h).mono ?_
  rintro e w' ⟨Fs, he, r⟩
  exact ⟨sb, Fs, he, r⟩
theorem pch_turn (F : Nat → Prop) (cb : Nat) (C : Ch) (hC : C.Ok) (_hb : C.Few) (g : Nat) (r : Int) (hr : TurnOk C.cyc C.lev r) (A : Nat → Addr) (w : World) (_hL : ChLaid8 w A) (h : PCh F w cb C g) :
    Calls Tryz.prog 11 #[.pointer (some ⟨cb, 0, none⟩), .int .i64 r] w fun e w' => ∃ k, e = .returned (.tuple #[.int .i64 k, .nilIface]) ∧ Turn 3 C.pic C.seed C.cyc C.lev r k ∧ Below w.heap.size w w' := by
  obtain ⟨sb, h⟩ := h
  exact pcb_turn F cb C hC _hb g r hr A w _hL h
theorem pch_turn_bad (F : Nat → Prop) (cb : Nat) (C : Ch) (hC : C.Ok) (_hb : C.Few) (g : Nat) (r : Int) (hr : ¬ TurnOk C.cyc C.lev r) (A : Nat → Addr) (w : World) (hL : ChLaid8 w A) (h : PCh F w cb C g) :
    Calls Tryz.prog 11 #[.pointer (some ⟨cb, 0, none⟩), .int .i64 r] w fun e w' => ∃ ev, e = .returned (.tuple #[.int .i64 0, ev]) ∧ ErrIs A ev 2 ∧ Below w.heap.size w w' := by
  obtain ⟨sb, h⟩ := h
  exact pcb_turn_bad F cb C hC _hb g r hr A w hL h
theorem pch_pay (F : Nat → Prop) (cb : Nat) (C : Ch) (hC : C.Ok) (_hb : C.Few) (g : Nat) (_hg : g ≤ 850000) (o t n : Int) (_wo : (Lit.int .i64 o).wf = true) (_wt : (Lit.int .i64 t).wf = true) (A : Nat → Addr) (w : World) (hL : ChLaid8 w A) (h : PCh F w cb C g) :
    Calls Tryz.prog 53 #[.pointer (some ⟨cb, 0, none⟩), .int .i64 o, .int .i64 t, .int .i64 n] w (ChEnd F cb g (C.pay o t n) (C.p.moveC o t n) A w) := by
  obtain ⟨sb, h⟩ := h
  exact (pcb_pay F cb C hC _hb g _hg o t n _wo _wt A w hL h).mono fun e w' q => q.ch
theorem pch_unstake (F : Nat → Prop) (cb : Nat) (C : Ch) (hC : C.Ok) (hb : C.Few) (g : Nat) (hg : g ≤ 850000) (o b n : Int) (wo : (Lit.int .i64 o).wf = true) (A : Nat → Addr) (w : World) (hL : ChLaid8 w A) (h : PCh F w cb C g) :
    Calls Tryz.prog 55 #[.pointer (some ⟨cb, 0, none⟩), .int .i64 o, .int .i64 b, .int .i64 n] w (ChEnd F cb g (C.unstake o b n) (C.s.leaveC o b n C.cyc) A w) := by
  obtain ⟨sb, h⟩ := h
  exact (pcb_unstake F cb C hC hb g hg o b n wo A w hL h).mono fun e w' q => q.ch
theorem pch_accuse (F : Nat → Prop) (cb : Nat) (C : Ch) (hC : C.Ok) (hb : C.Few) (g : Nat) (hg : g ≤ 850000) (o b y m : Int) (_wo : (Lit.int .i64 o).wf = true) (wb : (Lit.int .i64 b).wf = true) (wy : (Lit.int .i64 y).wf = true) (wm : (Lit.int .i64 m).wf = true) (A : Nat → Addr) (w : World) (hL : ChLaid w A) (h : PCh F w cb C g) :
    Calls Tryz.prog 57 #[.pointer (some ⟨cb, 0, none⟩), .int .i64 o, .agg #[.int .i64 b, .int .i64 y, .int .i64 m]] w (ChEnd F cb g (C.accuse o (b, y, m)) (C.c.accC o (b, y, m) C.cyc) A w) := by
  obtain ⟨sb, h⟩ := h
  exact (pcb_accuse F cb C hC hb g hg o b y m _wo wb wy wm A w hL h).mono fun e w' q => q.ch
theorem pch_stake (F : Nat → Prop) (cb : Nat) (C : Ch) (hC : C.Ok) (_hb : C.Few) (g : Nat) (hg : g ≤ 850000) (o b n : Int) (wo : (Lit.int .i64 o).wf = true) (A : Nat → Addr) (w : World) (hL : ChLaid8 w A) (h : PCh F w cb C g) :
    Calls Tryz.prog 54 #[.pointer (some ⟨cb, 0, none⟩), .int .i64 o, .int .i64 b, .int .i64 n] w (ChEnd F cb g (C.stake o b n) (C.stakeC o b n) A w) := by
  obtain ⟨sb, h⟩ := h
  exact (pcb_stake F cb C hC _hb g hg o b n wo A w hL h).mono fun e w' q => q.ch
theorem pch_free (F : Nat → Prop) (cb : Nat) (C : Ch) (hC : C.Ok) (hb : C.Few) (g : Nat) (hg : g ≤ 850000) (o : Int) (wo : (Lit.int .i64 o).wf = true) (A : Nat → Addr) (w : World) (hL : ChLaid8 w A) (h : PCh F w cb C g) :
    Calls Tryz.prog 56 #[.pointer (some ⟨cb, 0, none⟩), .int .i64 o] w (ChEndN F cb g (C.free o) (C.s.freeN o C.cyc) (C.s.freeC o C.cyc) A w) := by
  obtain ⟨sb, h⟩ := h
  exact (pcb_free F cb C hC hb g hg o wo A w hL h).mono fun e w' q => q.ch
theorem pch_bake_bad (F : Nat → Prop) (cb : Nat) (C : Ch) (hC : C.Ok) (hb : C.Few) (g : Nat) (b r : Int) (hr : ¬ TurnOk C.cyc C.lev r) (A : Nat → Addr) (w : World) (hL : ChLaid8 w A) (h : PCh F w cb C g) :
    Calls Tryz.prog 13 #[.pointer (some ⟨cb, 0, none⟩), .int .i64 b, .int .i64 r] w (ChEndN F cb g C 0 2 A w) := by
  obtain ⟨sb, h⟩ := h
  exact (pcb_bake_bad F cb C hC hb g b r hr A w hL h).mono fun e w' q => q.ch
theorem pch_bake_other (F : Nat → Prop) (cb : Nat) (C : Ch) (hC : C.Ok) (hb : C.Few) (g : Nat) (b r : Int) (hr : TurnOk C.cyc C.lev r) (T : ∀ k, Turn 3 C.pic C.seed C.cyc C.lev r k → k ≠ b) (A : Nat → Addr) (w : World) (hL : ChLaid8 w A) (h : PCh F w cb C g) :
    Calls Tryz.prog 13 #[.pointer (some ⟨cb, 0, none⟩), .int .i64 b, .int .i64 r] w (ChEndN F cb g C 0 9 A w) := by
  obtain ⟨sb, h⟩ := h
  exact (pcb_bake_other F cb C hC hb g b r hr T A w hL h).mono fun e w' q => q.ch
theorem pch_bake_own (F : Nat → Prop) (cb : Nat) (C : Ch) (hC : C.Ok) (hb : C.Few) (g : Nat) (hg : g ≤ 850000) (b r : Int) (hr : TurnOk C.cyc C.lev r) (T : ∀ k, Turn 3 C.pic C.seed C.cyc C.lev r k → k = b) (A : Nat → Addr) (w : World) (hL : ChLaid8 w A) (h : PCh F w cb C g) :
    Calls Tryz.prog 13 #[.pointer (some ⟨cb, 0, none⟩), .int .i64 b, .int .i64 r] w (ChEndN F cb g (C.bake b) (C.bakeN b) 0 A w) := by
  obtain ⟨sb, h⟩ := h
  exact (pcb_bake_own F cb C hC hb g hg b r hr T A w hL h).mono fun e w' q => q.ch
theorem pch_new (seed : Nat) (_hs : seed < W64) (A : Nat → Addr) (w : World) (hL : ChLaid8 w A) :
    Calls Tryz.prog 10 #[.int .u64 seed] w fun e w' => ∃ cb F, e = .returned (.pointer (some ⟨cb, 0, none⟩)) ∧ PCh F w' cb (chNew seed) 10000 ∧ (∀ k, F k → w.heap.size ≤ k) ∧ Below w.heap.size w w' := by
  refine (pcb_new seed _hs A w hL).mono ?_
  rintro e w' ⟨cb, F, sb, he, hP, r⟩
  exact ⟨cb, F, he, ⟨sb, hP⟩, r⟩
end Go.Proofs.YtaihcceobnfmhaaGreatDoor

namespace Go.Proofs.YtaihcceobnfmhaaGreatDoor
open Go.RowKit

theorem PCh.nextB {F : Nat → Prop} {w w' : World} {cb g : Nat} {C : Ch} (h : PCh F w cb C g) (k : Below w.heap.size w w') : PCh F w' cb C g := h.keptP (KeptP.of_below (F := fun _ => False) k) fun _ g => g.elim
theorem PCh.drewN {F : Nat → Prop} {w : World} {cb g : Nat} {C : Ch} (h : PCh F w cb C g) (n : Nat) : PCh F (w.drewN n) cb C g := h.nextB (below_drewN (Below.refl _ _) n)
set_option maxRecDepth 100000 in
theorem bakeTurn_yes (F : Nat → Prop) (cb : Nat) (C : Ch) (hC : C.Ok) (hb : C.Few) (g : Nat) (hg : g ≤ 850000) (r : Int) (hr : TurnOk C.cyc C.lev r) (A : Nat → Addr) (w : World) (hL : ChLaid8 w A) (h : PCh F w cb C g) :
    Calls Tryz.prog 38 #[.pointer (some ⟨cb, 0, none⟩), .int .i64 r] w fun e w' => ∃ k, e = .returned (.tuple #[.int .i64 k, .int .i64 (C.bakeN k), .nilIface]) ∧ Turn 3 C.pic C.seed C.cyc C.lev r k ∧ ∃ F', PCh F' w' cb (C.bake k) (g + 2000) ∧ Moved F F' w w' := by
  go_enter Tryz.func38, Tryz.ntmps38
  go_wp2_with fail
  refine (pch_turn F cb C hC hb g r hr A w hL h).mono ?_
  rintro e w1 ⟨k, rfl, hk, hB1⟩
  have h1 := h.nextB hB1
  go_wp2_with fail
  refine (pch_bake_own F cb C hC hb g hg k r hr (fun k' h' => h'.one hk) A w1 (hL.below hB1) h1).mono ?_
  rintro e w2 ⟨ev, F2, rfl, hE, h2, M2⟩
  obtain rfl := hE.nil rfl
  have M0 : Moved F F2 w w2 := Moved.trans (F' := F) ⟨KeptP.of_below hB1, fun _ _ g => g⟩ M2
  have HK := hide hk
  clear hk hE h1 M2
  go_wp2_with fail
  go_ret3
  exact ⟨k, rfl, HK.out, F2, h2, M0⟩
/-- the first block's reward -/
theorem chNew_rew (seed : Nat) : 0 < (chNew seed).rew ∧ (chNew seed).p.S + (chNew seed).rew ≤ 1125899906842624 := by
  have e : (chNew seed).rew = (chNew 0).rew := rfl
  have e2 : (chNew seed).p.S = 60000 := purse0_S
  rw [e, e2]
  decide
theorem stakes0_add : stakes0.addC 0 (chNew 0).rew = 0 ∧ stakes0.addC 1 (chNew 0).rew = 0 ∧ stakes0.addC 2 (chNew 0).rew = 0 := by decide
theorem chNew_pays (seed : Nat) {k : Int} (hk : Bk k) : (chNew seed).bakeN k = (chNew seed).rew := by
  have r := chNew_rew seed
  refine if_pos ⟨r.2, ?_⟩
  have h3 : k = 0 ∨ k = 1 ∨ k = 2 := by have := hk.1; have := hk.2; omega
  show stakes0.addC k (chNew 0).rew = 0
  rcases h3 with rfl | rfl | rfl
  · exact stakes0_add.1
  · exact stakes0_add.2.1
  · exact stakes0_add.2.2
theorem chNew_few (seed : Nat) : (chNew seed).Few := ⟨by show stakes0.K.length ≤ 400; decide, Nat.zero_le _, Nat.zero_le _, Nat.zero_le _⟩
/-- behind the first block -/
theorem chNew_baked (seed : Nat) (hs : seed < W64) (k : Int) : ((chNew seed).bake k).lev = 1 ∧ ((chNew seed).bake k).cyc = 0 ∧ ((chNew seed).bake k).p.S = 60000 + (chNew seed).bakeN k := by
  have p := (chNew seed).paid_same k
  have e1 : ((chNew seed).bake k).lev = 1 := by
    show ((chNew seed).paid k).stepped.lev = 1
    rw [Ch.stepped_lev, p.2.1]; rfl
  have e2 : ((chNew seed).bake k).cyc = 0 := by
    show ((chNew seed).paid k).stepped.cyc = 0
    rw [Ch.stepped_cyc (by rw [p.1, p.2.1]; show (0 : Nat) = 0 / 4; decide), p.2.1]; show (0 + 1) / 4 = 0; decide
  refine ⟨e1, e2, ?_⟩
  have b := ((chNew_ok seed hs).bake k).2.2 (by rw [e2]; rfl)
  rw [b]
  show purse0.S + _ = _
  rw [purse0_S]
theorem Turn.bk {C : Ch} (hC : C.Ok) {r k : Int} (h : Turn 3 C.pic C.seed C.cyc C.lev r k) : Bk k := by
  have t := hC.turn
  obtain ⟨j, rfl, hj, _⟩ := h.heavy t.1 t.2
  exact ⟨by omega, by omega⟩
set_option maxRecDepth 100000 in
set_option maxHeartbeats 1000000 in
theorem begun_of (A : Nat → Addr) (w : World) (hL : ChLaid8 w A) :
    Calls Tryz.prog 9 #[] w fun e w' => e = .returned (.bool true) ∧ Below w.heap.size w w' := by
  have hs : (7 : Nat) < W64 := by decide
  have ok := chNew_ok 7 hs
  have few := chNew_few 7
  have s0 : (chNew 7).p.S = 60000 := purse0_S
  have h0 : (chNew 7).p.s 0 = 9000 := purse0_has
  have PY := hide (fun k => chNew_pays 7 (k := k))
  have RW := hide (chNew_rew 7)
  have BK := hide (chNew_baked 7 hs)
  go_enter Tryz.func9, Tryz.ntmps9
  go_wp2_with fail
  refine (pch_new 7 hs A w hL).mono ?_
  rintro e w1 ⟨cb, F, rfl, h1, hF, hB1⟩
  have m1 := Mine.new hF hB1
  have tr : TurnOk ((chNew 7).cyc : Int) ((chNew 7).lev : Int) 0 := by
    show TurnOk ((0 : Nat) : Int) ((0 : Nat) : Int) 0
    decide
  have y0 : (chNew 7).cyc = 0 := rfl
  generalize chNew 7 = C at *
  have t1 : (C.p.S != 60000) = false := by simp [s0]
  have t2 : (C.p.s 0 != 9000) = false := by simp [h0]
  have t3 : ((C.cyc : Int) != 0) = false := by simp [y0]
  clear s0 h0 y0 hF hB1
  go_wp2_with fail
  refine (pch_supply F cb C _ w1 h1).mono ?_
  rintro e w2 ⟨rfl, hB2⟩
  have h2 := h1.nextB hB2
  have m2 := m1.nextB hB2
  clear h1 m1 hB2
  go_wp2_with fail
  refine (pch_has F cb C ok _ 0 w2 h2).mono ?_
  rintro e w3 ⟨rfl, hB3⟩
  have h3 := h2.nextB hB3
  have m3 := m2.nextB hB3
  clear h2 m2 hB3
  go_wp2_with fail
  refine (pch_cycle F cb C _ w3 h3).mono ?_
  rintro e w4 ⟨rfl, hB4⟩
  have h4 := h3.nextB hB4
  have m4 := m3.nextB hB4
  clear h3 m3 hB4
  go_wp2_with fail
  refine (bakeTurn_yes F cb C ok few 10000 (by omega) 0 tr A w4 (hL.below m4.below) h4).mono ?_
  rintro e w5 ⟨k, rfl, hk, F5, h5, M5⟩
  have m5 := m4.next M5
  have bk := Turn.bk ok hk
  have pk := PY.out k bk
  obtain ⟨q1, _, q3⟩ := BK.out k
  have rw0 := RW.out.1
  rw [← pk] at rw0
  have l1 := RW.out.2
  rw [← pk] at l1
  have sp := ok.pos
  obtain ⟨k0, k3⟩ := bk
  have Q1 := hide q1
  have Q3 := hide q3
  have x1 : ((((C.bake k).lev : Nat) : Int) == 1) = true := by rw [q1]; decide
  have x2 : ((C.bake k).p.S == 60000 + C.bakeN k) = true := by rw [q3]; simp
  clear pk q1 q3 M5 h4 m4 hk t1 t2 t3 tr
  go_wp2_with fail
  refine (pch_level F5 cb _ _ w5 h5).mono ?_
  rintro e w6 ⟨rfl, hB6⟩
  have h6 := h5.nextB hB6
  have m6 := m5.nextB hB6
  clear h5 m5 hB6
  go_wp2_with fail
  refine (pch_supply F5 cb _ _ w6 h6).mono ?_
  rintro e w7 ⟨rfl, hB7⟩
  have m7 := m6.nextB hB7
  clear h6 m6 hB7
  generalize C.bakeN k = bn at *
  go_wp2_with fail
  go_ret
  exact ⟨rfl, m7.below⟩
end Go.Proofs.YtaihcceobnfmhaaGreatDoor
