/-
  The program's chain by its contracts: a block is baked.
  The program's books by their contracts: new ones.
-/
import Derived.Test.YtjodnacodlhamacDoorProgChainEnd2
namespace Go.Proofs.YtjodnacodlhamacDoor
open Go.RowKit

theorem PCh.laid {F : Nat → Prop} {w w' : World} {cb g : Nat} {C : Ch} {A : Nat → Addr} (h : PCh F w cb C g) (hL : ChLaid8 w A) (hK : KeptP F w w') : ChLaid8 w' A := by
  obtain ⟨_, _, _, _, _, hf, h⟩ := h
  exact h.laid hL hf hK
theorem PCh.below {F : Nat → Prop} {w w' : World} {cb g : Nat} {C : Ch} (h : PCh F w cb C g) (hB : Below w.heap.size w w') : PCh F w' cb C g := h.keptP (KeptP.of_below (F := fun _ => False) hB) fun _ z => z.elim
theorem PCh.more {F : Nat → Prop} {w : World} {cb g g' : Nat} {C : Ch} (h : PCh F w cb C g) (hg : g ≤ g') : PCh F w cb C g' := by
  obtain ⟨tag, pb, sb, kb, xs, hf, h⟩ := h
  exact ⟨tag, pb, sb, kb, xs, hf, h.more hg⟩
theorem PCh.stays {F : Nat → Prop} {w w' : World} {cb g : Nat} {C : Ch} (_ : PCh F w cb C g) (hB : Below w.heap.size w w') : Moved F F w w' := ⟨KeptP.of_below hB, fun _ _ z => z⟩

set_option maxRecDepth 100000 in
set_option maxHeartbeats 1000000 in
theorem pch_bake_bad (F : Nat → Prop) (cb : Nat) (C : Ch) (hC : C.Ok) (hb : C.Few) (g : Nat) (b r : Int) (hr : ¬ TurnOk C.cyc C.lev r) (A : Nat → Addr) (w : World) (hL : ChLaid8 w A) (h : PCh F w cb C g) :
    Calls Tryd.prog 18 #[.pointer (some ⟨cb, 0, none⟩), .int .i64 b, .int .i64 r] w (ChEndN F cb g C 0 2 A w) := by
  have T := pch_turn_bad F cb C hC hb g r hr A w hL h
  go_enter Tryd.func18, Tryd.ntmps18
  go_wp2_with fail
  refine T.mono ?_
  rintro e w1 ⟨ev, rfl, hE, hB⟩
  obtain ⟨z, rfl⟩ : ∃ z, ev = sent z := by
    rcases hE with ⟨z, _⟩ | ⟨i, _, _, z⟩
    · exact absurd z (by decide)
    · exact ⟨_, z⟩
  go_wp2_with fail
  go_ret2
  exact ⟨_, F, rfl, hE, (h.below hB).more (by omega), h.stays hB⟩

set_option maxRecDepth 100000 in
set_option maxHeartbeats 1000000 in
theorem pch_bake_other (F : Nat → Prop) (cb : Nat) (C : Ch) (hC : C.Ok) (hb : C.Few) (g : Nat) (b r : Int) (hr : TurnOk C.cyc C.lev r) (T : ∀ k, Turn 3 C.pic C.seed C.cyc C.lev r k → k ≠ b) (A : Nat → Addr) (w : World) (hL : ChLaid8 w A) (h : PCh F w cb C g) :
    Calls Tryd.prog 18 #[.pointer (some ⟨cb, 0, none⟩), .int .i64 b, .int .i64 r] w (ChEndN F cb g C 0 9 A w) := by
  have P := pch_turn F cb C hC hb g r hr A w hL h
  go_enter Tryd.func18, Tryd.ntmps18
  go_wp2_with fail
  refine P.mono ?_
  rintro e w1 ⟨k, rfl, hT, hB⟩
  have ne := T k hT
  have ne' : ¬ (b = k) := fun z => ne z.symm
  have v8 := (hL.below hB).v8
  clear P
  go_wp2_with fail
  go_quiet (fail)
  go_wp2
  go_ret2
  have hB' := below_drewN hB nq
  exact ⟨_, F, rfl, .inr ⟨8, by omega, rfl, rfl⟩, (h.below hB').more (by omega), h.stays hB'⟩

theorem Ch.paid_parts (C : Ch) (b : Int) : { C with p := (C.paid b).p, s := (C.paid b).s } = C.paid b := by
  unfold Ch.paid
  split <;> rfl
set_option maxRecDepth 100000 in
set_option maxHeartbeats 1000000 in
theorem pch_bake_own (F : Nat → Prop) (cb : Nat) (C : Ch) (hC : C.Ok) (hb : C.Few) (g : Nat) (hg : g ≤ 800000) (b r : Int) (hr : TurnOk C.cyc C.lev r) (T : ∀ k, Turn 3 C.pic C.seed C.cyc C.lev r k → k = b) (A : Nat → Addr) (w : World) (hL : ChLaid8 w A) (h : PCh F w cb C g) :
    Calls Tryd.prog 18 #[.pointer (some ⟨cb, 0, none⟩), .int .i64 b, .int .i64 r] w (ChEndN F cb g (C.bake b) (C.bakeN b) 0 A w) := by
  have P := pch_turn F cb C hC hb g r hr A w hL h
  go_enter Tryd.func18, Tryd.ntmps18
  go_wp2_with fail
  refine P.mono ?_
  rintro e w1 ⟨k, rfl, hT, hB⟩
  obtain rfl := T k hT
  have h1 := h.below hB
  obtain ⟨tag, pb, sb, kb, xs, hf1, h1⟩ := h1
  have c0 := h1.c0
  have c1 := h1.c1
  have c6 := h1.c6
  have L1 := hL.below hB
  have hd : PChAt tag w1.drew cb pb sb kb xs C g := h1.keptP ((KeptP.refl (fun _ => False) w1).drew) fun _ q => q.elim
  have nt1 : ¬ bksOwn pb (fun k => tag k = 3) cb := fun q => by rcases h1.own cb q with e | e <;> (rw [h1.tc] at e; cases e)
  have R := bks_reward _ pb sb C hC g (by omega) k A w1.drew (L1.below (below_drewN (Below.refl w1.heap.size w1) 1)) hd.bks
  have H := hide hd
  clear P h1 hd
  go_wp2_with fail
  go_region_held3 (fun w' => w'.cell? ⟨cb, 0, none⟩ = some (.pointer (some ⟨pb, 0, none⟩)) ∧ w'.cell? ⟨cb, 1, none⟩ = some (.pointer (some ⟨sb, 0, none⟩)) ∧ w'.cell? ⟨cb, 6, none⟩ = some (.int .i64 C.bon)) (exact ⟨by assumption, by assumption, by assumption⟩)
    (first
      | (go_at_call 35; refine R.mono ?_; rintro e w2 ⟨G2, rfl, hb2, hM2⟩; have d0 : w2.cell? ⟨cb, 0, none⟩ = some (.pointer (some ⟨pb, 0, none⟩)) := hM2.kept.old c0 nt1; have d1 : w2.cell? ⟨cb, 1, none⟩ = some (.pointer (some ⟨sb, 0, none⟩)) := hM2.kept.old c1 nt1; have d6 : w2.cell? ⟨cb, 6, none⟩ = some (.int .i64 C.bon) := hM2.kept.old c6 nt1))
  obtain ⟨F2, h2, M2⟩ := H.out.bk hf1 hb2 hM2 (by omega) (C.paid_parts k)
  have M2 := moved_drew M2
  have L2 := (h.below hB).laid (hL.below hB) M2.kept
  have MM := (h.stays hB).trans M2
  have od := hC.paid k
  have k4 : (C.paid k).s.K.length ≤ 400 := by rw [C.paid_K k]; exact hb.k
  have l4 : (C.paid k).c.L.length ≤ 400 := by rw [(C.paid_same k).2.2]; exact hb.l
  have y4 : (C.paid k).cyc ≤ 400 := by rw [(C.paid_same k).1]; exact hb.y
  have v4 : (C.paid k).lev ≤ 400 := by rw [(C.paid_same k).2.1]; exact hb.v
  have BK : Hid (C.bake k = (C.paid k).stepped) := rfl
  clear R M2 hL h hC T hT hb hr H hb2 hM2 c0 c1 c6 d0 d1 d6 L1 nt1 hf1
  generalize C.paid k = D at *
  have oE : ({ D with lev := D.lev + 1 } : Ch).Ok := ⟨od.p, od.s, od.c, od.sum, od.pos, od.reg, od.bon, od.cas, od.len, od.heavy, od.seed⟩
  obtain ⟨tg, pb, sb, kb, xs, hf, gE⟩ := h2
  have c5 := gE.c5
  have f5 := gE.f 5
  have v4' : (D.lev : Int) ≤ 400 := by omega
  have v0' : (0 : Int) ≤ (D.lev : Int) := by omega
  have g2 := gE.num D.cyc (D.lev + 1) D.bon D.pics rfl 5 ((D.lev : Int) + 1) (.inr (.inl ⟨rfl, by simp, rfl, rfl⟩))
  have K2 := (KeptP.refl F2 w2).setCell (p := ⟨cb, 5, none⟩) ((hf cb).2 (by rw [gE.tc]; decide)) (.int .i64 ((D.lev : Int) + 1))
  have L3 := gE.laid L2 hf K2
  have G2 := hide g2
  clear gE g2
  by_cases h4 : (D.lev + 1) % 4 = 0
  · have ST : Hid (D.stepped = Ch.ended { D with lev := D.lev + 1 }) := hide (if_pos h4)
    have h4' : ((D.lev : Int) + 1).tmod 4 = 0 := by rw [Int.tmod_eq_emod_of_nonneg (by omega)]; omega
    go_wp2_with fail
    refine (pch_end F2 cb { D with lev := D.lev + 1 } oE k4 l4 y4 (g + 4) (by omega) A _ L3 ⟨tg, pb, sb, kb, xs, hf, G2.out⟩).mono ?_
    rintro e w4 ⟨F4, rfl, hP, M4⟩
    go_wp2_with fail
    go_ret2
    refine ⟨_, F4, rfl, .inl ⟨rfl, rfl⟩, ?_, MM.trans ⟨K2.trans M4.kept fun _ _ z => z, fun k hk z => M4.old k (Nat.lt_of_lt_of_le hk K2.size) z⟩⟩
    rw [BK.out, ST.out]
    exact hP.more (by omega)
  · have ST : Hid (D.stepped = { D with lev := D.lev + 1 }) := hide (if_neg h4)
    have h4' : ¬ ((D.lev : Int) + 1).tmod 4 = 0 := by rw [Int.tmod_eq_emod_of_nonneg (by omega)]; omega
    go_wp2_with fail
    go_ret2
    refine ⟨_, F2, rfl, .inl ⟨rfl, rfl⟩, ?_, MM.trans ⟨K2, fun _ _ z => z⟩⟩
    rw [BK.out, ST.out]
    exact ⟨tg, pb, sb, kb, xs, hf, G2.out.more (by omega)⟩
end Go.Proofs.YtjodnacodlhamacDoor

namespace Go.Proofs.YtjodnacodlhamacDoor
open Go.RowKit

theorem stake0_fits : ∀ j, j < 3 → ∀ D : Ch, D.p = outTo j → D.s = (stkSt j).reg j → D.stake j j 1000 = { D with p := outTo (j + 1), s := stkSt (j + 1) } := fun j hj D hp hs => by
  have z : D.stakeC j j 1000 = 0 := by
    unfold Ch.stakeC
    rw [hp, hs]
    have e : j = 0 ∨ j = 1 ∨ j = 2 := by omega
    rcases e with rfl | rfl | rfl <;> decide
  unfold Ch.stake
  rw [if_pos z, hp, hs]
  rfl
theorem PurAt.belowP {w w' : World} {b : Nat} {x : Pu} (h : PurAt w b x) (hB : Below w.heap.size w w') : PurAt w' b x :=
  ⟨⟨fun i hi => was_cellP hB (h.raw.s i hi), was_cellP hB h.raw.c6, fun i => by rw [hB.frozen (p := ⟨b, i, none⟩) h.lt]; exact h.raw.f i⟩, h.ok⟩
/-- new books, as they are being opened: a copy, and where the answer goes -/
structure BkOpen (w : World) (rb nb pb sb : Nat) : Prop where
  box : BkBox w nb pb sb
  r0 : ∃ v, w.cell? ⟨rb, 0, none⟩ = some v
  r1 : ∃ v, w.cell? ⟨rb, 1, none⟩ = some v
  f : ∀ i, w.frozen? ⟨rb, i, none⟩ = false
theorem BkOpen.keptP {w w' : World} {rb nb pb sb : Nat} {H : Nat → Prop} (h : BkOpen w rb nb pb sb) (hK : KeptP H w w') (hn : ¬ H nb) (hr : ¬ H rb) : BkOpen w' rb nb pb sb := by
  obtain ⟨v0, e0⟩ := h.r0
  obtain ⟨v1, e1⟩ := h.r1
  exact ⟨h.box.keptP hK hn, ⟨v0, hK.old e0 hr⟩, ⟨v1, hK.old e1 hr⟩, fun i => by rw [hK.frozen (p := ⟨rb, i, none⟩) (show rb < w.heap.size from cell_lt e0) hr]; exact h.f i⟩
/-- own blocks are new, and none of two -/
structure BkApart (B : Nat) (w0 w : World) (rb nb pb : Nat) (G : Nat → Prop) : Prop where
  mine : Mine B w0 w (bksOwn pb G)
  n1 : ¬ bksOwn pb G nb
  n2 : ¬ bksOwn pb G rb
  l1 : nb < w.heap.size
  l2 : rb < w.heap.size
theorem BkApart.next {B : Nat} {w0 w w' : World} {rb nb pb : Nat} {G G' : Nat → Prop} (h : BkApart B w0 w rb nb pb G) (hM : Moved (bksOwn pb G) (bksOwn pb G') w w') : BkApart B w0 w' rb nb pb G' :=
  ⟨h.mine.next hM, fun q => h.n1 (hM.old _ h.l1 q), fun q => h.n2 (hM.old _ h.l2 q), Nat.lt_of_lt_of_le h.l1 hM.kept.size, Nat.lt_of_lt_of_le h.l2 hM.kept.size⟩
set_option maxRecDepth 100000 in
set_option maxHeartbeats 4000000 in
theorem bks_open (A : Nat → Addr) (w : World) (hL : ChLaid8 w A) :
    Calls Tryd.prog 13 #[] w fun e w' => ∃ pb sb G, e = .returned (.agg #[.pointer (some ⟨pb, 0, none⟩), .pointer (some ⟨sb, 0, none⟩)]) ∧ BksAt G w' pb sb { ch0 0 with p := outTo 3, s := stkSt 3 } 6012 ∧ (∀ k, bksOwn pb G k → w.heap.size ≤ k) ∧ Below w.heap.size w w' := by
  have VI : Hid (∀ k, IsVar k → k < w.heap.size) := hL.vin
  go_enter Tryd.func13, Tryd.ntmps13
  go_wp2_with fail
  have BR : Below w.heap.size w (w.alloc (.cells #[.pointer none, .pointer none] 39)) := (Below.refl _ _).alloc (Nat.le_refl _) _
  have z0 : (w.alloc (.cells #[.pointer none, .pointer none] 39)).cell? ⟨w.heap.size, 0, none⟩ = some (.pointer none) := cell_new _ _ _ _ _ _ rfl rfl
  have z1 : (w.alloc (.cells #[.pointer none, .pointer none] 39)).cell? ⟨w.heap.size, 1, none⟩ = some (.pointer none) := cell_new _ _ _ _ _ _ rfl rfl
  have zf : ∀ i, (w.alloc (.cells #[.pointer none, .pointer none] 39)).frozen? ⟨w.heap.size, i, none⟩ = false := fun i => World.frozen?_alloc_at _ _ _ _ rfl
  have sR : w.heap.size < (w.alloc (.cells #[.pointer none, .pointer none] 39)).heap.size := cell_lt z0
  generalize hrb : w.heap.size = rb at *
  generalize w.alloc (.cells #[.pointer none, .pointer none] 39) = w0 at *
  refine (pu_new w0).mono ?_
  rintro e w1 ⟨pb, rfl, hpb, hp1, hB1⟩
  go_wp2_with fail
  refine (ps_new w1).mono ?_
  rintro e w2 ⟨sb, G, rfl, hs2, hG, hB2⟩
  go_wp2_with fail
  have y1 := hB1.size
  have y2 := hB2.size
  have lp := hp1.lt
  have A3 : Below w2.heap.size w2 (w2.alloc (.cells #[.pointer (some ⟨pb, 0, none⟩), .pointer (some ⟨sb, 0, none⟩)] 39)) := (Below.refl _ _).alloc (Nat.le_refl _) _
  have y3 := A3.size
  have BW : Below rb w (w2.alloc (.cells #[.pointer (some ⟨pb, 0, none⟩), .pointer (some ⟨sb, 0, none⟩)] 39)) := ((BR.trans (hB1.mono (by omega))).trans (hB2.mono (by omega))).trans (A3.mono (by omega))
  have lo : ∀ k, bksOwn pb G k → rb < k ∧ k < w2.heap.size := fun k hk => by
    rcases hk with rfl | hk
    · exact ⟨by omega, by omega⟩
    · have := hG k hk; have := hs2.lt k hk; exact ⟨by omega, by omega⟩
  have bk0 : BksAt G (w2.alloc (.cells #[.pointer (some ⟨pb, 0, none⟩), .pointer (some ⟨sb, 0, none⟩)] 39)) pb sb { ch0 0 with p := mintTo 0 } 0 :=
    { p := (hp1.belowP hB2).belowP A3
      s := hs2.keptP (KeptP.of_below (F := fun _ => False) A3) (fun _ z => z.elim)
      np := fun q => by have := hG pb q; omega
      vin := fun k hk => by have := VI.out k hk; omega
      vs := fun k hk z => by have := lo k hk; have := VI.out k z; omega }
  have op0 : BkOpen (w2.alloc (.cells #[.pointer (some ⟨pb, 0, none⟩), .pointer (some ⟨sb, 0, none⟩)] 39)) rb w2.heap.size pb sb :=
    { box := box_new w2 39 pb sb
      r0 := ⟨_, was_cellP A3 (was_cellP hB2 (was_cellP hB1 z0))⟩
      r1 := ⟨_, was_cellP A3 (was_cellP hB2 (was_cellP hB1 z1))⟩
      f := fun i => by rw [A3.frozen (p := ⟨rb, i, none⟩) (by show rb < _; omega), hB2.frozen (p := ⟨rb, i, none⟩) (by show rb < _; omega), hB1.frozen (p := ⟨rb, i, none⟩) sR]; exact zf i }
  have ap0 : BkApart rb w (w2.alloc (.cells #[.pointer (some ⟨pb, 0, none⟩), .pointer (some ⟨sb, 0, none⟩)] 39)) rb w2.heap.size pb G :=
    { mine := ⟨fun k hk => Nat.le_of_lt (lo k hk).1, BW, by omega⟩
      n1 := fun q => by have := lo _ q; omega
      n2 := fun q => by have := lo _ q; omega
      l1 := by simp
      l2 := by omega }
  clear hp1 hs2 hG hB1 hB2 lp A3 BW lo BR z0 z1 zf sR y1 y2 y3 hpb VI
  generalize (w2.alloc (.cells #[.pointer (some ⟨pb, 0, none⟩), .pointer (some ⟨sb, 0, none⟩)] 39)) = w3 at *
  generalize w2.heap.size = nb at *
  go_loopw [7] (fun i wr => ∃ j : Nat, j ≤ 6 ∧ i = .int .i64 j ∧ BksAt G wr pb sb { ch0 0 with p := mintTo j } 0 ∧ BkOpen wr rb nb pb sb ∧ BkApart rb w wr rb nb pb G) (fun i _ => 6 - (intOf i).toNat)
  case atStart => exact ⟨0, by omega, rfl, bk0, op0, ap0⟩
  case round =>
    obtain ⟨j, hj, rfl, hb, ho, ha⟩ := hrel
    clear bk0 op0 ap0
    by_cases hlt : j < 6
    · have e0 := ho.box.e0
      have Lr := hL.below (hrb.symm ▸ ha.mine.below)
      have jl : (j : Int) < 6 := by omega
      have P := pu_mint pb (mintTo j) (mintTo_ok j) j 10000 A wr Lr.pur hb.p
      have HB := hide hb
      clear hb
      go_wp2_with fail
      refine P.mono ?_
      rintro e w5 ⟨ev, rfl, _, hp5, hK5⟩
      have b5 := HB.out.purse hp5 hK5
      have M5 := HB.out.purseMoved hK5
      have B5 := hide b5
      clear HB hp5 hK5 e0 b5 P
      go_wp2_with fail
      go_roundw
      case rel => exact ⟨j + 1, by omega, by go_num, B5.out, ho.keptP M5.kept ha.n1 ha.n2, ha.next M5⟩
      case measure => simp [intOf]; omega
    · obtain rfl : 6 = j := by omega
      clear hlt hj
      have jl : ¬ ((6 : Nat) : Int) < 6 := by omega
      have HB := hide hb
      clear hb
      go_wp2_with fail
      go_loopw [15] (fun i wr => ∃ (j : Nat) (G : Nat → Prop), j ≤ 3 ∧ i = .int .i64 j ∧ BksAt G wr pb sb { ch0 0 with p := outTo j, s := stkSt j } (2004 * j) ∧ BkOpen wr rb nb pb sb ∧ BkApart rb w wr rb nb pb G) (fun i _ => 3 - (intOf i).toNat)
      case atStart => exact ⟨0, G, by omega, rfl, HB.out, ho, ha⟩
      case round =>
        obtain ⟨j, G2, hj, rfl, hb2, ho2, ha2⟩ := hrel
        clear HB ho ha
        by_cases hlt : j < 3
        · have e1 := ho2.box.e1
          have Lr := hL.below (hrb.symm ▸ ha2.mine.below)
          have jl : (j : Int) < 3 := by omega
          have P := ps_register G2 sb (stkSt j) (stkSt_ok j) (2004 * j) (by omega) j A wr Lr.stk hb2.s
          have HB := hide hb2
          clear hb2
          go_wp2_with fail
          refine P.mono ?_
          rintro e w5 ⟨ev, G5, rfl, _, hs5, M5⟩
          have b5 := HB.out.stakes hs5 M5
          have m5 := HB.out.stakesMoved M5
          have o5 := ho2.keptP m5.kept ha2.n1 ha2.n2
          have a5 := ha2.next m5
          have L5 := hL.below (hrb.symm ▸ a5.mine.below)
          have f0 := o5.box.e0
          have f1 := o5.box.e1
          have S := bks_stake G5 pb sb { ch0 0 with p := outTo j, s := (stkSt j).reg j } (outTo_ok j) ((stkSt_ok j).reg j) (2004 * j + 4) (by omega) j j 1000 (small_wf _ (by omega) (by omega)) A w5 L5 b5
          rw [stake0_fits j hlt _ rfl rfl] at S
          clear P HB hs5 M5 b5 e1 ho2 ha2 m5
          go_wp2_with fail
          refine S.mono ?_
          rintro e w6 ⟨ev6, G6, rfl, _, b6, M6⟩
          have o6 := o5.keptP M6.kept a5.n1 a5.n2
          have a6 := a5.next M6
          have B6 := hide b6
          clear S b6 f0 f1 o5 a5 M6
          go_wp2_with fail
          go_roundw
          case rel => exact ⟨j + 1, G6, by omega, by go_num, B6.out.more (by omega), o6, a6⟩
          case measure => simp [intOf]; omega
        · obtain rfl : 3 = j := by omega
          clear hlt hj
          have jl : ¬ ((3 : Nat) : Int) < 3 := by omega
          have e0 := ho2.box.e0
          have e1 := ho2.box.e1
          obtain ⟨v0, c0⟩ := ho2.r0
          obtain ⟨v1, c1⟩ := ho2.r1
          have f0 := ho2.f 0
          have f1 := ho2.f 1
          have ne : (⟨rb, 1, none⟩ : Addr) ≠ ⟨rb, 0, none⟩ := fun z => absurd (show 1 = 0 from congrArg Addr.off z) (by decide)
          have q0 : ((wr.setCell ⟨rb, 0, none⟩ (.pointer (some ⟨pb, 0, none⟩))).setCell ⟨rb, 1, none⟩ (.pointer (some ⟨sb, 0, none⟩))).cell? ⟨rb, 0, none⟩ = some (.pointer (some ⟨pb, 0, none⟩)) := by
            rw [World.cell?_setCell_other _ _ _ _ ne]
            exact World.cell?_setCell_same _ _ _ c0
          have q1 : ((wr.setCell ⟨rb, 0, none⟩ (.pointer (some ⟨pb, 0, none⟩))).setCell ⟨rb, 1, none⟩ (.pointer (some ⟨sb, 0, none⟩))).cell? ⟨rb, 1, none⟩ = some (.pointer (some ⟨sb, 0, none⟩)) := by
            refine World.cell?_setCell_same _ _ _ (?_ : _ = some v1)
            rw [World.cell?_setCell_other _ _ _ _ ne.symm]
            exact c1
          have K5 : KeptP (fun k => k = rb) wr ((wr.setCell ⟨rb, 0, none⟩ (.pointer (some ⟨pb, 0, none⟩))).setCell ⟨rb, 1, none⟩ (.pointer (some ⟨sb, 0, none⟩))) := ((KeptP.refl (fun k => k = rb) wr).setCell (p := ⟨rb, 0, none⟩) rfl _).setCell (p := ⟨rb, 1, none⟩) rfl _
          have b5 := hb2.keptP K5 fun k z y => by rw [z] at y; exact ha2.n2 y
          have BF : Below rb w ((wr.setCell ⟨rb, 0, none⟩ (.pointer (some ⟨pb, 0, none⟩))).setCell ⟨rb, 1, none⟩ (.pointer (some ⟨sb, 0, none⟩))) := (ha2.mine.below.setCell (p := ⟨rb, 0, none⟩) (Nat.le_refl _) _).setCell (p := ⟨rb, 1, none⟩) (Nat.le_refl _) _
          have HB := hide b5
          have HF := hide BF
          clear hb2 b5 K5 BF
          go_wp2_with fail
          refine bodyPost_ret (v := .agg #[.pointer (some ⟨pb, 0, none⟩), .pointer (some ⟨sb, 0, none⟩)]) ?_ rfl ⟨pb, sb, rfl, G2, HB.out, ha2.mine.f, HF.out⟩
          have hr : Tryd.f13.results = #[.cell 0 39] := rfl
          simp only [results, hr]
          go_simp
end Go.Proofs.YtjodnacodlhamacDoor
