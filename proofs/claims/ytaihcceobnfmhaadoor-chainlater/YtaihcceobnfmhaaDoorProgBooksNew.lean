/-
  The program's books by their contracts: new ones.
-/
import Derived.Test.YtaihcceobnfmhaaDoorProgChainBake
namespace Go.Proofs.YtaihcceobnfmhaaDoor
open Go.RowKit

theorem stake0_fits : ∀ j, j < 3 → ∀ D : Ch, D.p = outTo j → D.s = (stkSt j).reg j → D.stake j j 1000 = { D with p := outTo (j + 1), s := stkSt (j + 1) } := fun j hj D hp hs => by
  have z : D.stakeC j j 1000 = 0 := by
    unfold Ch.stakeC
    rw [hp, hs]
    have e : j = 0 ∨ j = 1 ∨ j = 2 := by omega
    rcases e with rfl | rfl | rfl <;> decide
  unfold Ch.stake
  rw [if_pos z, hp, hs]
  rfl
theorem PurAt.belowP {w w' : World} {b : Nat} {x : Pu} (h : PurAt w b x) (hB : Below w.heap.size w w') : PurAt w' b x :=
  ⟨⟨fun i hi => was_cellP hB (h.raw.s i hi), was_cellP hB h.raw.c6, fun i => by rw [hB.frozen (p := ⟨b, i, none⟩) h.lt]; exact h.raw.f i⟩, h.ok⟩
/-- new books, as they are being opened: a copy, and where the answer goes -/
structure BkOpen (w : World) (rb nb pb sb : Nat) : Prop where
  box : BkBox w nb pb sb
  r0 : ∃ v, w.cell? ⟨rb, 0, none⟩ = some v
  r1 : ∃ v, w.cell? ⟨rb, 1, none⟩ = some v
  f : ∀ i, w.frozen? ⟨rb, i, none⟩ = false
theorem BkOpen.keptP {w w' : World} {rb nb pb sb : Nat} {H : Nat → Prop} (h : BkOpen w rb nb pb sb) (hK : KeptP H w w') (hn : ¬ H nb) (hr : ¬ H rb) : BkOpen w' rb nb pb sb := by
  obtain ⟨v0, e0⟩ := h.r0
  obtain ⟨v1, e1⟩ := h.r1
  exact ⟨h.box.keptP hK hn, ⟨v0, hK.old e0 hr⟩, ⟨v1, hK.old e1 hr⟩, fun i => by rw [hK.frozen (p := ⟨rb, i, none⟩) (show rb < w.heap.size from cell_lt e0) hr]; exact h.f i⟩
/-- own blocks are new, and none of two -/
structure BkApart (B : Nat) (w0 w : World) (rb nb pb : Nat) (G : Nat → Prop) : Prop where
  mine : Mine B w0 w (bksOwn pb G)
  n1 : ¬ bksOwn pb G nb
  n2 : ¬ bksOwn pb G rb
  l1 : nb < w.heap.size
  l2 : rb < w.heap.size
theorem BkApart.next {B : Nat} {w0 w w' : World} {rb nb pb : Nat} {G G' : Nat → Prop} (h : BkApart B w0 w rb nb pb G) (hM : Moved (bksOwn pb G) (bksOwn pb G') w w') : BkApart B w0 w' rb nb pb G' :=
  ⟨h.mine.next hM, fun q => h.n1 (hM.old _ h.l1 q), fun q => h.n2 (hM.old _ h.l2 q), Nat.lt_of_lt_of_le h.l1 hM.kept.size, Nat.lt_of_lt_of_le h.l2 hM.kept.size⟩
set_option maxRecDepth 100000 in
set_option maxHeartbeats 4000000 in
theorem bks_open (A : Nat → Addr) (w : World) (hL : ChLaid8 w A) :
    Calls Tryd.prog 13 #[] w fun e w' => ∃ pb sb G, e = .returned (.agg #[.pointer (some ⟨pb, 0, none⟩), .pointer (some ⟨sb, 0, none⟩)]) ∧ BksAt G w' pb sb { ch0 0 with p := outTo 3, s := stkSt 3 } 6012 ∧ (∀ k, bksOwn pb G k → w.heap.size ≤ k) ∧ Below w.heap.size w w' := by
  have VI : Hid (∀ k, IsVar k → k < w.heap.size) := hL.vin
  go_enter Tryd.func13, Tryd.ntmps13
  go_wp2_with fail
  have BR : Below w.heap.size w (w.alloc (.cells #[.pointer none, .pointer none] 39)) := (Below.refl _ _).alloc (Nat.le_refl _) _
  have z0 : (w.alloc (.cells #[.pointer none, .pointer none] 39)).cell? ⟨w.heap.size, 0, none⟩ = some (.pointer none) := cell_new _ _ _ _ _ _ rfl rfl
  have z1 : (w.alloc (.cells #[.pointer none, .pointer none] 39)).cell? ⟨w.heap.size, 1, none⟩ = some (.pointer none) := cell_new _ _ _ _ _ _ rfl rfl
  have zf : ∀ i, (w.alloc (.cells #[.pointer none, .pointer none] 39)).frozen? ⟨w.heap.size, i, none⟩ = false := fun i => World.frozen?_alloc_at _ _ _ _ rfl
  have sR : w.heap.size < (w.alloc (.cells #[.pointer none, .pointer none] 39)).heap.size := cell_lt z0
  generalize hrb : w.heap.size = rb at *
  generalize w.alloc (.cells #[.pointer none, .pointer none] 39) = w0 at *
  refine (pu_new w0).mono ?_
  rintro e w1 ⟨pb, rfl, hpb, hp1, hB1⟩
  go_wp2_with fail
  refine (ps_new w1).mono ?_
  rintro e w2 ⟨sb, G, rfl, hs2, hG, hB2⟩
  go_wp2_with fail
  have y1 := hB1.size
  have y2 := hB2.size
  have lp := hp1.lt
  have A3 : Below w2.heap.size w2 (w2.alloc (.cells #[.pointer (some ⟨pb, 0, none⟩), .pointer (some ⟨sb, 0, none⟩)] 39)) := (Below.refl _ _).alloc (Nat.le_refl _) _
  have y3 := A3.size
  have BW : Below rb w (w2.alloc (.cells #[.pointer (some ⟨pb, 0, none⟩), .pointer (some ⟨sb, 0, none⟩)] 39)) := ((BR.trans (hB1.mono (by omega))).trans (hB2.mono (by omega))).trans (A3.mono (by omega))
  have lo : ∀ k, bksOwn pb G k → rb < k ∧ k < w2.heap.size := fun k hk => by
    rcases hk with rfl | hk
    · exact ⟨by omega, by omega⟩
    · have := hG k hk; have := hs2.lt k hk; exact ⟨by omega, by omega⟩
  have bk0 : BksAt G (w2.alloc (.cells #[.pointer (some ⟨pb, 0, none⟩), .pointer (some ⟨sb, 0, none⟩)] 39)) pb sb { ch0 0 with p := mintTo 0 } 0 :=
    { p := (hp1.belowP hB2).belowP A3
      s := hs2.keptP (KeptP.of_below (F := fun _ => False) A3) (fun _ z => z.elim)
      np := fun q => by have := hG pb q; omega
      vin := fun k hk => by have := VI.out k hk; omega
      vs := fun k hk z => by have := lo k hk; have := VI.out k z; omega }
  have op0 : BkOpen (w2.alloc (.cells #[.pointer (some ⟨pb, 0, none⟩), .pointer (some ⟨sb, 0, none⟩)] 39)) rb w2.heap.size pb sb :=
    { box := box_new w2 39 pb sb
      r0 := ⟨_, was_cellP A3 (was_cellP hB2 (was_cellP hB1 z0))⟩
      r1 := ⟨_, was_cellP A3 (was_cellP hB2 (was_cellP hB1 z1))⟩
      f := fun i => by rw [A3.frozen (p := ⟨rb, i, none⟩) (by show rb < _; omega), hB2.frozen (p := ⟨rb, i, none⟩) (by show rb < _; omega), hB1.frozen (p := ⟨rb, i, none⟩) sR]; exact zf i }
  have ap0 : BkApart rb w (w2.alloc (.cells #[.pointer (some ⟨pb, 0, none⟩), .pointer (some ⟨sb, 0, none⟩)] 39)) rb w2.heap.size pb G :=
    { mine := ⟨fun k hk => Nat.le_of_lt (lo k hk).1, BW, by omega⟩
      n1 := fun q => by have := lo _ q; omega
      n2 := fun q => by have := lo _ q; omega
      l1 := by simp
      l2 := by omega }
  clear hp1 hs2 hG hB1 hB2 lp A3 BW lo BR z0 z1 zf sR y1 y2 y3 hpb VI
  generalize (w2.alloc (.cells #[.pointer (some ⟨pb, 0, none⟩), .pointer (some ⟨sb, 0, none⟩)] 39)) = w3 at *
  generalize w2.heap.size = nb at *
  go_loopw [7] (fun i wr => ∃ j : Nat, j ≤ 6 ∧ i = .int .i64 j ∧ BksAt G wr pb sb { ch0 0 with p := mintTo j } 0 ∧ BkOpen wr rb nb pb sb ∧ BkApart rb w wr rb nb pb G) (fun i _ => 6 - (intOf i).toNat)
  case atStart => exact ⟨0, by omega, rfl, bk0, op0, ap0⟩
  case round =>
    obtain ⟨j, hj, rfl, hb, ho, ha⟩ := hrel
    clear bk0 op0 ap0
    by_cases hlt : j < 6
    · have e0 := ho.box.e0
      have Lr := hL.below (hrb.symm ▸ ha.mine.below)
      have jl : (j : Int) < 6 := by omega
      have P := pu_mint pb (mintTo j) (mintTo_ok j) j 10000 A wr Lr.pur hb.p
      have HB := hide hb
      clear hb
      go_wp2_with fail
      refine P.mono ?_
      rintro e w5 ⟨ev, rfl, _, hp5, hK5⟩
      have b5 := HB.out.purse hp5 hK5
      have M5 := HB.out.purseMoved hK5
      have B5 := hide b5
      clear HB hp5 hK5 e0 b5 P
      go_wp2_with fail
      go_roundw
      case rel => exact ⟨j + 1, by omega, by go_num, B5.out, ho.keptP M5.kept ha.n1 ha.n2, ha.next M5⟩
      case measure => simp [intOf]; omega
    · obtain rfl : 6 = j := by omega
      clear hlt hj
      have jl : ¬ ((6 : Nat) : Int) < 6 := by omega
      have HB := hide hb
      clear hb
      go_wp2_with fail
      go_loopw [15] (fun i wr => ∃ (j : Nat) (G : Nat → Prop), j ≤ 3 ∧ i = .int .i64 j ∧ BksAt G wr pb sb { ch0 0 with p := outTo j, s := stkSt j } (2004 * j) ∧ BkOpen wr rb nb pb sb ∧ BkApart rb w wr rb nb pb G) (fun i _ => 3 - (intOf i).toNat)
      case atStart => exact ⟨0, G, by omega, rfl, HB.out, ho, ha⟩
      case round =>
        obtain ⟨j, G2, hj, rfl, hb2, ho2, ha2⟩ := hrel
        clear HB ho ha
        by_cases hlt : j < 3
        · have e1 := ho2.box.e1
          have Lr := hL.below (hrb.symm ▸ ha2.mine.below)
          have jl : (j : Int) < 3 := by omega
          have P := ps_register G2 sb (stkSt j) (stkSt_ok j) (2004 * j) (by omega) j A wr Lr.stk hb2.s
          have HB := hide hb2
          clear hb2
          go_wp2_with fail
          refine P.mono ?_
          rintro e w5 ⟨ev, G5, rfl, _, hs5, M5⟩
          have b5 := HB.out.stakes hs5 M5
          have m5 := HB.out.stakesMoved M5
          have o5 := ho2.keptP m5.kept ha2.n1 ha2.n2
          have a5 := ha2.next m5
          have L5 := hL.below (hrb.symm ▸ a5.mine.below)
          have f0 := o5.box.e0
          have f1 := o5.box.e1
          have S := bks_stake G5 pb sb { ch0 0 with p := outTo j, s := (stkSt j).reg j } (outTo_ok j) ((stkSt_ok j).reg j) (2004 * j + 4) (by omega) j j 1000 (small_wf _ (by omega) (by omega)) A w5 L5 b5
          rw [stake0_fits j hlt _ rfl rfl] at S
          clear P HB hs5 M5 b5 e1 ho2 ha2 m5
          go_wp2_with fail
          refine S.mono ?_
          rintro e w6 ⟨ev6, G6, rfl, _, b6, M6⟩
          have o6 := o5.keptP M6.kept a5.n1 a5.n2
          have a6 := a5.next M6
          have B6 := hide b6
          clear S b6 f0 f1 o5 a5 M6
          go_wp2_with fail
          go_roundw
          case rel => exact ⟨j + 1, G6, by omega, by go_num, B6.out.more (by omega), o6, a6⟩
          case measure => simp [intOf]; omega
        · obtain rfl : 3 = j := by omega
          clear hlt hj
          have jl : ¬ ((3 : Nat) : Int) < 3 := by omega
          have e0 := ho2.box.e0
          have e1 := ho2.box.e1
          obtain ⟨v0, c0⟩ := ho2.r0
          obtain ⟨v1, c1⟩ := ho2.r1
          have f0 := ho2.f 0
          have f1 := ho2.f 1
          have ne : (⟨rb, 1, none⟩ : Addr) ≠ ⟨rb, 0, none⟩ := fun z => absurd (show 1 = 0 from congrArg Addr.off z) (by decide)
          have q0 : ((wr.setCell ⟨rb, 0, none⟩ (.pointer (some ⟨pb, 0, none⟩))).setCell ⟨rb, 1, none⟩ (.pointer (some ⟨sb, 0, none⟩))).cell? ⟨rb, 0, none⟩ = some (.pointer (some ⟨pb, 0, none⟩)) := by
            rw [World.cell?_setCell_other _ _ _ _ ne]
            exact World.cell?_setCell_same _ _ _ c0
          have q1 : ((wr.setCell ⟨rb, 0, none⟩ (.pointer (some ⟨pb, 0, none⟩))).setCell ⟨rb, 1, none⟩ (.pointer (some ⟨sb, 0, none⟩))).cell? ⟨rb, 1, none⟩ = some (.pointer (some ⟨sb, 0, none⟩)) := by
            refine World.cell?_setCell_same _ _ _ (?_ : _ = some v1)
            rw [World.cell?_setCell_other _ _ _ _ ne.symm]
            exact c1
          have K5 : KeptP (fun k => k = rb) wr ((wr.setCell ⟨rb, 0, none⟩ (.pointer (some ⟨pb, 0, none⟩))).setCell ⟨rb, 1, none⟩ (.pointer (some ⟨sb, 0, none⟩))) := ((KeptP.refl (fun k => k = rb) wr).setCell (p := ⟨rb, 0, none⟩) rfl _).setCell (p := ⟨rb, 1, none⟩) rfl _
          have b5 := hb2.keptP K5 fun k z y => by rw [z] at y; exact ha2.n2 y
          have BF : Below rb w ((wr.setCell ⟨rb, 0, none⟩ (.pointer (some ⟨pb, 0, none⟩))).setCell ⟨rb, 1, none⟩ (.pointer (some ⟨sb, 0, none⟩))) := (ha2.mine.below.setCell (p := ⟨rb, 0, none⟩) (Nat.le_refl _) _).setCell (p := ⟨rb, 1, none⟩) (Nat.le_refl _) _
          have HB := hide b5
          have HF := hide BF
          clear hb2 b5 K5 BF
          go_wp2_with fail
          refine bodyPost_ret (v := .agg #[.pointer (some ⟨pb, 0, none⟩), .pointer (some ⟨sb, 0, none⟩)]) ?_ rfl ⟨pb, sb, rfl, G2, HB.out, ha2.mine.f, HF.out⟩
          have hr : Tryd.f13.results = #[.cell 0 39] := rfl
          simp only [results, hr]
          go_simp
end Go.Proofs.YtaihcceobnfmhaaDoor
