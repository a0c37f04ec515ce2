/-
  The program's books by their contracts: new ones.
  The program's chain by its contracts: a new one.
  The program's chain by its contracts: all of them, whatever block its stakes have.
  The commands of a script, each with its function (script.player's commands).
  The number that a word spells, as the program reads it (script.number).
  The numbers of words, if they are just those of a form (script.numbers).
-/
import Derived.Test.YtmbfdhekplnoaaaGreatDoorProgChainBakeX
import Derived.Test.YtmbfdhekplnoaaaGreatDoorProgPurseActsX
import Derived.Test.YtmbfdhekplnoaaaGreatDoorLineMathX
import Derived.Deep.LoopGhost
import Derived.Test.YtmbfdhekplnoaaaGreatDoorIssueMathX
import Derived.Deep.OwnRows
namespace Go.Proofs.YtmbfdhekplnoaaaGreatDoor
open Go.RowKit

theorem stake0_fits : ∀ j, j < 3 → ∀ D : Ch, D.p = outTo j → D.s = (stkSt j).reg j → D.stake j j 1000 = { D with p := outTo (j + 1), s := stkSt (j + 1) } := fun j hj D hp hs => by
  have z : D.stakeC j j 1000 = 0 := by
    unfold Ch.stakeC
    rw [hp, hs]
    have e : j = 0 ∨ j = 1 ∨ j = 2 := by omega
    rcases e with rfl | rfl | rfl <;> decide
  unfold Ch.stake
  rw [if_pos z, hp, hs]
  rfl
theorem PurAt.belowP {w w' : World} {b : Nat} {x : Pu} (h : PurAt w b x) (hB : Below w.heap.size w w') : PurAt w' b x :=
  ⟨⟨fun i hi => was_cellP hB (h.raw.s i hi), was_cellP hB h.raw.c6, fun i => by rw [hB.frozen (p := ⟨b, i, none⟩) h.lt]; exact h.raw.f i⟩, h.ok⟩
structure BkOpen (w : World) (rb nb pb sb : Nat) : Prop where
  box : BkBox w nb pb sb
  r0 : ∃ v, w.cell? ⟨rb, 0, none⟩ = some v
  r1 : ∃ v, w.cell? ⟨rb, 1, none⟩ = some v
  f : ∀ i, w.frozen? ⟨rb, i, none⟩ = false
theorem BkOpen.keptP {w w' : World} {rb nb pb sb : Nat} {H : Nat → Prop} (h : BkOpen w rb nb pb sb) (hK : KeptP H w w') (hn : ¬ H nb) (hr : ¬ H rb) : BkOpen w' rb nb pb sb := by
  obtain ⟨v0, e0⟩ := h.r0
  obtain ⟨v1, e1⟩ := h.r1
  exact ⟨h.box.keptP hK hn, ⟨v0, hK.old e0 hr⟩, ⟨v1, hK.old e1 hr⟩, fun i => by rw [hK.frozen (p := ⟨rb, i, none⟩) (show rb < w.heap.size from cell_lt e0) hr]; exact h.f i⟩
structure BkApart (B : Nat) (w0 w : World) (rb nb pb : Nat) (G : Nat → Prop) : Prop where
  mine : Mine B w0 w (bksOwn pb G)
  n1 : ¬ bksOwn pb G nb
  n2 : ¬ bksOwn pb G rb
  l1 : nb < w.heap.size
  l2 : rb < w.heap.size
theorem BkApart.next {B : Nat} {w0 w w' : World} {rb nb pb : Nat} {G G' : Nat → Prop} (h : BkApart B w0 w rb nb pb G) (hM : Moved (bksOwn pb G) (bksOwn pb G') w w') : BkApart B w0 w' rb nb pb G' :=
  ⟨h.mine.next hM, fun q => h.n1 (hM.old _ h.l1 q), fun q => h.n2 (hM.old _ h.l2 q), Nat.lt_of_lt_of_le h.l1 hM.kept.size, Nat.lt_of_lt_of_le h.l2 hM.kept.size⟩
set_option maxRecDepth 100000 in
set_option maxHeartbeats 4000000 in
theorem bks_open (A : Nat → Addr) (w : World) (hL : ChLaid8 w A) :
    Calls Tryz.prog 124 #[] w fun e w' => ∃ pb sb G, e = .returned (.agg #[.pointer (some ⟨pb, 0, none⟩), .pointer (some ⟨sb, 0, none⟩)]) ∧ BksAt G w' pb sb { ch0 0 with p := outTo 3, s := stkSt 3 } 6012 ∧ (∀ k, bksOwn pb G k → w.heap.size ≤ k) ∧ Below w.heap.size w w' := by
  have VI : Hid (∀ k, IsVar k → k < w.heap.size) := hL.vin
  go_enter Tryz.func124, Tryz.ntmps124
  go_wp2_with fail
  have BR : Below w.heap.size w (w.alloc (.cells #[.pointer none, .pointer none] 179)) := (Below.refl _ _).alloc (Nat.le_refl _) _
  have z0 : (w.alloc (.cells #[.pointer none, .pointer none] 179)).cell? ⟨w.heap.size, 0, none⟩ = some (.pointer none) := cell_new _ _ _ _ _ _ rfl rfl
  have z1 : (w.alloc (.cells #[.pointer none, .pointer none] 179)).cell? ⟨w.heap.size, 1, none⟩ = some (.pointer none) := cell_new _ _ _ _ _ _ rfl rfl
  have zf : ∀ i, (w.alloc (.cells #[.pointer none, .pointer none] 179)).frozen? ⟨w.heap.size, i, none⟩ = false := fun i => World.frozen?_alloc_at _ _ _ _ rfl
  have sR : w.heap.size < (w.alloc (.cells #[.pointer none, .pointer none] 179)).heap.size := cell_lt z0
  generalize hrb : w.heap.size = rb at *
  generalize w.alloc (.cells #[.pointer none, .pointer none] 179) = w0 at *
  refine (pu_new w0).mono ?_
  rintro e w1 ⟨pb, rfl, hpb, hp1, hB1⟩
  go_wp2_with fail
  refine (ps_new w1).mono ?_
  rintro e w2 ⟨sb, G, rfl, hs2, hG, hB2⟩
  go_wp2_with fail
  have y1 := hB1.size
  have y2 := hB2.size
  have lp := hp1.lt
  have A3 : Below w2.heap.size w2 (w2.alloc (.cells #[.pointer (some ⟨pb, 0, none⟩), .pointer (some ⟨sb, 0, none⟩)] 179)) := (Below.refl _ _).alloc (Nat.le_refl _) _
  have y3 := A3.size
  have BW : Below rb w (w2.alloc (.cells #[.pointer (some ⟨pb, 0, none⟩), .pointer (some ⟨sb, 0, none⟩)] 179)) := ((BR.trans (hB1.mono (by omega))).trans (hB2.mono (by omega))).trans (A3.mono (by omega))
  have lo : ∀ k, bksOwn pb G k → rb < k ∧ k < w2.heap.size := fun k hk => by
    rcases hk with rfl | hk
    · exact ⟨by omega, by omega⟩
    · have := hG k hk; have := hs2.lt k hk; exact ⟨by omega, by omega⟩
  have bk0 : BksAt G (w2.alloc (.cells #[.pointer (some ⟨pb, 0, none⟩), .pointer (some ⟨sb, 0, none⟩)] 179)) pb sb { ch0 0 with p := mintTo 0 } 0 :=
    { p := (hp1.belowP hB2).belowP A3
      s := hs2.keptP (KeptP.of_below (F := fun _ => False) A3) (fun _ z => z.elim)
      np := fun q => by have := hG pb q; omega
      vin := fun k hk => by have := VI.out k hk; omega
      vs := fun k hk z => by have := lo k hk; have := VI.out k z; omega }
  have op0 : BkOpen (w2.alloc (.cells #[.pointer (some ⟨pb, 0, none⟩), .pointer (some ⟨sb, 0, none⟩)] 179)) rb w2.heap.size pb sb :=
    { box := box_new w2 179 pb sb
      r0 := ⟨_, was_cellP A3 (was_cellP hB2 (was_cellP hB1 z0))⟩
      r1 := ⟨_, was_cellP A3 (was_cellP hB2 (was_cellP hB1 z1))⟩
      f := fun i => by rw [A3.frozen (p := ⟨rb, i, none⟩) (by show rb < _; omega), hB2.frozen (p := ⟨rb, i, none⟩) (by show rb < _; omega), hB1.frozen (p := ⟨rb, i, none⟩) sR]; exact zf i }
  have ap0 : BkApart rb w (w2.alloc (.cells #[.pointer (some ⟨pb, 0, none⟩), .pointer (some ⟨sb, 0, none⟩)] 179)) rb w2.heap.size pb G :=
    { mine := ⟨fun k hk => Nat.le_of_lt (lo k hk).1, BW, by omega⟩
      n1 := fun q => by have := lo _ q; omega
      n2 := fun q => by have := lo _ q; omega
      l1 := by simp
      l2 := by omega }
  clear hp1 hs2 hG hB1 hB2 lp A3 BW lo BR z0 z1 zf sR y1 y2 y3 hpb VI
  generalize (w2.alloc (.cells #[.pointer (some ⟨pb, 0, none⟩), .pointer (some ⟨sb, 0, none⟩)] 179)) = w3 at *
  generalize w2.heap.size = nb at *
  go_loopw [7] (fun i wr => ∃ j : Nat, j ≤ 6 ∧ i = .int .i64 j ∧ BksAt G wr pb sb { ch0 0 with p := mintTo j } 0 ∧ BkOpen wr rb nb pb sb ∧ BkApart rb w wr rb nb pb G) (fun i _ => 6 - (intOf i).toNat)
  case atStart => exact ⟨0, by omega, rfl, bk0, op0, ap0⟩
  case round =>
    obtain ⟨j, hj, rfl, hb, ho, ha⟩ := hrel
    clear bk0 op0 ap0
    by_cases hlt : j < 6
    · have e0 := ho.box.e0
      have Lr := hL.below (hrb.symm ▸ ha.mine.below)
      have jl : (j : Int) < 6 := by omega
      have P := pu_mint pb (mintTo j) (mintTo_ok j) j 10000 A wr Lr.pur hb.p
      have HB := hide hb
      clear hb
      go_wp2_with fail
      refine P.mono ?_
      rintro e w5 ⟨ev, rfl, _, hp5, hK5⟩
      have b5 := HB.out.purse hp5 hK5
      have M5 := HB.out.purseMoved hK5
      have B5 := hide b5
      clear HB hp5 hK5 e0 b5 P
      go_wp2_with fail
      go_roundw
      case rel => exact ⟨j + 1, by omega, by go_num, B5.out, ho.keptP M5.kept ha.n1 ha.n2, ha.next M5⟩
      case measure => simp [intOf]; omega
    · obtain rfl : 6 = j := by omega
      clear hlt hj
      have jl : ¬ ((6 : Nat) : Int) < 6 := by omega
      have HB := hide hb
      clear hb
      go_wp2_with fail
      go_loopw [15] (fun i wr => ∃ (j : Nat) (G : Nat → Prop), j ≤ 3 ∧ i = .int .i64 j ∧ BksAt G wr pb sb { ch0 0 with p := outTo j, s := stkSt j } (2004 * j) ∧ BkOpen wr rb nb pb sb ∧ BkApart rb w wr rb nb pb G) (fun i _ => 3 - (intOf i).toNat)
      case atStart => exact ⟨0, G, by omega, rfl, HB.out, ho, ha⟩
      case round =>
        obtain ⟨j, G2, hj, rfl, hb2, ho2, ha2⟩ := hrel
        clear HB ho ha
        by_cases hlt : j < 3
        · have e1 := ho2.box.e1
          have Lr := hL.below (hrb.symm ▸ ha2.mine.below)
          have jl : (j : Int) < 3 := by omega
          have P := ps_register G2 sb (stkSt j) (stkSt_ok j) (2004 * j) (by omega) j A wr Lr.stk hb2.s
          have HB := hide hb2
          clear hb2
          go_wp2_with fail
          refine P.mono ?_
          rintro e w5 ⟨ev, G5, rfl, _, hs5, M5⟩
          have b5 := HB.out.stakes hs5 M5
          have m5 := HB.out.stakesMoved M5
          have o5 := ho2.keptP m5.kept ha2.n1 ha2.n2
          have a5 := ha2.next m5
          have L5 := hL.below (hrb.symm ▸ a5.mine.below)
          have f0 := o5.box.e0
          have f1 := o5.box.e1
          have S := bks_stake G5 pb sb { ch0 0 with p := outTo j, s := (stkSt j).reg j } (outTo_ok j) ((stkSt_ok j).reg j) (2004 * j + 4) (by omega) j j 1000 (small_wf _ (by omega) (by omega)) A w5 L5 b5
          rw [stake0_fits j hlt _ rfl rfl] at S
          clear P HB hs5 M5 b5 e1 ho2 ha2 m5
          go_wp2_with fail
          refine S.mono ?_
          rintro e w6 ⟨ev6, G6, rfl, _, b6, M6⟩
          have o6 := o5.keptP M6.kept a5.n1 a5.n2
          have a6 := a5.next M6
          have B6 := hide b6
          clear S b6 f0 f1 o5 a5 M6
          go_wp2_with fail
          go_roundw
          case rel => exact ⟨j + 1, G6, by omega, by go_num, B6.out.more (by omega), o6, a6⟩
          case measure => simp [intOf]; omega
        · obtain rfl : 3 = j := by omega
          clear hlt hj
          have jl : ¬ ((3 : Nat) : Int) < 3 := by omega
          have e0 := ho2.box.e0
          have e1 := ho2.box.e1
          obtain ⟨v0, c0⟩ := ho2.r0
          obtain ⟨v1, c1⟩ := ho2.r1
          have f0 := ho2.f 0
          have f1 := ho2.f 1
          have ne : (⟨rb, 1, none⟩ : Addr) ≠ ⟨rb, 0, none⟩ := fun z => absurd (show 1 = 0 from congrArg Addr.off z) (by decide)
          have q0 : ((wr.setCell ⟨rb, 0, none⟩ (.pointer (some ⟨pb, 0, none⟩))).setCell ⟨rb, 1, none⟩ (.pointer (some ⟨sb, 0, none⟩))).cell? ⟨rb, 0, none⟩ = some (.pointer (some ⟨pb, 0, none⟩)) := by
            rw [World.cell?_setCell_other _ _ _ _ ne]
            exact World.cell?_setCell_same _ _ _ c0
          have q1 : ((wr.setCell ⟨rb, 0, none⟩ (.pointer (some ⟨pb, 0, none⟩))).setCell ⟨rb, 1, none⟩ (.pointer (some ⟨sb, 0, none⟩))).cell? ⟨rb, 1, none⟩ = some (.pointer (some ⟨sb, 0, none⟩)) := by
            refine World.cell?_setCell_same _ _ _ (?_ : _ = some v1)
            rw [World.cell?_setCell_other _ _ _ _ ne.symm]
            exact c1
          have K5 : KeptP (fun k => k = rb) wr ((wr.setCell ⟨rb, 0, none⟩ (.pointer (some ⟨pb, 0, none⟩))).setCell ⟨rb, 1, none⟩ (.pointer (some ⟨sb, 0, none⟩))) := ((KeptP.refl (fun k => k = rb) wr).setCell (p := ⟨rb, 0, none⟩) rfl _).setCell (p := ⟨rb, 1, none⟩) rfl _
          have b5 := hb2.keptP K5 fun k z y => by rw [z] at y; exact ha2.n2 y
          have BF : Below rb w ((wr.setCell ⟨rb, 0, none⟩ (.pointer (some ⟨pb, 0, none⟩))).setCell ⟨rb, 1, none⟩ (.pointer (some ⟨sb, 0, none⟩))) := (ha2.mine.below.setCell (p := ⟨rb, 0, none⟩) (Nat.le_refl _) _).setCell (p := ⟨rb, 1, none⟩) (Nat.le_refl _) _
          have HB := hide b5
          have HF := hide BF
          clear hb2 b5 K5 BF
          go_wp2_with fail
          refine bodyPost_ret (v := .agg #[.pointer (some ⟨pb, 0, none⟩), .pointer (some ⟨sb, 0, none⟩)]) ?_ rfl ⟨pb, sb, rfl, G2, HB.out, ha2.mine.f, HF.out⟩
          have hr : Tryz.f124.results = #[.cell 0 179] := rfl
          simp only [results, hr]
          go_simp
end Go.Proofs.YtmbfdhekplnoaaaGreatDoor

namespace Go.Proofs.YtmbfdhekplnoaaaGreatDoor
open Go.RowKit

open Classical in
noncomputable def tag0 (cb pb m : Nat) (G H : Nat → Prop) (k : Nat) : Nat := if k = cb then 1 else if k = pb then 2 else if G k then 3 else if H k then 4 else if k = m then 6 else 0
theorem pcb_first {B : Nat} {w : World} {cb pb sb kb seed g m cap : Nat} {G H : Nat → Prop} {Wn : Nat → Int} (hG : ∀ k, G k → B ≤ k ∧ k ≠ cb ∧ k ≠ pb) (hH : ∀ k, H k → B ≤ k ∧ k ≠ cb ∧ k ≠ pb ∧ ¬ G k) (hm : m ≠ cb ∧ m ≠ pb ∧ ¬ G m ∧ ¬ H m ∧ B ≤ m ∧ m < w.heap.size) (n1 : cb ≠ pb) (b1 : B ≤ cb) (b2 : B ≤ pb) (hB : B ≤ w.heap.size) (hv : ∀ k, IsVar k → k < B)
    (c0 : w.cell? ⟨cb, 0, none⟩ = some (.pointer (some ⟨pb, 0, none⟩))) (c1 : w.cell? ⟨cb, 1, none⟩ = some (.pointer (some ⟨sb, 0, none⟩))) (c2 : w.cell? ⟨cb, 2, none⟩ = some (.pointer (some ⟨kb, 0, none⟩))) (c3 : w.cell? ⟨cb, 3, none⟩ = some (.int .u64 seed))
    (c4 : w.cell? ⟨cb, 4, none⟩ = some (.int .i64 0)) (c5 : w.cell? ⟨cb, 5, none⟩ = some (.int .i64 0)) (c6 : w.cell? ⟨cb, 6, none⟩ = some (.int .i64 0)) (c7 : w.cell? ⟨cb, 7, none⟩ = some (.slice (some ⟨m, 0, none⟩) 3 cap)) (c8 : w.cell? ⟨cb, 8, none⟩ = some (.slice (some ⟨m, 0, none⟩) 3 cap)) (c9 : w.cell? ⟨cb, 9, none⟩ = some (.slice (some ⟨m, 0, none⟩) 3 cap)) (f : ∀ i, w.frozen? ⟨cb, i, none⟩ = false)
    (p : Pu) (s : Sk) (hp : PurAt w pb p) (hs : PSk G w sb s g) (hc : PCt H w kb ⟨[], 0⟩ g) (I : Ints w m 0 3 Wn) : ∃ F, PCb sb F w cb ⟨p, s, ⟨[], 0⟩, seed, 0, 0, 0, [Wn, Wn, Wn]⟩ g ∧ ∀ k, F k → B ≤ k := by
  have t3 : (fun k => tag0 cb pb m G H k = 3) = G := funext fun k => propext ⟨fun e => by
    unfold tag0 at e
    repeat' split at e
    all_goals (first | assumption | (cases e)), fun z => by
    obtain ⟨_, a, b⟩ := hG k z
    unfold tag0
    rw [if_neg a, if_neg b, if_pos z]⟩
  have t4 : (fun k => tag0 cb pb m G H k = 4) = H := funext fun k => propext ⟨fun e => by
    unfold tag0 at e
    repeat' split at e
    all_goals (first | assumption | (cases e)), fun z => by
    obtain ⟨_, a, b, c⟩ := hH k z
    unfold tag0
    rw [if_neg a, if_neg b, if_neg c, if_pos z]⟩
  have nz : ∀ k, tag0 cb pb m G H k ≠ 0 → k = cb ∨ k = pb ∨ G k ∨ H k ∨ k = m := fun k e => by
    unfold tag0 at e
    repeat' split at e
    all_goals first | (exact absurd rfl e) | (simp only [*, true_or, or_true])
  have lo : ∀ k, tag0 cb pb m G H k ≠ 0 → B ≤ k := fun k e => by
    rcases nz k e with z | z | z | z | z
    · omega
    · omega
    · exact (hG k z).1
    · exact (hH k z).1
    · rw [z]; exact hm.2.2.2.2.1
  refine ⟨fun k => tag0 cb pb m G H k ≠ 0, ⟨tag0 cb pb m G H, pb, kb, fun _ => .slice (some ⟨m, 0, none⟩) 3 cap, fun _ => Iff.rfl, ?_⟩, lo⟩
  exact { c0 := c0, c1 := c1, c2 := c2, c3 := c3, c4 := c4, c5 := c5, c6 := c6, c7 := c7, c8 := c8, c9 := c9, f := f, p := hp
          s := by rw [t3]; exact hs
          c := by rw [t4]; exact hc
          pics := ⟨fun i W hi hW => by
            have hW : [Wn, Wn, Wn][i]? = some W := hW
            have e : W = Wn := by
              have : i = 0 ∨ i = 1 ∨ i = 2 := by omega
              rcases this with rfl | rfl | rfl <;> (cases hW; rfl)
            refine ⟨m, cap, rfl, ?_, e ▸ I⟩
            unfold tag0
            rw [if_neg hm.1, if_neg hm.2.1, if_neg hm.2.2.1, if_neg hm.2.2.2.1, if_pos rfl]⟩
          tc := by unfold tag0; rw [if_pos rfl]
          tp := by unfold tag0; rw [if_neg n1.symm, if_pos rfl]
          lt := fun k e => by
            rcases nz k e with z | z | z | z | z
            · rw [z]; exact cell_lt c0
            · rw [z]; exact hp.lt
            · exact hs.lt k z
            · exact hc.lt k z
            · rw [z]; exact hm.2.2.2.2.2
          vin := fun k z => Nat.lt_of_lt_of_le (hv k z) hB
          vs := fun k e z => by have := lo k e; have := hv k z; omega }
def picsTo (w : World) (cb : Nat) (v : Value) : Nat → World
  | 0 => w
  | j + 1 => (picsTo w cb v j).setCell ⟨cb, 7 + j, none⟩ v
theorem picsTo_other {w : World} {cb : Nat} {v : Value} (a : Addr) : ∀ j, (∀ i, i < j → (⟨cb, 7 + i, none⟩ : Addr) ≠ a) → (picsTo w cb v j).cell? a = w.cell? a
  | 0, _ => rfl
  | j + 1, h => by
    show ((picsTo w cb v j).setCell ⟨cb, 7 + j, none⟩ v).cell? a = _
    rw [World.cell?_setCell_other _ _ _ _ (h j (by omega))]
    exact picsTo_other a j fun i hi => h i (by omega)
theorem picsTo_frozen {w : World} {cb : Nat} {v : Value} (a : Addr) : ∀ j, (picsTo w cb v j).frozen? a = w.frozen? a
  | 0 => rfl
  | j + 1 => by
    show ((picsTo w cb v j).setCell ⟨cb, 7 + j, none⟩ v).frozen? a = _
    rw [World.frozen?_setCell]
    exact picsTo_frozen a j
theorem picsTo_kept {w : World} {cb : Nat} {v : Value} : ∀ j, KeptP (fun k => k = cb) w (picsTo w cb v j)
  | 0 => KeptP.refl _ _
  | j + 1 => (picsTo_kept j).setCell (p := ⟨cb, 7 + j, none⟩) rfl _
theorem picsTo_in {w : World} {cb : Nat} {v u : Value} : ∀ j i, i < j → (∀ i, i < j → w.cell? ⟨cb, 7 + i, none⟩ = some u) → (picsTo w cb v j).cell? ⟨cb, 7 + i, none⟩ = some v
  | j + 1, i, hi, h => by
    show ((picsTo w cb v j).setCell ⟨cb, 7 + j, none⟩ v).cell? ⟨cb, 7 + i, none⟩ = _
    by_cases e : i = j
    · subst e
      refine World.cell?_setCell_same _ _ _ (?_ : _ = some u)
      rw [picsTo_other _ i fun k hk z => absurd (show 7 + k = 7 + i from congrArg Addr.off z) (by omega)]
      exact h i (by omega)
    · rw [World.cell?_setCell_other _ _ _ _ (fun z => absurd (show 7 + j = 7 + i from congrArg Addr.off z) (by omega))]
      exact picsTo_in j i (by omega) fun k hk => h k (by omega)
set_option maxRecDepth 100000 in
set_option maxHeartbeats 4000000 in
theorem pcb_new (seed : Nat) (_hs : seed < W64) (A : Nat → Addr) (w : World) (hL : ChLaid8 w A) :
    Calls Tryz.prog 57 #[.int .u64 seed] w fun e w' => ∃ cb F sb, e = .returned (.pointer (some ⟨cb, 0, none⟩)) ∧ PCb sb F w' cb (chNew seed) 10000 ∧ (∀ k, F k → w.heap.size ≤ k) ∧ Below w.heap.size w w' := by
  go_enter Tryz.func57, Tryz.ntmps57
  go_wp2_with fail
  refine (bks_open A w hL).mono ?_
  rintro e w1 ⟨pb, sb, G, rfl, hb1, hf1, hB1⟩
  have HB1 := hide hb1
  clear hb1
  go_wp2_with fail
  refine (pc_new w1).mono ?_
  rintro e w2 ⟨kb, H, rfl, hc2, hH, hB2⟩
  have HC2 := hide hc2
  clear hc2
  have A3 : Below w2.heap.size w2 (w2.alloc (.cells #[.pointer (some ⟨pb, 0, none⟩), .pointer (some ⟨sb, 0, none⟩), .pointer (some ⟨kb, 0, none⟩), .int .u64 seed, .int .i64 0, .int .i64 0, .int .i64 0, .slice none 0 0, .slice none 0 0, .slice none 0 0] 185)) := (Below.refl _ _).alloc (Nat.le_refl _) _
  have k0 : (w2.alloc (.cells #[.pointer (some ⟨pb, 0, none⟩), .pointer (some ⟨sb, 0, none⟩), .pointer (some ⟨kb, 0, none⟩), .int .u64 seed, .int .i64 0, .int .i64 0, .int .i64 0, .slice none 0 0, .slice none 0 0, .slice none 0 0] 185)).cell? ⟨w2.heap.size, 0, none⟩ = _ := cell_new _ _ _ _ _ _ rfl rfl
  have k1 : (w2.alloc (.cells #[.pointer (some ⟨pb, 0, none⟩), .pointer (some ⟨sb, 0, none⟩), .pointer (some ⟨kb, 0, none⟩), .int .u64 seed, .int .i64 0, .int .i64 0, .int .i64 0, .slice none 0 0, .slice none 0 0, .slice none 0 0] 185)).cell? ⟨w2.heap.size, 1, none⟩ = some (.pointer (some ⟨sb, 0, none⟩)) := cell_new _ _ _ _ _ _ rfl rfl
  have k2 : (w2.alloc (.cells #[.pointer (some ⟨pb, 0, none⟩), .pointer (some ⟨sb, 0, none⟩), .pointer (some ⟨kb, 0, none⟩), .int .u64 seed, .int .i64 0, .int .i64 0, .int .i64 0, .slice none 0 0, .slice none 0 0, .slice none 0 0] 185)).cell? ⟨w2.heap.size, 2, none⟩ = _ := cell_new _ _ _ _ _ _ rfl rfl
  have k3 : (w2.alloc (.cells #[.pointer (some ⟨pb, 0, none⟩), .pointer (some ⟨sb, 0, none⟩), .pointer (some ⟨kb, 0, none⟩), .int .u64 seed, .int .i64 0, .int .i64 0, .int .i64 0, .slice none 0 0, .slice none 0 0, .slice none 0 0] 185)).cell? ⟨w2.heap.size, 3, none⟩ = _ := cell_new _ _ _ _ _ _ rfl rfl
  have k4 : (w2.alloc (.cells #[.pointer (some ⟨pb, 0, none⟩), .pointer (some ⟨sb, 0, none⟩), .pointer (some ⟨kb, 0, none⟩), .int .u64 seed, .int .i64 0, .int .i64 0, .int .i64 0, .slice none 0 0, .slice none 0 0, .slice none 0 0] 185)).cell? ⟨w2.heap.size, 4, none⟩ = _ := cell_new _ _ _ _ _ _ rfl rfl
  have k5 : (w2.alloc (.cells #[.pointer (some ⟨pb, 0, none⟩), .pointer (some ⟨sb, 0, none⟩), .pointer (some ⟨kb, 0, none⟩), .int .u64 seed, .int .i64 0, .int .i64 0, .int .i64 0, .slice none 0 0, .slice none 0 0, .slice none 0 0] 185)).cell? ⟨w2.heap.size, 5, none⟩ = _ := cell_new _ _ _ _ _ _ rfl rfl
  have k6 : (w2.alloc (.cells #[.pointer (some ⟨pb, 0, none⟩), .pointer (some ⟨sb, 0, none⟩), .pointer (some ⟨kb, 0, none⟩), .int .u64 seed, .int .i64 0, .int .i64 0, .int .i64 0, .slice none 0 0, .slice none 0 0, .slice none 0 0] 185)).cell? ⟨w2.heap.size, 6, none⟩ = _ := cell_new _ _ _ _ _ _ rfl rfl
  have kz : ∀ i, i < 3 → (w2.alloc (.cells #[.pointer (some ⟨pb, 0, none⟩), .pointer (some ⟨sb, 0, none⟩), .pointer (some ⟨kb, 0, none⟩), .int .u64 seed, .int .i64 0, .int .i64 0, .int .i64 0, .slice none 0 0, .slice none 0 0, .slice none 0 0] 185)).cell? ⟨w2.heap.size, 7 + i, none⟩ = some (.slice none 0 0) := fun i hi => by
    have : i = 0 ∨ i = 1 ∨ i = 2 := by omega
    rcases this with rfl | rfl | rfl <;> exact cell_new _ _ _ _ _ _ rfl rfl
  have kf : ∀ i, (w2.alloc (.cells #[.pointer (some ⟨pb, 0, none⟩), .pointer (some ⟨sb, 0, none⟩), .pointer (some ⟨kb, 0, none⟩), .int .u64 seed, .int .i64 0, .int .i64 0, .int .i64 0, .slice none 0 0, .slice none 0 0, .slice none 0 0] 185)).frozen? ⟨w2.heap.size, i, none⟩ = false := fun i => World.frozen?_alloc_at _ _ _ _ rfl
  have b3 := (HB1.out.below hB2).below A3
  have c3 := HC2.out.keptP (KeptP.of_below (F := fun _ => False) A3) fun _ z => z.elim
  have l1 := HB1.out.lt
  have l2 := HC2.out.lt
  have P := pr_picture G sb stakes0 stakes0_ok 6012 _ b3.s
  have Q0 := hide k0
  have Q2 := hide k2
  have Q3 := hide k3
  have Q4 := hide k4
  have Q5 := hide k5
  have Q6 := hide k6
  have B3 := hide b3
  have C3 := hide c3
  have VI : Hid (∀ k, IsVar k → k < w.heap.size) := hL.vin
  clear k0 k2 k3 k4 k5 k6 b3 c3 HB1 HC2 hL
  go_wp2_with fail
  have y1 := hB1.size
  have y2 := hB2.size
  have y3 := A3.size
  have BW : Below w.heap.size w (w2.alloc (.cells #[.pointer (some ⟨pb, 0, none⟩), .pointer (some ⟨sb, 0, none⟩), .pointer (some ⟨kb, 0, none⟩), .int .u64 seed, .int .i64 0, .int .i64 0, .int .i64 0, .slice none 0 0, .slice none 0 0, .slice none 0 0] 185)) := (hB1.trans (hB2.mono y1)).trans (A3.mono (by omega))
  have lc : w2.heap.size < (w2.alloc (.cells #[.pointer (some ⟨pb, 0, none⟩), .pointer (some ⟨sb, 0, none⟩), .pointer (some ⟨kb, 0, none⟩), .int .u64 seed, .int .i64 0, .int .i64 0, .int .i64 0, .slice none 0 0, .slice none 0 0, .slice none 0 0] 185)).heap.size := cell_lt k1
  clear hB1 hB2 A3
  generalize hcb : w2.heap.size = cb at *
  generalize (w2.alloc (.cells #[.pointer (some ⟨pb, 0, none⟩), .pointer (some ⟨sb, 0, none⟩), .pointer (some ⟨kb, 0, none⟩), .int .u64 seed, .int .i64 0, .int .i64 0, .int .i64 0, .slice none 0 0, .slice none 0 0, .slice none 0 0] 185)) = w3 at *
  refine P.mono ?_
  rintro e w4 ⟨m, cap, rfl, ⟨hm, hm1⟩, I, hB4⟩
  have y4 := hB4.size
  have B4 : Below w.heap.size w w4 := BW.trans (hB4.mono (by omega))
  have b4 := B3.out.below hB4
  have c4 := C3.out.keptP (KeptP.of_below (F := fun _ => False) hB4) fun _ z => z.elim
  have z4 : ∀ i, i < 3 → w4.cell? ⟨cb, 7 + i, none⟩ = some (.slice none 0 0) := fun i hi => was_cellP hB4 (kz i hi)
  have f4 : ∀ i, w4.frozen? ⟨cb, i, none⟩ = false := fun i => by rw [hB4.frozen (p := ⟨cb, i, none⟩) lc]; exact kf i
  have R0 := hide (was_cellP hB4 Q0.out)
  have R1 := hide (was_cellP hB4 k1)
  have R2 := hide (was_cellP hB4 Q2.out)
  have R3 := hide (was_cellP hB4 Q3.out)
  have R4 := hide (was_cellP hB4 Q4.out)
  have R5 := hide (was_cellP hB4 Q5.out)
  have R6 := hide (was_cellP hB4 Q6.out)
  have HB4 := hide b4
  have HC4 := hide c4
  clear P B3 C3 Q0 Q2 Q3 Q4 Q5 Q6 k1 kz kf BW hB4 b4 c4
  go_wp2_with fail
  go_loopw [17] (fun i wr => ∃ j : Nat, j ≤ 3 ∧ i = .int .i64 j ∧ wr = picsTo w4 cb (.slice (some ⟨m, 0, none⟩) 3 cap) j) (fun i _ => 3 - (intOf i).toNat)
  case atStart => exact ⟨0, by omega, rfl, rfl⟩
  case round =>
    obtain ⟨j, hj, rfl, hwr⟩ := hrel
    by_cases hlt : j < 3
    · have jl : (j : Int) < 3 := by omega
      have cj : wr.cell? ⟨cb, 7 + j, none⟩ = some (.slice none 0 0) := by
        rw [hwr, picsTo_other _ j fun k hk z => absurd (show 7 + k = 7 + j from congrArg Addr.off z) (by omega)]
        exact z4 j hlt
      have fj : wr.frozen? ⟨cb, 7 + j, none⟩ = false := by rw [hwr, picsTo_frozen]; exact f4 _
      have HW := hide hwr
      clear hwr z4 f4
      go_wp2_with fail
      go_roundw
      case rel => exact ⟨j + 1, by omega, by go_num, by rw [HW.out]; rfl⟩
      case measure => simp [intOf]; omega
    · obtain rfl : 3 = j := by omega
      clear hlt hj
      have jl : ¬ ((3 : Nat) : Int) < 3 := by omega
      have HW := hide hwr
      clear hwr
      go_wp2_with fail
      go_ret
      have hwr := HW.out
      have K := picsTo_kept (w := w4) (cb := cb) (v := .slice (some ⟨m, 0, none⟩) 3 cap) 3
      rw [← hwr] at K
      have old : ∀ {i : Nat} {u : Value}, i < 7 → w4.cell? ⟨cb, i, none⟩ = some u → wr.cell? ⟨cb, i, none⟩ = some u := fun {i u} hi e => by
        rw [hwr, picsTo_other _ 3 fun k hk z => absurd (show 7 + k = i from congrArg Addr.off z) (by omega)]
        exact e
      have new : ∀ i, i < 3 → wr.cell? ⟨cb, 7 + i, none⟩ = some (.slice (some ⟨m, 0, none⟩) 3 cap) := fun i hi => by
        rw [hwr]
        exact picsTo_in 3 i hi z4
      have own : ∀ k, bksOwn pb G k → w.heap.size ≤ k ∧ k < w1.heap.size := fun k hk => ⟨hf1 k hk, l1 k hk⟩
      have b5 := HB4.out.keptP K fun k z y => by have := own k y; omega
      have c5 := HC4.out.keptP K fun k z y => by have := l2 k y; omega
      have BF : Below w.heap.size w wr := B4.trans (K.below (B := w.heap.size) (by omega) fun k z => by omega)
      obtain ⟨F, hF, lo⟩ := pcb_first (B := w.heap.size) (w := wr) (cb := cb) (pb := pb) (sb := sb) (kb := kb) (seed := seed) (g := 6012) (m := m) (cap := cap) (G := G) (H := H) (Wn := stakes0.pic)
        (fun k q => by have := own k (.inr q); exact ⟨by omega, by omega, fun z => b5.np (z ▸ q)⟩)
        (fun k q => by have := hH k q; have := l2 k q; have := own pb (.inl rfl); exact ⟨by omega, by omega, by omega, fun z => by have := own k (.inr z); omega⟩)
        ⟨by omega, fun z => by have := own pb (.inl rfl); omega, fun z => by have := own m (.inr z); omega, fun z => by have := l2 m z; omega, by omega, by have := K.size; omega⟩
        (fun z => by have := own pb (.inl rfl); omega) (by omega) (own pb (.inl rfl)).1 BF.size VI.out
        (old (by omega) R0.out) (old (by omega) R1.out) (old (by omega) R2.out) (old (by omega) R3.out) (old (by omega) R4.out) (old (by omega) R5.out) (old (by omega) R6.out) (new 0 (by omega)) (new 1 (by omega)) (new 2 (by omega)) (fun i => by rw [hwr, picsTo_frozen]; exact f4 i)
        (outTo 3) (stkSt 3) b5.p b5.s (c5.more (by omega)) (fun i hi => K.old (I i hi) (by show ¬ m = cb; omega))
      exact ⟨cb, rfl, F, ⟨sb, hF.more (by omega)⟩, lo, BF⟩
end Go.Proofs.YtmbfdhekplnoaaaGreatDoor

namespace Go.Proofs.YtmbfdhekplnoaaaGreatDoor
open Go.RowKit

section
variable {F : Nat → Prop} {w w' : World} {cb g : Nat} {C : Ch}
end
end Go.Proofs.YtmbfdhekplnoaaaGreatDoor

namespace Go.Proofs.YtmbfdhekplnoaaaGreatDoor
open Go.RowKit Go.Maps

theorem done_of (f b : Nat) (w : World) : Calls Tryz.prog 59 #[.func (.func f) #[] #[.pointer (some ⟨b, 0, none⟩)]] w fun e w' => e = .returned (.func (.func 127) #[] #[.pointer (some ⟨w.heap.size, 0, none⟩)]) ∧ w' = w.alloc (.cells #[.func (.func f) #[] #[.pointer (some ⟨b, 0, none⟩)]] 121) := by
  go_enter Tryz.func59, Tryz.ntmps59
  go_wp2
  go_ret
  exact ⟨rfl, rfl⟩
theorem told_of (f b : Nat) (w : World) : Calls Tryz.prog 69 #[.func (.func f) #[] #[.pointer (some ⟨b, 0, none⟩)]] w fun e w' => e = .returned (.func (.func 132) #[] #[.pointer (some ⟨w.heap.size, 0, none⟩)]) ∧ w' = w.alloc (.cells #[.func (.func f) #[] #[.pointer (some ⟨b, 0, none⟩)]] 129) := by
  go_enter Tryz.func69, Tryz.ntmps69
  go_wp2
  go_ret
  exact ⟨rfl, rfl⟩
theorem seen_of (f b : Nat) (w : World) : Calls Tryz.prog 79 #[.func (.func f) #[] #[.pointer (some ⟨b, 0, none⟩)]] w fun e w' => e = .returned (.func (.func 137) #[] #[.pointer (some ⟨w.heap.size, 0, none⟩)]) ∧ w' = w.alloc (.cells #[.func (.func f) #[] #[.pointer (some ⟨b, 0, none⟩)]] 136) := by
  go_enter Tryz.func79, Tryz.ntmps79
  go_wp2
  go_ret
  exact ⟨rfl, rfl⟩

structure CT (w0 w : World) (m : Nat) (F : List UInt8 → Option (List UInt8 × Nat × Nat)) (Q : List (Nat × Value)) (g : Nat) : Prop where
  own : OwnC w m F g
  q : ∀ x, x ∈ Q → w.cell? ⟨x.1, 0, none⟩ = some x.2
  b : Below w0.heap.size w0 w
  mlo : w0.heap.size ≤ m
  lo : ∀ x, x ∈ Q → w0.heap.size ≤ x.1
theorem CT.next {w0 w : World} {m g : Nat} {F : List UInt8 → Option (List UInt8 × Nat × Nat)} {Q : List (Nat × Value)} (h : CT w0 w m F Q g) (hg : g ≤ 100) (u : Value) (t : TypeId) (k : List UInt8) (hk : k.length ≤ 200) (fm : List UInt8) (f : Nat) (K FM : ByteArray) (eK : K = bs k) (eF : FM = bs fm) :
    ∃ w', (Instr.mapUpdate 69 (.map (some m)) (.string K) (.agg #[.string FM, .func (.func f) #[] #[.pointer (some ⟨w.heap.size, 0, none⟩)]])).run Tryz.prog (w.alloc (.cells #[u] t)) = .ok () w' ∧ CT w0 w' m (moreC F k (fm, f, w.heap.size)) ((w.heap.size, u) :: Q) (g + 1) := by
  subst eK eF
  have hB : Below w.heap.size w (w.alloc (.cells #[u] t)) := (Below.refl _ _).alloc (Nat.le_refl _) _
  have ml := h.own.lt
  obtain ⟨w', hr, ho, hK⟩ := (h.own.of_block (hB.block m ml)).ins hg k hk fm f w.heap.size
  have sz := h.b.size
  have keep : ∀ {b : Nat} {v : Value}, (w.alloc (.cells #[u] t)).cell? ⟨b, 0, none⟩ = some v → w'.cell? ⟨b, 0, none⟩ = some v := fun {b v} e => hK.old e (by
    intro z
    rw [List.mem_singleton] at z
    have z' : b = m := z
    subst z'
    obtain ⟨n, D, ⟨es, clock, hes, _⟩, _⟩ := h.own.of_block (hB.block b ml)
    simp [World.cell?, hes] at e)
  refine ⟨w', hr, ⟨ho, fun x hx => ?_, ?_, h.mlo, fun x hx => ?_⟩⟩
  · rcases List.mem_cons.1 hx with e | e
    · rw [e]
      exact keep (cell_new _ _ _ _ _ _ rfl rfl)
    · exact keep (was_cellP hB (h.q x e))
  · exact (h.b.trans (hB.mono sz)).trans (hK.below (B := w0.heap.size) (Nat.le_trans sz hB.size) fun k hk => by rw [List.mem_singleton] at hk; rw [hk]; exact h.mlo)
  · rcases List.mem_cons.1 hx with e | e
    · rw [e]; exact sz
    · exact h.lo x e
theorem CT.put {w0 w : World} {m g : Nat} {F : List UInt8 → Option (List UInt8 × Nat × Nat)} {Q : List (Nat × Value)} (h : CT w0 w m F Q g) (hg : g ≤ 100) (b : Nat) (k : List UInt8) (hk : k.length ≤ 200) (fm : List UInt8) (f : Nat) (K FM : ByteArray) (eK : K = bs k) (eF : FM = bs fm) :
    ∃ w', (Instr.mapUpdate 69 (.map (some m)) (.string K) (.agg #[.string FM, .func (.func f) #[] #[.pointer (some ⟨b, 0, none⟩)]])).run Tryz.prog w = .ok () w' ∧ CT w0 w' m (moreC F k (fm, f, b)) Q (g + 1) := by
  subst eK eF
  have ml := h.own.lt
  obtain ⟨w', hr, ho, hK⟩ := h.own.ins hg k hk fm f b
  have sz := h.b.size
  refine ⟨w', hr, ⟨ho, fun x hx => hK.old (h.q x hx) ?_, ?_, h.mlo, h.lo⟩⟩
  · intro z
    rw [List.mem_singleton] at z
    have z' : x.1 = m := z
    have e := h.q x hx
    obtain ⟨n, D, ⟨es, clock, hes, _⟩, _⟩ := h.own
    rw [z'] at e
    simp [World.cell?, hes] at e
  · exact h.b.trans (hK.below (B := w0.heap.size) sz fun k hk => by rw [List.mem_singleton] at hk; rw [hk]; exact h.mlo)
def cmdF (pl : Nat) (q : Nat → Nat) : List UInt8 → Option (List UInt8 × Nat × Nat) := moreC (moreC (moreC (moreC (moreC (moreC (moreC (moreC (moreC (moreC (moreC (moreC (moreC (moreC (moreC (fun _ => none) wPay ([68, 68, 78], 127, (q 0))) wStake ([68, 68, 78], 127, (q 1))) wUnstake ([68, 68, 78], 127, (q 2))) wAccuse ([68, 68, 78, 78], 127, (q 3))) wFree ([68], 132, (q 4))) wBake ([68], 72, pl)) wCycle ([], 127, (q 5))) wTurn ([68], 132, (q 6))) wHas ([68], 137, (q 7))) wStaked ([68], 137, (q 8))) wValue ([68, 68], 137, (q 9))) wWaits ([68, 68, 78], 137, (q 10))) wSupply ([], 137, (q 11))) wBonus ([], 137, (q 12))) wAt ([], 92, pl)
def cmdQ (cb sb pl ss : Nat) (q : Nat → Nat) : List (Nat × Value) := [(q 12, .func (.func 90) #[] #[.pointer (some ⟨pl, 0, none⟩)]), (q 11, .func (.func 88) #[] #[.pointer (some ⟨pl, 0, none⟩)]), (q 10, .func (.func 86) #[] #[.pointer (some ⟨ss, 0, none⟩)]), (q 9, .func (.func 84) #[] #[.pointer (some ⟨ss, 0, none⟩)]), (q 8, .func (.func 82) #[] #[.pointer (some ⟨ss, 0, none⟩)]), (q 7, .func (.func 80) #[] #[.pointer (some ⟨pl, 0, none⟩)]), (q 6, .func (.func 77) #[] #[.pointer (some ⟨pl, 0, none⟩)]), (q 5, .func (.func 75) #[] #[.pointer (some ⟨pl, 0, none⟩)]), (q 4, .func (.func 70) #[] #[.pointer (some ⟨pl, 0, none⟩)]), (q 3, .func (.func 66) #[] #[.pointer (some ⟨pl, 0, none⟩)]), (q 2, .func (.func 64) #[] #[.pointer (some ⟨pl, 0, none⟩)]), (q 1, .func (.func 62) #[] #[.pointer (some ⟨pl, 0, none⟩)]), (q 0, .func (.func 60) #[] #[.pointer (some ⟨pl, 0, none⟩)]), (ss, .pointer (some ⟨sb, 0, none⟩)), (pl, .pointer (some ⟨cb, 0, none⟩))]
set_option maxRecDepth 100000 in
set_option maxHeartbeats 4000000 in
theorem commands_of {sb : Nat} (Fs : Nat → Prop) (cb : Nat) (C : Ch) (g : Nat) (w : World) (h : PCb sb Fs w cb C g) :
    Calls Tryz.prog 26 #[.agg #[.pointer (some ⟨cb, 0, none⟩)]] w fun e w' => ∃ m pl ss q, e = .returned (.map (some m)) ∧ CT w w' m (cmdF pl q) (cmdQ cb sb pl ss q) 15 := by
  have hB0 : Below w.heap.size w (w.alloc (.cells #[.pointer (some ⟨cb, 0, none⟩)] 72)) := (Below.refl _ _).alloc (Nat.le_refl _) _
  have h1 := h.below hB0
  have k0 : (w.alloc (.cells #[.pointer (some ⟨cb, 0, none⟩)] 72)).cell? ⟨w.heap.size, 0, none⟩ = some (.pointer (some ⟨cb, 0, none⟩)) := cell_new _ _ _ _ _ _ rfl rfl
  clear h
  go_enter Tryz.func26, Tryz.ntmps26
  go_wp2_with fail
  refine (pcb_stakes Fs cb C g _ h1).mono ?_
  rintro e w1 ⟨_, rfl, _, _, hB1⟩
  have p1 := was_cellP hB1 k0
  have B1 : Below w.heap.size w w1 := hB0.trans (hB1.mono hB0.size)
  clear hB0 hB1 h1 k0
  have A2 : Below w1.heap.size w1 (w1.alloc (.cells #[.pointer (some ⟨sb, 0, none⟩)] 116)) := (Below.refl _ _).alloc (Nat.le_refl _) _
  have A3 : Below w1.heap.size w1 ((w1.alloc (.cells #[.pointer (some ⟨sb, 0, none⟩)] 116)).alloc (.map #[] 0)) := A2.alloc A2.size _
  have T0 : CT w ((w1.alloc (.cells #[.pointer (some ⟨sb, 0, none⟩)] 116)).alloc (.map #[] 0)) (w1.heap.size + 1) (fun _ => none) [(w1.heap.size, .pointer (some ⟨sb, 0, none⟩)), (w.heap.size, .pointer (some ⟨cb, 0, none⟩))] 0 := by
    have e : (w1.alloc (.cells #[.pointer (some ⟨sb, 0, none⟩)] 116)).heap.size = w1.heap.size + 1 := by simp
    refine ⟨?_, fun x hx => ?_, B1.trans (A3.mono B1.size), Nat.le_succ_of_le B1.size, fun x hx => ?_⟩
    · rw [← e]; exact ownC_made _
    · rcases List.mem_cons.1 hx with e | e
      · subst e
        have c : (w1.alloc (.cells #[.pointer (some ⟨sb, 0, none⟩)] 116)).cell? ⟨w1.heap.size, 0, none⟩ = some (.pointer (some ⟨sb, 0, none⟩)) := cell_new _ _ _ _ _ _ rfl rfl
        exact was_cellP ((Below.refl _ _).alloc (Nat.le_refl _) _) c
      · rw [List.mem_singleton] at e
        subst e
        exact was_cellP A3 p1
    · rcases List.mem_cons.1 hx with e | e
      · subst e; exact B1.size
      · rw [List.mem_singleton] at e
        subst e; exact Nat.le_refl _
  clear A2 A3 B1
  have hmm := @run_makeMap Tryz.prog
  go_wp2_with fail
  clear hmm p1
  generalize hW : (w1.alloc (.cells #[.pointer (some ⟨sb, 0, none⟩)] 116)).alloc (.map #[] 0) = wa at *
  clear hW
  obtain ⟨m, hm⟩ : ∃ m, m = w1.heap.size + 1 := ⟨_, rfl⟩
  rw [← hm] at T0 ⊢
  obtain ⟨ss, hss⟩ : ∃ ss, ss = w1.heap.size := ⟨_, rfl⟩
  rw [← hss] at T0 ⊢
  clear hm hss
  obtain ⟨pl, hpl⟩ : ∃ pl, pl = w.heap.size := ⟨_, rfl⟩
  rw [← hpl] at T0 ⊢
  clear hpl
  refine (done_of 60 pl wa).mono ?_
  rintro e w' ⟨rfl, hw⟩
  rw [hw]
  clear hw w'
  obtain ⟨wb, hr, T1⟩ := T0.next (by omega) (.func (.func 60) #[] #[.pointer (some ⟨pl, 0, none⟩)]) 121 wPay (by decide) [68, 68, 78] 127 { data := #[112, 97, 121] } { data := #[68, 68, 78] } rfl rfl
  clear T0
  obtain ⟨q0, hq0⟩ : ∃ q0, q0 = wa.heap.size := ⟨_, rfl⟩
  rw [← hq0] at T1 hr ⊢
  clear hq0
  go_wp2_with fail
  clear hr
  refine (done_of 62 pl wb).mono ?_
  rintro e w' ⟨rfl, hw⟩
  rw [hw]
  clear hw w'
  obtain ⟨wc, hr, T2⟩ := T1.next (by omega) (.func (.func 62) #[] #[.pointer (some ⟨pl, 0, none⟩)]) 121 wStake (by decide) [68, 68, 78] 127 { data := #[115, 116, 97, 107, 101] } { data := #[68, 68, 78] } rfl rfl
  clear T1
  obtain ⟨q1, hq1⟩ : ∃ q1, q1 = wb.heap.size := ⟨_, rfl⟩
  rw [← hq1] at T2 hr ⊢
  clear hq1
  go_wp2_with fail
  clear hr
  refine (done_of 64 pl wc).mono ?_
  rintro e w' ⟨rfl, hw⟩
  rw [hw]
  clear hw w'
  obtain ⟨wd, hr, T3⟩ := T2.next (by omega) (.func (.func 64) #[] #[.pointer (some ⟨pl, 0, none⟩)]) 121 wUnstake (by decide) [68, 68, 78] 127 { data := #[117, 110, 115, 116, 97, 107, 101] } { data := #[68, 68, 78] } rfl rfl
  clear T2
  obtain ⟨q2, hq2⟩ : ∃ q2, q2 = wc.heap.size := ⟨_, rfl⟩
  rw [← hq2] at T3 hr ⊢
  clear hq2
  go_wp2_with fail
  clear hr
  refine (done_of 66 pl wd).mono ?_
  rintro e w' ⟨rfl, hw⟩
  rw [hw]
  clear hw w'
  obtain ⟨we, hr, T4⟩ := T3.next (by omega) (.func (.func 66) #[] #[.pointer (some ⟨pl, 0, none⟩)]) 121 wAccuse (by decide) [68, 68, 78, 78] 127 { data := #[97, 99, 99, 117, 115, 101] } { data := #[68, 68, 78, 78] } rfl rfl
  clear T3
  obtain ⟨q3, hq3⟩ : ∃ q3, q3 = wd.heap.size := ⟨_, rfl⟩
  rw [← hq3] at T4 hr ⊢
  clear hq3
  go_wp2_with fail
  clear hr
  refine (told_of 70 pl we).mono ?_
  rintro e w' ⟨rfl, hw⟩
  rw [hw]
  clear hw w'
  obtain ⟨wf, hr, T5⟩ := T4.next (by omega) (.func (.func 70) #[] #[.pointer (some ⟨pl, 0, none⟩)]) 129 wFree (by decide) [68] 132 { data := #[102, 114, 101, 101] } { data := #[68] } rfl rfl
  clear T4
  obtain ⟨q4, hq4⟩ : ∃ q4, q4 = we.heap.size := ⟨_, rfl⟩
  rw [← hq4] at T5 hr ⊢
  clear hq4
  obtain ⟨wg, hr2, T6⟩ := T5.put (by omega) pl wBake (by decide) [68] 72 { data := #[98, 97, 107, 101] } { data := #[68] } rfl rfl
  clear T5
  go_wp2_with fail
  clear hr hr2
  refine (done_of 75 pl wg).mono ?_
  rintro e w' ⟨rfl, hw⟩
  rw [hw]
  clear hw w'
  obtain ⟨wh, hr, T7⟩ := T6.next (by omega) (.func (.func 75) #[] #[.pointer (some ⟨pl, 0, none⟩)]) 121 wCycle (by decide) [] 127 { data := #[99, 121, 99, 108, 101] } { data := #[] } rfl rfl
  clear T6
  obtain ⟨q5, hq5⟩ : ∃ q5, q5 = wg.heap.size := ⟨_, rfl⟩
  rw [← hq5] at T7 hr ⊢
  clear hq5
  go_wp2_with fail
  clear hr
  refine (told_of 77 pl wh).mono ?_
  rintro e w' ⟨rfl, hw⟩
  rw [hw]
  clear hw w'
  obtain ⟨wi, hr, T8⟩ := T7.next (by omega) (.func (.func 77) #[] #[.pointer (some ⟨pl, 0, none⟩)]) 129 wTurn (by decide) [68] 132 { data := #[116, 117, 114, 110] } { data := #[68] } rfl rfl
  clear T7
  obtain ⟨q6, hq6⟩ : ∃ q6, q6 = wh.heap.size := ⟨_, rfl⟩
  rw [← hq6] at T8 hr ⊢
  clear hq6
  go_wp2_with fail
  clear hr
  refine (seen_of 80 pl wi).mono ?_
  rintro e w' ⟨rfl, hw⟩
  rw [hw]
  clear hw w'
  obtain ⟨wj, hr, T9⟩ := T8.next (by omega) (.func (.func 80) #[] #[.pointer (some ⟨pl, 0, none⟩)]) 136 wHas (by decide) [68] 137 { data := #[104, 97, 115] } { data := #[68] } rfl rfl
  clear T8
  obtain ⟨q7, hq7⟩ : ∃ q7, q7 = wi.heap.size := ⟨_, rfl⟩
  rw [← hq7] at T9 hr ⊢
  clear hq7
  go_wp2_with fail
  clear hr
  refine (seen_of 82 ss wj).mono ?_
  rintro e w' ⟨rfl, hw⟩
  rw [hw]
  clear hw w'
  obtain ⟨wk, hr, T10⟩ := T9.next (by omega) (.func (.func 82) #[] #[.pointer (some ⟨ss, 0, none⟩)]) 136 wStaked (by decide) [68] 137 { data := #[115, 116, 97, 107, 101, 100] } { data := #[68] } rfl rfl
  clear T9
  obtain ⟨q8, hq8⟩ : ∃ q8, q8 = wj.heap.size := ⟨_, rfl⟩
  rw [← hq8] at T10 hr ⊢
  clear hq8
  go_wp2_with fail
  clear hr
  refine (seen_of 84 ss wk).mono ?_
  rintro e w' ⟨rfl, hw⟩
  rw [hw]
  clear hw w'
  obtain ⟨wl, hr, T11⟩ := T10.next (by omega) (.func (.func 84) #[] #[.pointer (some ⟨ss, 0, none⟩)]) 136 wValue (by decide) [68, 68] 137 { data := #[118, 97, 108, 117, 101] } { data := #[68, 68] } rfl rfl
  clear T10
  obtain ⟨q9, hq9⟩ : ∃ q9, q9 = wk.heap.size := ⟨_, rfl⟩
  rw [← hq9] at T11 hr ⊢
  clear hq9
  go_wp2_with fail
  clear hr
  refine (seen_of 86 ss wl).mono ?_
  rintro e w' ⟨rfl, hw⟩
  rw [hw]
  clear hw w'
  obtain ⟨wm, hr, T12⟩ := T11.next (by omega) (.func (.func 86) #[] #[.pointer (some ⟨ss, 0, none⟩)]) 136 wWaits (by decide) [68, 68, 78] 137 { data := #[119, 97, 105, 116, 115] } { data := #[68, 68, 78] } rfl rfl
  clear T11
  obtain ⟨q10, hq10⟩ : ∃ q10, q10 = wl.heap.size := ⟨_, rfl⟩
  rw [← hq10] at T12 hr ⊢
  clear hq10
  go_wp2_with fail
  clear hr
  refine (seen_of 88 pl wm).mono ?_
  rintro e w' ⟨rfl, hw⟩
  rw [hw]
  clear hw w'
  obtain ⟨wn, hr, T13⟩ := T12.next (by omega) (.func (.func 88) #[] #[.pointer (some ⟨pl, 0, none⟩)]) 136 wSupply (by decide) [] 137 { data := #[115, 117, 112, 112, 108, 121] } { data := #[] } rfl rfl
  clear T12
  obtain ⟨q11, hq11⟩ : ∃ q11, q11 = wm.heap.size := ⟨_, rfl⟩
  rw [← hq11] at T13 hr ⊢
  clear hq11
  go_wp2_with fail
  clear hr
  refine (seen_of 90 pl wn).mono ?_
  rintro e w' ⟨rfl, hw⟩
  rw [hw]
  clear hw w'
  obtain ⟨wo, hr, T14⟩ := T13.next (by omega) (.func (.func 90) #[] #[.pointer (some ⟨pl, 0, none⟩)]) 136 wBonus (by decide) [] 137 { data := #[98, 111, 110, 117, 115] } { data := #[] } rfl rfl
  clear T13
  obtain ⟨q12, hq12⟩ : ∃ q12, q12 = wn.heap.size := ⟨_, rfl⟩
  rw [← hq12] at T14 hr ⊢
  clear hq12
  obtain ⟨wp, hr2, T15⟩ := T14.put (by omega) pl wAt (by decide) [] 92 { data := #[97, 116] } { data := #[] } rfl rfl
  clear T14
  go_wp2_with fail
  go_ret
  exact ⟨m, pl, ss, fun i => [q0, q1, q2, q3, q4, q5, q6, q7, q8, q9, q10, q11, q12].getD i 0, rfl, T15⟩
end Go.Proofs.YtmbfdhekplnoaaaGreatDoor

namespace Go.Proofs.YtmbfdhekplnoaaaGreatDoor
open Go.RowKit

def NumEnd (l : List UInt8) (most : Nat) (w : World) (e : Ending) (w' : World) : Prop := w' = w ∧ ((∃ n : Nat, Spells l most n ∧ n ≤ 9999999 ∧ e = .returned (.tuple #[.int .i64 n, .bool true])) ∨ ((∀ n, ¬ Spells l most n) ∧ e = .returned (.tuple #[.int .i64 0, .bool false])))
theorem takeU_next (l : List UInt8) (q : Nat) (h : q < l.length) : l.take (q + 1) = l.take q ++ [l.getD q 0] := by
  rw [List.take_succ_eq_append_getElem h]
  simp [List.getD, h]
theorem numV_take (l : List UInt8) (q : Nat) (hq : q ≤ 6) (hd : ∀ i, i < q → Digit (l.getD i 0)) (hl : q ≤ l.length) : numV (l.take q) ≤ 999999 := by
  have h := numV_top (l.take q) fun x hx => by
    obtain ⟨i, hi, rfl⟩ := List.mem_iff_getElem.1 hx
    rw [List.length_take] at hi
    have := hd i (by omega)
    rw [List.getElem_take]
    simpa [List.getD, show i < l.length from by omega] using this
  rw [List.length_take, Nat.min_eq_left hl] at h
  have : 10 ^ q ≤ 10 ^ 6 := Nat.pow_le_pow_right (by decide) hq
  omega
theorem bs_list (l : List UInt8) : (bs l).toList = l := by
  rw [ByteArray.toList_eq]
  simp [bs]
set_option maxRecDepth 100000 in
set_option maxHeartbeats 1000000 in
theorem number_bad (l : List UInt8) (most : Nat) (_hm : most ≤ 7) (hl : l.length ≤ 200) (hb : BadHead l most) (w : World) :
    Calls Tryz.prog 219 #[.string (bs l), .int .i64 most] w (NumEnd l most w) := by
  have zs : (bs l).size = l.length := bs_size l
  have no : Hid (∀ n, ¬ Spells l most n) := hide fun n z => z.1 hb
  have t0 := bs_list l
  by_cases c1 : l = []
  · subst c1
    have t1 : (bs []).toList.isEmpty = true := by rw [t0]; rfl
    clear t0 hb
    go_enter Tryz.func219, Tryz.ntmps219
    go_wp2_with fail
    all_goals (go_ret2; exact ⟨rfl, .inr ⟨no.out, rfl⟩⟩)
  · have t1 : (bs l).toList.isEmpty = false := by rw [t0]; cases l with | nil => exact absurd rfl c1 | cons => rfl
    have t1' : ¬ (bs l).toList = [] := by rw [t0]; exact c1
    by_cases c2 : most < l.length
    · clear t0 hb
      go_enter Tryz.func219, Tryz.ntmps219
      go_wp2_with fail
      all_goals (go_ret2; exact ⟨rfl, .inr ⟨no.out, rfl⟩⟩)
    · obtain ⟨c3, c4⟩ : 1 < l.length ∧ l.getD 0 0 = 48 := by
        rcases hb with z | z | z
        · exact absurd z c1
        · exact absurd z c2
        · exact z
      have c5 : l.length ≤ most := by omega
      have h0 : 0 < (bs l).size := by omega
      have t3 : ((((bs l)[0]'h0).toNat : Int) == 48) = true := by
        have : (bs l)[0]'h0 = l.getD 0 0 := by
          cases l with
          | nil => exact absurd rfl c1
          | cons x t => rfl
        rw [this, c4]; rfl
      clear t0 hb c4
      go_enter Tryz.func219, Tryz.ntmps219
      go_wp2_with fail
      all_goals (go_ret2; exact ⟨rfl, .inr ⟨no.out, rfl⟩⟩)
set_option maxRecDepth 100000 in
set_option maxHeartbeats 1000000 in
theorem number_good (l : List UInt8) (most : Nat) (hm : most ≤ 7) (_hl : l.length ≤ 200) (hb : ¬ BadHead l most) (w : World) :
    Calls Tryz.prog 219 #[.string (bs l), .int .i64 most] w (NumEnd l most w) := by
  have zs : (bs l).size = l.length := bs_size l
  have t0 := bs_list l
  have c1 : l ≠ [] := fun z => hb (.inl z)
  have c2 : l.length ≤ most := Nat.le_of_not_lt fun z => hb (.inr (.inl z))
  have c2' : ¬ most < l.length := by omega
  have p0 : 0 < l.length := List.length_pos_iff.2 c1
  have t1 : (bs l).toList.isEmpty = false := by rw [t0]; cases l with | nil => exact absurd rfl c1 | cons => rfl
  have h0 : 0 < (bs l).size := by omega
  have t3 : 1 < l.length → ((((bs l)[0]'h0).toNat : Int) == 48) = false := fun c3 => by
    have e : (bs l)[0]'h0 = l.getD 0 0 := by
      cases l with
      | nil => exact absurd rfl c1
      | cons x t => rfl
    have n : l.getD 0 0 ≠ 48 := fun z => hb (.inr (.inr ⟨c3, z⟩))
    rw [e]
    refine beq_eq_false_iff_ne.2 fun z => n (UInt8.toNat_inj.1 ?_)
    have : (48 : UInt8).toNat = 48 := rfl
    omega
  have H := hide hb
  clear t0 hb c1
  go_enter Tryz.func219, Tryz.ntmps219
  by_cases c3 : 1 < l.length
  all_goals
    first | have t4 := t3 c3 | skip
    clear t3
    go_wp2_with fail
    go_loopg [6, 28] l.length (fun g n i wr => wr = w ∧ ∃ q : Nat, q ≤ l.length ∧ g = l.length - q ∧ i = .int .i64 q ∧ n = .int .i64 (numV (l.take q)) ∧ Hid (∀ i, i < q → Digit (l.getD i 0)))
    case atStart => exact ⟨rfl, 0, Nat.zero_le _, rfl, rfl, rfl, hide fun i hi => by omega⟩
    case round =>
      obtain ⟨hwr, q, hq, rfl, rfl, rfl, hd⟩ := hrel
      obtain rfl := hwr.symm
      clear hwr
      by_cases hlt : q < l.length
      · have b1 := numV_take l q (by omega) hd.out (by omega)
        have ix := index_form l q hlt w
        have e1 := hide (numV_next (l.take q) (l.getD q 0))
        have tn := hide (takeU_next l q hlt)
        have hd2 : Hid (Digit (l.getD q 0) → ∀ i, i < q + 1 → Digit (l.getD i 0)) := hide fun z i hi => by
          rcases Nat.lt_or_eq_of_le (Nat.le_of_lt_succ hi) with k | k
          · exact hd.out i k
          · rw [k]; exact z
        have me : Hid (l.getD q 0 ∈ l) := hide (by
          have : l.getD q 0 = l[q] := by simp [List.getD, hlt]
          rw [this]; exact List.getElem_mem hlt)
        generalize hy : l.getD q 0 = y at *
        generalize hnq : numV (l.take q) = nq at *
        obtain ⟨yn, hyn⟩ : ∃ yn : Nat, y.toNat = yn := ⟨_, rfl⟩
        rw [hyn] at ix
        have q1 : (q : Int) < (l.length : Int) := by omega
        by_cases d1 : yn < 48
        · have d2 : (yn : Int) < 48 := by omega
          clear hy hnq
          go_wp2_with fail
          all_goals (go_ret2; exact ⟨rfl, .inr ⟨fun n z => by have := (z.2.1 y me.out).1; omega, rfl⟩⟩)
        · by_cases d3 : 57 < yn
          · have d2 : ¬ (yn : Int) < 48 := by omega
            have d4 : 57 < (yn : Int) := by omega
            clear hy hnq
            go_wp2_with fail
            all_goals (go_ret2; exact ⟨rfl, .inr ⟨fun n z => by have := (z.2.1 y me.out).2; omega, rfl⟩⟩)
          · have d2 : ¬ (yn : Int) < 48 := by omega
            have d4 : ¬ 57 < (yn : Int) := by omega
            have HY := hide hy
            have HN := hide hnq
            clear hy hnq
            go_wp2_with fail
            go_roundg (l.length - (q + 1))
            case rel =>
              refine ⟨rfl, q + 1, by omega, rfl, by go_num, ?_, hide (hd2.out ⟨by omega, by omega⟩)⟩
              rw [tn.out, e1.out, hyn]
              congr 1
              omega
            case measure => omega
      · obtain rfl : l.length = q := by omega
        go_wp2_with fail
        go_ret2
        have dg : ∀ x, x ∈ l → Digit x := fun x hx => by
          obtain ⟨i, hi, rfl⟩ := List.mem_iff_getElem.1 hx
          have := hd.out i hi
          simpa [List.getD, hi] using this
        have tp := numV_top l dg
        have le : 10 ^ l.length ≤ 10 ^ 7 := Nat.pow_le_pow_right (by decide) (by omega)
        exact ⟨rfl, .inl ⟨numV l, ⟨H.out, dg, rfl⟩, by omega, by rw [List.take_length]; rfl⟩⟩
theorem number_of (l : List UInt8) (most : Nat) (hm : most ≤ 7) (hl : l.length ≤ 200) (w : World) :
    Calls Tryz.prog 219 #[.string (bs l), .int .i64 most] w (NumEnd l most w) := by
  by_cases hb : BadHead l most
  · exact number_bad l most hm hl hb w
  · exact number_good l most hm hl hb w
end Go.Proofs.YtmbfdhekplnoaaaGreatDoor

namespace Go.Proofs.YtmbfdhekplnoaaaGreatDoor
open Go.RowKit

theorem Tryz.infoIntN : (Tryz.prog.info? 3).map (fun i => (i.zero, i.size, i.bytes)) = some (some (.int .i64 0), 1, 8) := by kernel_rfl
theorem made_nums (n : Nat) (h : n ≤ 3000) (w : World) : (Instr.makeSlice 35 (.int .i64 (n : Int)) (.int .i64 (n : Int))).run Tryz.prog w = .ok (.slice (some ⟨w.heap.size, 0, none⟩) n n) (w.alloc (.cells (madeCells #[.int .i64 0] n) 3)) :=
  run_make_row' (P := Tryz.prog) 35 3 (.int .i64 0) 8 Tryz.underlying35 Tryz.infoIntN rfl .i64 .i64 n (by omega) (by omega) w
def numTo (N : Nat → Nat) (k : Nat) : Nat → Value := fun i => .int .i64 (if i < k then (N i : Int) else 0)
theorem numTo_next (N : Nat → Nat) (k x : Nat) (j : Nat) : (if j = k then Value.int .i64 (x : Int) else numTo N k j) = numTo (fun i => if i = k then x else N i) (k + 1) j := by
  unfold numTo
  by_cases e : j = k
  · subst e; simp
  · rw [if_neg e]
    by_cases l : j < k
    · rw [if_pos l, if_pos (by omega)]
      exact congrArg (fun z : Nat => Value.int .i64 (z : Int)) (if_neg e).symm
    · rw [if_neg l, if_neg (by omega)]
def NumsEnd (T : Nat → List UInt8) (k : Nat) (f : List UInt8) (w : World) (e : Ending) (w' : World) : Prop :=
  Below w.heap.size w w' ∧ ((∃ N b, Parses T k f N ∧ (∀ i, i < k → N i ≤ 9999999) ∧ e = .returned (.tuple #[.slice (some ⟨b, 0, none⟩) k k, .bool true]) ∧ w.heap.size ≤ b ∧ w'.rowIs b 3 k fun i => .int .i64 (N i)) ∨ ((∀ N, ¬ Parses T k f N) ∧ e = .returned (.tuple #[.slice none 0 0, .bool false])))
set_option maxRecDepth 100000 in
set_option maxHeartbeats 1000000 in
theorem numbers_of (T : Nat → List UInt8) (k : Nat) (hk : k ≤ 300) (hl : ∀ i, i < k → (T i).length ≤ 200) (f : List UInt8) (hf : f.length ≤ 300) (v : Value) (w : World) (hT : TextV w v k T) :
    Calls Tryz.prog 145 #[v, .string (bs f)] w (NumsEnd T k f w) := by
  obtain ⟨a, cap, rfl, hcap, g⟩ := id hT
  have zs : (bs f).size = f.length := bs_size f
  by_cases c1 : k = f.length
  · obtain ⟨n, hn⟩ : ∃ n, f.length = n := ⟨_, rfl⟩
    rw [hn] at zs c1 hf
    subst c1
    have FL := hide hn
    clear hn
    have c2 : ((k : Int) != (k : Int)) = false := by simp
    have mk := made_nums k (by omega) w
    have hB0 : Below w.heap.size w (w.alloc (.cells (madeCells #[.int .i64 0] k) 3)) := (Below.refl _ _).alloc (Nat.le_refl _) _
    have R0 := World.rowIs_made w (.int .i64 0) k 3
    go_enter Tryz.func145, Tryz.ntmps145
    go_wp2_with fail
    go_loopw [21] (fun i wr => ∃ (q : Nat) (N : Nat → Nat), q ≤ k ∧ i = .int .i64 q ∧ Below w.heap.size w wr ∧ wr.rowIs w.heap.size 3 k (numTo N q) ∧ Hid (∀ i, i < q → Spells (T i) (digsOf (f.getD i 0)) (N i) ∧ N i ≤ 9999999)) (fun i _ => k - (intOf i).toNat)
    case atStart => exact ⟨0, fun _ => 0, Nat.zero_le _, rfl, hB0, R0.congr fun i _ => rfl, hide fun i hi => by omega⟩
    case round =>
      obtain ⟨q, N, hq, rfl, hB, R, hN⟩ := hrel
      clear c2 mk hB0 R0
      by_cases hlt : q < k
      · obtain ⟨b, off, rfl, lt, c0'⟩ := g q hlt
        have c0 := line_old hB c0'
        have sl := hl q hlt
        have ix := index_form f q (by rw [FL.out]; exact hlt) wr
        have q1 : (q : Int) < (k : Int) := by omega
        have cq := R.cell hlt
        have fq := R.frozen q
        generalize hy : f.getD q 0 = y at *
        generalize ht : T q = t at *
        obtain ⟨yn, hyn⟩ : ∃ yn : Nat, y.toNat = yn := ⟨_, rfl⟩
        rw [hyn] at ix
        have HW := hide hy
        have HT := hide ht
        clear hy ht g c0' hl hT
        by_cases hyD : y = 68
        · have d1 : ((yn : Int) == 68) = true := by rw [← hyn, hyD]; rfl
          have P : Calls Tryz.prog 219 #[.string (bs t), .int .i64 1] wr (NumEnd t 1 wr) := number_of t 1 (by omega) sl wr
          have ed : digsOf y = 1 := by rw [hyD]; rfl
          have HE := hide ed
          clear ed hyD hyn
          go_wp2_with fail
          refine P.mono ?_
          rintro e w1 ⟨hw1, z⟩
          obtain rfl := hw1.symm
          clear hw1 P
          rcases z with ⟨n, hS, hn, rfl⟩ | ⟨hS, rfl⟩
          · have HS := hide hS
            have R2 := (R.set q (.int .i64 n)).congr fun i _ => numTo_next N q n i
            have B2 : Below w.heap.size w (wr.setCell ⟨w.heap.size, q, none⟩ (.int .i64 n)) := hB.setCell (Nat.le_refl _) _
            have hN2 : Hid (∀ i, i < q + 1 → Spells (T i) (digsOf (f.getD i 0)) ((fun i => if i = q then n else N i) i) ∧ (fun i => if i = q then n else N i) i ≤ 9999999) := hide fun i hi => by
              show Spells _ _ (if i = q then n else N i) ∧ (if i = q then n else N i) ≤ 9999999
              by_cases e : i = q
              · rw [e, HW.out, HT.out, HE.out, if_pos rfl]; exact ⟨HS.out, hn⟩
              · rw [if_neg e]; exact hN.out i (by omega)
            clear hS HS hN hB R
            go_wp2_with fail
            go_roundw
            case rel => exact ⟨q + 1, _, by omega, by go_num, B2, R2, hN2⟩
            case measure => simp [intOf]; omega
          · have HS := hide hS
            have B2 : Below w.heap.size w (wr.setCell ⟨w.heap.size, q, none⟩ (.int .i64 0)) := hB.setCell (Nat.le_refl _) _
            clear hS hB R
            go_wp2_with fail
            go_ret2
            exact ⟨B2, .inr ⟨fun M z => HS.out (M q) (by
              have := z.2 q hlt
              rw [HW.out, HT.out, HE.out] at this
              exact this), rfl⟩⟩
        · have d1 : ((yn : Int) == 68) = false := beq_eq_false_iff_ne.2 fun z => hyD (UInt8.toNat_inj.1 (by have : (68 : UInt8).toNat = 68 := rfl; omega))
          have P : Calls Tryz.prog 219 #[.string (bs t), .int .i64 7] wr (NumEnd t 7 wr) := number_of t 7 (by omega) sl wr
          have ed : digsOf y = 7 := by unfold digsOf; rw [if_neg hyD]
          have HE := hide ed
          clear ed hyD hyn
          go_wp2_with fail
          refine P.mono ?_
          rintro e w1 ⟨hw1, z⟩
          obtain rfl := hw1.symm
          clear hw1 P
          rcases z with ⟨n, hS, hn, rfl⟩ | ⟨hS, rfl⟩
          · have HS := hide hS
            have R2 := (R.set q (.int .i64 n)).congr fun i _ => numTo_next N q n i
            have B2 : Below w.heap.size w (wr.setCell ⟨w.heap.size, q, none⟩ (.int .i64 n)) := hB.setCell (Nat.le_refl _) _
            have hN2 : Hid (∀ i, i < q + 1 → Spells (T i) (digsOf (f.getD i 0)) ((fun i => if i = q then n else N i) i) ∧ (fun i => if i = q then n else N i) i ≤ 9999999) := hide fun i hi => by
              show Spells _ _ (if i = q then n else N i) ∧ (if i = q then n else N i) ≤ 9999999
              by_cases e : i = q
              · rw [e, HW.out, HT.out, HE.out, if_pos rfl]; exact ⟨HS.out, hn⟩
              · rw [if_neg e]; exact hN.out i (by omega)
            clear hS HS hN hB R
            go_wp2_with fail
            go_roundw
            case rel => exact ⟨q + 1, _, by omega, by go_num, B2, R2, hN2⟩
            case measure => simp [intOf]; omega
          · have HS := hide hS
            have B2 : Below w.heap.size w (wr.setCell ⟨w.heap.size, q, none⟩ (.int .i64 0)) := hB.setCell (Nat.le_refl _) _
            clear hS hB R
            go_wp2_with fail
            go_ret2
            exact ⟨B2, .inr ⟨fun M z => HS.out (M q) (by
              have := z.2 q hlt
              rw [HW.out, HT.out, HE.out] at this
              exact this), rfl⟩⟩
      · obtain rfl : q = k := by omega
        have q1 : ¬ (q : Int) < (q : Int) := by omega
        clear hl hT g
        go_wp2_with fail
        go_ret2
        exact ⟨hB, .inl ⟨N, w.heap.size, ⟨FL.out.symm, fun i hi => (hN.out i hi).1⟩, fun i hi => (hN.out i hi).2, rfl, Nat.le_refl _, R.congr fun i hi => by unfold numTo; rw [if_pos hi]⟩⟩
  · have c2 : ((k : Int) != (f.length : Int)) = true := by simp; omega
    have c3 : ¬ (k : Int) = (f.length : Int) := by omega
    go_enter Tryz.func145, Tryz.ntmps145
    go_wp2_with fail
    go_ret2
    exact ⟨Below.refl _ _, .inr ⟨fun N z => c1 z.1, rfl⟩⟩
end Go.Proofs.YtmbfdhekplnoaaaGreatDoor
