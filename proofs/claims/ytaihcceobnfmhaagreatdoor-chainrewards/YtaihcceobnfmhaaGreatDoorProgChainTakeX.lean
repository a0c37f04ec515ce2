/-
  The program's chain by its contracts: the next picture.
  The program's chain by its contracts: a picture is taken.
-/
import Derived.Test.YtaihcceobnfmhaaGreatDoorProgPictX
import Derived.Deep.RegionWith
import Derived.Deep.RegionLaw
import Derived.Deep.QuietTactic
import Derived.BigQuiet
import Derived.Laws.IdiomCopy
namespace Go.Proofs.YtaihcceobnfmhaaGreatDoor
open Go.RowKit

/-- a number of its own is written -/
theorem PChAt.num {tag : Nat → Nat} {w : World} {cb pb sb kb g : Nat} {xs : Nat → Value} {C : Ch} (h : PChAt tag w cb pb sb kb xs C g) (cy lv : Nat) (bo : Int) (ps : List (Nat → Int)) (hps : ps.drop cy = C.pics.drop C.cyc) (i : Nat) (x : Int) (hi : (i = 4 ∧ x = cy ∧ lv = C.lev ∧ bo = C.bon) ∨ (i = 5 ∧ x = lv ∧ cy = C.cyc ∧ bo = C.bon) ∨ (i = 6 ∧ x = bo ∧ cy = C.cyc ∧ lv = C.lev)) :
    PChAt tag (w.setCell ⟨cb, i, none⟩ (.int .i64 x)) cb pb sb kb xs { C with cyc := cy, lev := lv, bon := bo, pics := ps } g := by
  have hK : KeptP (fun k => tag k = 1) w (w.setCell ⟨cb, i, none⟩ (.int .i64 x)) := KeptP.setCell (F := fun k => tag k = 1) (KeptP.refl _ _) (p := ⟨cb, i, none⟩) h.tc _
  have np : ¬ tag pb = 1 := by rw [h.tp]; decide
  have far : ∀ {j : Nat} {u : Value}, j ≠ i → w.cell? ⟨cb, j, none⟩ = some u → (w.setCell ⟨cb, i, none⟩ (.int .i64 x)).cell? ⟨cb, j, none⟩ = some u := fun {j u} ne e => by
    rw [World.cell?_setCell_other _ _ _ _ (fun z => absurd (congrArg Addr.off z) (fun z => ne z.symm))]; exact e
  have hi' : i = 4 ∨ i = 5 ∨ i = 6 := by omega
  exact { c0 := far (by omega) h.c0, c1 := far (by omega) h.c1, c2 := far (by omega) h.c2, c3 := far (by omega) h.c3
          c4 := by
            rcases hi with ⟨rfl, rfl, _⟩ | ⟨rfl, _, rfl, _⟩ | ⟨rfl, _, rfl, _⟩
            · exact World.cell?_setCell_same _ _ _ h.c4
            · exact far (by omega) h.c4
            · exact far (by omega) h.c4
          c5 := by
            rcases hi with ⟨rfl, _, rfl, _⟩ | ⟨rfl, rfl, _⟩ | ⟨rfl, _, _, rfl⟩
            · exact far (by omega) h.c5
            · exact World.cell?_setCell_same _ _ _ h.c5
            · exact far (by omega) h.c5
          c6 := by
            rcases hi with ⟨rfl, _, _, rfl⟩ | ⟨rfl, _, _, rfl⟩ | ⟨rfl, rfl, _⟩
            · exact far (by omega) h.c6
            · exact far (by omega) h.c6
            · exact World.cell?_setCell_same _ _ _ h.c6
          c7 := far (by omega) h.c7, c8 := far (by omega) h.c8, c9 := far (by omega) h.c9
          f := fun j => by rw [World.frozen?_setCell]; exact h.f j
          p := ⟨⟨fun i hi => hK.old (h.p.raw.s i hi) np, hK.old h.p.raw.c6 np, fun i => by rw [hK.frozen (p := ⟨pb, i, none⟩) h.p.lt np]; exact h.p.raw.f i⟩, h.p.ok⟩
          s := h.s.keptP hK fun k q e => by rw [q] at e; cases e
          c := h.c.keptP hK fun k q e => by rw [q] at e; cases e
          pics := by
            show PicsAt tag _ xs (ps.drop cy)
            rw [hps]
            exact h.pics.keptP hK (fun k e q => by rw [q] at e; cases e)
          tc := h.tc, tp := h.tp
          lt := fun k hk => Nat.lt_of_lt_of_le (h.lt k hk) hK.size
          vin := fun k hk => Nat.lt_of_lt_of_le (h.vin k hk) hK.size, vs := h.vs }
/-- the picture that is next, of stakes and of the one that is last -/
def nextOf (S : Sk) (W : Nat → Int) : Nat → Int := if sumTo S.pic 3 ≠ 0 then S.pic else W
/-- a picture more, the first one gone -/
theorem PChAt.shifted {tag : Nat → Nat} {w wx : World} {cb pb sb kb g m cap : Nat} {xs : Nat → Value} {C : Ch} {Wn : Nat → Int} {ps : List (Nat → Int)} (h : PChAt tag w cb pb sb kb xs C g) (hB : Below w.heap.size w wx)
    (hm : tag m = 6 ∨ w.heap.size ≤ m) (hmx : m < wx.heap.size) (I : Ints wx m 0 3 Wn) (hps : ∀ i, i < 3 → (ps.drop C.cyc)[i]? = if i = 2 then some Wn else (C.pics.drop C.cyc)[i + 1]?) :
    ∃ tag', PChAt tag' (((wx.setCell ⟨cb, 7, none⟩ (xs 1)).setCell ⟨cb, 8, none⟩ (xs 2)).setCell ⟨cb, 9, none⟩ (.slice (some ⟨m, 0, none⟩) 3 cap)) cb pb sb kb (fun i => if i = 2 then .slice (some ⟨m, 0, none⟩) 3 cap else xs (i + 1)) { C with pics := ps } g ∧ (∀ k, k < w.heap.size → tag' k ≠ 0 → tag k ≠ 0) ∧
      KeptP (fun k => tag k ≠ 0) w (((wx.setCell ⟨cb, 7, none⟩ (xs 1)).setCell ⟨cb, 8, none⟩ (xs 2)).setCell ⟨cb, 9, none⟩ (.slice (some ⟨m, 0, none⟩) 3 cap)) := by
  have hsz := hB.size
  have K6 : KeptP (fun k => tag k = 1) w wx := KeptP.of_below hB
  have K7 : KeptP (fun k => tag k = 1) w (((wx.setCell ⟨cb, 7, none⟩ (xs 1)).setCell ⟨cb, 8, none⟩ (xs 2)).setCell ⟨cb, 9, none⟩ (.slice (some ⟨m, 0, none⟩) 3 cap)) := ((K6.setCell (p := ⟨cb, 7, none⟩) h.tc _).setCell (p := ⟨cb, 8, none⟩) h.tc _).setCell (p := ⟨cb, 9, none⟩) h.tc _
  have lcb : cb < w.heap.size := cell_lt h.c0
  have mcb : m ≠ cb := fun e => by
    rcases hm with a | a
    · rw [e, h.tc] at a; cases a
    · omega
  have far : ∀ k, w.heap.size ≤ k → tag k = 0 := fun k l => by
    rcases Nat.eq_zero_or_pos (tag k) with e | e
    · exact e
    · have := h.lt k (by omega); omega
  have ne : ∀ {i j : Nat}, i ≠ j → (⟨cb, i, none⟩ : Addr) ≠ ⟨cb, j, none⟩ := fun n z => n (congrArg Addr.off z)
  have old : ∀ {j : Nat} {u : Value}, j < 7 → w.cell? ⟨cb, j, none⟩ = some u → (((wx.setCell ⟨cb, 7, none⟩ (xs 1)).setCell ⟨cb, 8, none⟩ (xs 2)).setCell ⟨cb, 9, none⟩ (.slice (some ⟨m, 0, none⟩) 3 cap)).cell? ⟨cb, j, none⟩ = some u := fun {j u} l e => by
    rw [World.cell?_setCell_other _ _ _ _ (ne (by omega)), World.cell?_setCell_other _ _ _ _ (ne (by omega)), World.cell?_setCell_other _ _ _ _ (ne (by omega))]
    exact was_cellP hB e
  have np : ¬ tag pb = 1 := by rw [h.tp]; decide
  let tag' : Nat → Nat := fun k => if k = m then 6 else tag k
  have other : ∀ {u k}, u ≠ 0 → u ≠ 6 → tag k = u → tag' k = u := fun {u k} u0 u6 e => by
    have n1 : k ≠ m := fun z => by
      rcases hm with a | a
      · rw [z, a] at e; exact u6 e.symm
      · rw [z, far m a] at e; exact u0 e.symm
    show (if k = m then 6 else tag k) = u
    rw [if_neg n1, e]
  have back : ∀ {u k}, u ≠ 6 → tag' k = u → tag k = u := fun {u k} u6 e => by
    have e : (if k = m then 6 else tag k) = u := e
    split at e
    · exact absurd e.symm u6
    · exact e
  have same : ∀ {u}, u ≠ 0 → u ≠ 6 → (fun k => tag' k = u) = (fun k => tag k = u) := fun {u} u0 u6 => funext fun k => propext ⟨back u6, other u0 u6⟩
  have six : ∀ k, tag k = 6 → tag' k = 6 := fun k e => by
    show (if k = m then 6 else tag k) = 6
    split
    · rfl
    · exact e
  have nz : ∀ k, tag' k ≠ 0 → k = m ∨ tag k ≠ 0 := fun k hk => by
    by_cases z : k = m
    · exact .inl z
    · have hk : (if k = m then 6 else tag k) ≠ 0 := hk
      rw [if_neg z] at hk
      exact .inr hk
  have sz7 : (((wx.setCell ⟨cb, 7, none⟩ (xs 1)).setCell ⟨cb, 8, none⟩ (xs 2)).setCell ⟨cb, 9, none⟩ (.slice (some ⟨m, 0, none⟩) 3 cap)).heap.size = wx.heap.size := by simp [World.setCell]
  have mI : ∀ j, j < 3 → (((wx.setCell ⟨cb, 7, none⟩ (xs 1)).setCell ⟨cb, 8, none⟩ (xs 2)).setCell ⟨cb, 9, none⟩ (.slice (some ⟨m, 0, none⟩) 3 cap)).cell? ⟨m, 0 + j, none⟩ = some (.int .i64 (Wn j)) := fun j hj => by
    rw [World.cell?_setCell_other _ _ _ _ (fun z => mcb (congrArg Addr.block z).symm), World.cell?_setCell_other _ _ _ _ (fun z => mcb (congrArg Addr.block z).symm), World.cell?_setCell_other _ _ _ _ (fun z => mcb (congrArg Addr.block z).symm)]
    exact I j hj
  refine ⟨tag', ?_, fun k hk e => ?_, K7.mono fun k _ e => by rw [e]; decide⟩
  · exact { c0 := old (by omega) h.c0, c1 := old (by omega) h.c1, c2 := old (by omega) h.c2, c3 := old (by omega) h.c3, c4 := old (by omega) h.c4, c5 := old (by omega) h.c5, c6 := old (by omega) h.c6
            c7 := by
              rw [World.cell?_setCell_other _ _ _ _ (ne (by omega)), World.cell?_setCell_other _ _ _ _ (ne (by omega))]
              exact World.cell?_setCell_same _ _ _ (was_cellP hB h.c7)
            c8 := by
              rw [World.cell?_setCell_other _ _ _ _ (ne (by omega))]
              have q : (wx.setCell ⟨cb, 7, none⟩ (xs 1)).cell? ⟨cb, 8, none⟩ = some (xs 1) := by
                rw [World.cell?_setCell_other _ _ _ _ (ne (by omega))]
                exact was_cellP hB h.c8
              exact World.cell?_setCell_same _ _ _ q
            c9 := by
              have q : ((wx.setCell ⟨cb, 7, none⟩ (xs 1)).setCell ⟨cb, 8, none⟩ (xs 2)).cell? ⟨cb, 9, none⟩ = some (xs 2) := by
                rw [World.cell?_setCell_other _ _ _ _ (ne (by omega)), World.cell?_setCell_other _ _ _ _ (ne (by omega))]
                exact was_cellP hB h.c9
              exact World.cell?_setCell_same _ _ _ q
            f := fun i => by rw [World.frozen?_setCell, World.frozen?_setCell, World.frozen?_setCell, hB.frozen (p := ⟨cb, i, none⟩) lcb]; exact h.f i
            p := ⟨⟨fun i hi => K7.old (h.p.raw.s i hi) np, K7.old h.p.raw.c6 np, fun i => by rw [K7.frozen (p := ⟨pb, i, none⟩) h.p.lt np]; exact h.p.raw.f i⟩, h.p.ok⟩
            s := by rw [same (by decide) (by decide)]; exact h.s.keptP K7 fun k e z => by rw [e] at z; cases z
            c := by rw [same (by decide) (by decide)]; exact h.c.keptP K7 fun k e z => by rw [e] at z; cases z
            pics := ⟨fun i W hi hW => by
              have hW : (ps.drop C.cyc)[i]? = some W := hW
              rw [hps i hi] at hW
              by_cases e2 : i = 2
              · rw [if_pos e2] at hW
                cases hW
                exact ⟨m, cap, if_pos e2, if_pos rfl, mI⟩
              · rw [if_neg e2] at hW
                obtain ⟨m1, cap1, e, t1, I1⟩ := h.pics.one (i + 1) W (by omega) hW
                have n1 : ¬ tag m1 = 1 := by rw [t1]; decide
                exact ⟨m1, cap1, (if_neg e2).trans e, six m1 t1, fun j hj => K7.old (I1 j hj) n1⟩⟩
            tc := other (by decide) (by decide) h.tc, tp := other (by decide) (by decide) h.tp
            lt := fun k hk => by
              rw [sz7]
              rcases nz k hk with z | z
              · omega
              · have := h.lt k z; omega
            vin := fun k hk => by rw [sz7]; have := h.vin k hk; omega
            vs := fun k hk z => by
              have lz := h.vin k z
              rcases nz k hk with y | y
              · rcases hm with a | a
                · exact h.vs k (by rw [y, a]; decide) z
                · omega
              · exact h.vs k y z }
  · rcases nz k e with z | z
    · rcases hm with a | a
      · rw [z, a]; decide
      · omega
    · exact z
/-- the greatest of the first ones -/
def maxTo (W : Nat → Int) : Nat → Int
  | 0 => W 0
  | k + 1 => max (maxTo W k) (W (k + 1))
set_option maxRecDepth 100000 in
set_option maxHeartbeats 1000000 in
theorem max_three (m cap : Nat) (W : Nat → Int) (w : World) (I : Ints w m 0 3 W) :
    Calls Tryz.prog 157 #[.slice (some ⟨m, 0, none⟩) 3 cap] w fun e w' => e = .returned (.int .i64 (maxTo W 2)) ∧ w' = w := by
  have c0 := I 0 (by omega)
  rw [Nat.zero_add] at c0
  go_enter Tryz.func157, Tryz.ntmps157
  go_wp2_with fail
  go_loopw [3, 4] (fun s i wr => ∃ k : Nat, k ≤ 2 ∧ i = .int .i64 ((k : Int) + 1) ∧ s = .int .i64 (maxTo W k) ∧ wr = w) (fun _ i _ => 3 - (intOf i).toNat)
  case atStart => exact ⟨0, by omega, rfl, rfl, rfl⟩
  case round =>
    obtain ⟨k, hk, rfl, rfl, hwr⟩ := hrel
    obtain rfl := hwr.symm
    clear hwr
    by_cases hlt : k < 2
    · have ck := I (k + 1) (by omega)
      rw [Nat.zero_add] at ck
      have k3 : (k : Int) + 1 < 3 := by omega
      have E1 := hide (show maxTo W (k + 1) = max (maxTo W k) (W (k + 1)) from rfl)
      clear I c0
      generalize W (k + 1) = q at *
      generalize maxTo W k = p at *
      go_wp2_with fail
      go_roundw
      case rel => exact ⟨k + 1, by omega, by go_num, by first | (rw [E1.out]; done) | (rw [E1.out]; congr 1; omega), by first | rfl | trivial⟩
      case measure => simp [intOf]; omega
    · obtain rfl : k = 2 := by omega
      have k3 : ¬ ((2 : Nat) : Int) + 1 < 3 := by omega
      clear I c0
      generalize hp : maxTo W 2 = p at *
      go_wp2_with fail
      go_ret
      exact ⟨rfl, rfl⟩
theorem maxTo_zero {W : Nat → Int} (h0 : 0 ≤ W 0) (h1 : 0 ≤ W 1) (h2 : 0 ≤ W 2) : maxTo W 2 = 0 ↔ sumTo W 3 = 0 := by
  show max (max (W 0) (W 1)) (W 2) = 0 ↔ 0 + W 0 + W 1 + W 2 = 0
  omega
end Go.Proofs.YtaihcceobnfmhaaGreatDoor

namespace Go.Proofs.YtaihcceobnfmhaaGreatDoor
open Go.RowKit

theorem Tryz.picSize : (Tryz.prog.info? 31).map (·.size) = some 1 := by kernel_rfl
/-- three slices in a row: the last two go one place ahead -/
theorem copied {w : World} {cb m1 m2 cap1 cap2 : Nat} {x0 : Value} (a7 : w.cell? ⟨cb, 7, none⟩ = some x0) (a8 : w.cell? ⟨cb, 8, none⟩ = some (.slice (some ⟨m1, 0, none⟩) 3 cap1)) (a9 : w.cell? ⟨cb, 9, none⟩ = some (.slice (some ⟨m2, 0, none⟩) 3 cap2)) (f : ∀ i, w.frozen? ⟨cb, i, none⟩ = false) (ty : TypeId) :
    (Builtin.copy_ #[60, 60] ty #[.slice (some ⟨cb, 7, none⟩) 3 3, .slice (some ⟨cb, 8, none⟩) 2 2]).run Tryz.prog w = .ok (goInt 2) ((w.setCell ⟨cb, 7, none⟩ (.slice (some ⟨m1, 0, none⟩) 3 cap1)).setCell ⟨cb, 8, none⟩ (.slice (some ⟨m2, 0, none⟩) 3 cap2)) :=
  run_copy_cells (P := Tryz.prog) w 60 60 ty 31 cb 7 3 3 ⟨cb, 8, none⟩ 2 2 [.slice (some ⟨m1, 0, none⟩) 3 cap1, .slice (some ⟨m2, 0, none⟩) 3 cap2] Tryz.underlying60 Tryz.picSize rfl
    (fun j v h => by
      match j, h with
      | 0, h => cases h; exact a8
      | 1, h => cases h; exact a9)
    (fun j hj => by
      match j, hj with
      | 0, _ => rw [a7]; rfl
      | 1, _ => rw [a8]; rfl)
    (fun j _ => f (7 + j))
    (fun v hv => by
      rcases List.mem_cons.1 hv with rfl | hv
      · rfl
      · rw [List.mem_singleton.1 hv]; rfl)
theorem PChAt.drewN {tag : Nat → Nat} {w : World} {cb pb sb kb g : Nat} {xs : Nat → Value} {C : Ch} (h : PChAt tag w cb pb sb kb xs C g) (n : Nat) : PChAt tag (w.drewN n) cb pb sb kb xs C g := h.keptP ((KeptP.refl (fun _ => False) w).drewN n) fun _ q => q.elim
set_option maxRecDepth 100000 in
set_option maxHeartbeats 2000000 in
theorem pcb_take (tag : Nat → Nat) (cb pb sb kb : Nat) (xs : Nat → Value) (C : Ch) (hS : C.s.Ok) (W : Nat → Int) (hW : (C.pics.drop C.cyc)[2]? = some W) (ps : List (Nat → Int)) (hps : ∀ i, i < 3 → (ps.drop C.cyc)[i]? = if i = 2 then some (nextOf C.s W) else (C.pics.drop C.cyc)[i + 1]?) (g : Nat) (w : World) (h : PChAt tag w cb pb sb kb xs C g) :
    Calls Tryz.prog 109 #[.pointer (some ⟨cb, 0, none⟩)] w fun e w' => ∃ tag' xs', e = .returned (.tuple #[]) ∧ PChAt tag' w' cb pb sb kb xs' { C with pics := ps } g ∧ (∀ k, k < w.heap.size → tag' k ≠ 0 → tag k ≠ 0) ∧ KeptP (fun k => tag k ≠ 0) w w' := by
  have c1 := h.c1
  have P := pr_picture (fun k => tag k = 3) sb C.s hS g w h.s
  have pw := hS.picW
  have p0 := (pw.bd 0 (by omega)).1
  have p1 := (pw.bd 1 (by omega)).1
  have p2 := (pw.bd 2 (by omega)).1
  have mz := maxTo_zero p0 p1 p2
  obtain ⟨m2, cap2, x2, t2, I2⟩ := h.pics.one 2 W (by omega) hW
  have l2 := h.lt m2 (by rw [t2]; decide)
  go_enter Tryz.func109, Tryz.ntmps109
  go_wp2_with fail
  refine P.mono ?_
  rintro e w1 ⟨m, cap, rfl, ⟨hm, hm1⟩, I, hB⟩
  have MX := max_three m cap C.s.pic w1 I
  have h1 := h.below hB
  have H := hide h
  have H1 := hide h1
  clear P c1 p0 p1 p2 pw h
  go_wp2_with fail
  refine MX.mono ?_
  rintro e w1' ⟨rfl, hw⟩
  obtain rfl := hw.symm
  clear hw MX
  have sz2 : 2 < (C.pics.drop C.cyc).length := (List.getElem?_eq_some_iff.1 hW).1
  obtain ⟨W1, hW1⟩ : ∃ W1, (C.pics.drop C.cyc)[1]? = some W1 := ⟨_, List.getElem?_eq_getElem (by omega)⟩
  obtain ⟨m1, cap1, x1, _, _⟩ := H.out.pics.one 1 W1 (by omega) hW1
  have a7 := H1.out.c7
  have a8 := H1.out.c8
  have a9 := H1.out.c9
  rw [x1] at a8
  rw [x2] at a9
  have cp := copied (w := w1.drew) (cb := cb) (x0 := xs 0) (m1 := m1) (m2 := m2) (cap1 := cap1) (cap2 := cap2) a7 a8 a9 (fun i => H1.out.f i)
  have f9 := H1.out.f 9
  have HP := hide hps
  clear sz2 hW1 hW hps hS
  by_cases hz : maxTo C.s.pic 2 = 0
  · have NE := hide (show nextOf C.s W = W from if_neg (not_not_intro (mz.1 hz)))
    clear mz
    generalize maxTo C.s.pic 2 = q at *
    go_wp2_with fail
    go_region
    all_goals
      go_wp2_with fail
      go_end0
      obtain ⟨tag', gF, hold, hK⟩ := H.out.shifted (wx := w1) (m := m2) (cap := cap2) (Wn := nextOf C.s W) (ps := ps) hB (.inl t2) (Nat.lt_of_lt_of_le l2 hB.size) (fun i hi => by rw [NE.out]; exact was_cellP hB (I2 i hi)) HP.out
      rw [x1, x2] at gF hK
      exact ⟨tag', _, rfl, gF.drewN 1, hold, hK.drew⟩
  · have NE := hide (show nextOf C.s W = C.s.pic from if_pos fun z => hz (mz.2 z))
    clear mz
    generalize maxTo C.s.pic 2 = q at *
    go_wp2_with fail
    go_region
    all_goals
      go_wp2_with fail
      go_end0
      obtain ⟨tag', gF, hold, hK⟩ := H.out.shifted (wx := w1) (m := m) (cap := cap) (Wn := nextOf C.s W) (ps := ps) hB (.inr hm) hm1 (fun i hi => by rw [NE.out]; exact I i hi) HP.out
      rw [x1, x2] at gF hK
      exact ⟨tag', _, rfl, gF.drewN 1, hold, hK.drew⟩
end Go.Proofs.YtaihcceobnfmhaaGreatDoor
