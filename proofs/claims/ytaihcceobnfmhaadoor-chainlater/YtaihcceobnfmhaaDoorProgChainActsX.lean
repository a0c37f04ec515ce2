/-
  The program's chain by its contracts: a new one.
  The program's chain by its contracts: all of them, whatever block its stakes have.
-/
import Derived.Test.YtaihcceobnfmhaaDoorProgBooksNew
namespace Go.Proofs.YtaihcceobnfmhaaDoor
open Go.RowKit

open Classical in
/-- tags of parts that are all new -/
noncomputable def tag0 (cb pb m : Nat) (G H : Nat → Prop) (k : Nat) : Nat := if k = cb then 1 else if k = pb then 2 else if G k then 3 else if H k then 4 else if k = m then 6 else 0
/-- a chain's parts, all new -/
theorem pcb_first {B : Nat} {w : World} {cb pb sb kb seed g m cap : Nat} {G H : Nat → Prop} {Wn : Nat → Int} (hG : ∀ k, G k → B ≤ k ∧ k ≠ cb ∧ k ≠ pb) (hH : ∀ k, H k → B ≤ k ∧ k ≠ cb ∧ k ≠ pb ∧ ¬ G k) (hm : m ≠ cb ∧ m ≠ pb ∧ ¬ G m ∧ ¬ H m ∧ B ≤ m ∧ m < w.heap.size) (n1 : cb ≠ pb) (b1 : B ≤ cb) (b2 : B ≤ pb) (hB : B ≤ w.heap.size) (hv : ∀ k, IsVar k → k < B)
    (c0 : w.cell? ⟨cb, 0, none⟩ = some (.pointer (some ⟨pb, 0, none⟩))) (c1 : w.cell? ⟨cb, 1, none⟩ = some (.pointer (some ⟨sb, 0, none⟩))) (c2 : w.cell? ⟨cb, 2, none⟩ = some (.pointer (some ⟨kb, 0, none⟩))) (c3 : w.cell? ⟨cb, 3, none⟩ = some (.int .u64 seed))
    (c4 : w.cell? ⟨cb, 4, none⟩ = some (.int .i64 0)) (c5 : w.cell? ⟨cb, 5, none⟩ = some (.int .i64 0)) (c6 : w.cell? ⟨cb, 6, none⟩ = some (.int .i64 0)) (c7 : w.cell? ⟨cb, 7, none⟩ = some (.slice (some ⟨m, 0, none⟩) 3 cap)) (c8 : w.cell? ⟨cb, 8, none⟩ = some (.slice (some ⟨m, 0, none⟩) 3 cap)) (c9 : w.cell? ⟨cb, 9, none⟩ = some (.slice (some ⟨m, 0, none⟩) 3 cap)) (f : ∀ i, w.frozen? ⟨cb, i, none⟩ = false)
    (p : Pu) (s : Sk) (hp : PurAt w pb p) (hs : PSk G w sb s g) (hc : PCt H w kb ⟨[], 0⟩ g) (I : Ints w m 0 3 Wn) : ∃ F, PCb sb F w cb ⟨p, s, ⟨[], 0⟩, seed, 0, 0, 0, [Wn, Wn, Wn]⟩ g ∧ ∀ k, F k → B ≤ k := by
  have t3 : (fun k => tag0 cb pb m G H k = 3) = G := funext fun k => propext ⟨fun e => by
    unfold tag0 at e
    repeat' split at e
    all_goals (first | assumption | (cases e)), fun z => by
    obtain ⟨_, a, b⟩ := hG k z
    unfold tag0
    rw [if_neg a, if_neg b, if_pos z]⟩
  have t4 : (fun k => tag0 cb pb m G H k = 4) = H := funext fun k => propext ⟨fun e => by
    unfold tag0 at e
    repeat' split at e
    all_goals (first | assumption | (cases e)), fun z => by
    obtain ⟨_, a, b, c⟩ := hH k z
    unfold tag0
    rw [if_neg a, if_neg b, if_neg c, if_pos z]⟩
  have nz : ∀ k, tag0 cb pb m G H k ≠ 0 → k = cb ∨ k = pb ∨ G k ∨ H k ∨ k = m := fun k e => by
    unfold tag0 at e
    repeat' split at e
    all_goals first | (exact absurd rfl e) | (simp only [*, true_or, or_true])
  have lo : ∀ k, tag0 cb pb m G H k ≠ 0 → B ≤ k := fun k e => by
    rcases nz k e with z | z | z | z | z
    · omega
    · omega
    · exact (hG k z).1
    · exact (hH k z).1
    · rw [z]; exact hm.2.2.2.2.1
  refine ⟨fun k => tag0 cb pb m G H k ≠ 0, ⟨tag0 cb pb m G H, pb, kb, fun _ => .slice (some ⟨m, 0, none⟩) 3 cap, fun _ => Iff.rfl, ?_⟩, lo⟩
  exact { c0 := c0, c1 := c1, c2 := c2, c3 := c3, c4 := c4, c5 := c5, c6 := c6, c7 := c7, c8 := c8, c9 := c9, f := f, p := hp
          s := by rw [t3]; exact hs
          c := by rw [t4]; exact hc
          pics := ⟨fun i W hi hW => by
            have hW : [Wn, Wn, Wn][i]? = some W := hW
            have e : W = Wn := by
              have : i = 0 ∨ i = 1 ∨ i = 2 := by omega
              rcases this with rfl | rfl | rfl <;> (cases hW; rfl)
            refine ⟨m, cap, rfl, ?_, e ▸ I⟩
            unfold tag0
            rw [if_neg hm.1, if_neg hm.2.1, if_neg hm.2.2.1, if_neg hm.2.2.2.1, if_pos rfl]⟩
          tc := by unfold tag0; rw [if_pos rfl]
          tp := by unfold tag0; rw [if_neg n1.symm, if_pos rfl]
          lt := fun k e => by
            rcases nz k e with z | z | z | z | z
            · rw [z]; exact cell_lt c0
            · rw [z]; exact hp.lt
            · exact hs.lt k z
            · exact hc.lt k z
            · rw [z]; exact hm.2.2.2.2.2
          vin := fun k z => Nat.lt_of_lt_of_le (hv k z) hB
          vs := fun k e z => by have := lo k e; have := hv k z; omega }
/-- the first pictures are laid -/
def picsTo (w : World) (cb : Nat) (v : Value) : Nat → World
  | 0 => w
  | j + 1 => (picsTo w cb v j).setCell ⟨cb, 7 + j, none⟩ v
theorem picsTo_other {w : World} {cb : Nat} {v : Value} (a : Addr) : ∀ j, (∀ i, i < j → (⟨cb, 7 + i, none⟩ : Addr) ≠ a) → (picsTo w cb v j).cell? a = w.cell? a
  | 0, _ => rfl
  | j + 1, h => by
    show ((picsTo w cb v j).setCell ⟨cb, 7 + j, none⟩ v).cell? a = _
    rw [World.cell?_setCell_other _ _ _ _ (h j (by omega))]
    exact picsTo_other a j fun i hi => h i (by omega)
theorem picsTo_frozen {w : World} {cb : Nat} {v : Value} (a : Addr) : ∀ j, (picsTo w cb v j).frozen? a = w.frozen? a
  | 0 => rfl
  | j + 1 => by
    show ((picsTo w cb v j).setCell ⟨cb, 7 + j, none⟩ v).frozen? a = _
    rw [World.frozen?_setCell]
    exact picsTo_frozen a j
theorem picsTo_kept {w : World} {cb : Nat} {v : Value} : ∀ j, KeptP (fun k => k = cb) w (picsTo w cb v j)
  | 0 => KeptP.refl _ _
  | j + 1 => (picsTo_kept j).setCell (p := ⟨cb, 7 + j, none⟩) rfl _
theorem picsTo_in {w : World} {cb : Nat} {v u : Value} : ∀ j i, i < j → (∀ i, i < j → w.cell? ⟨cb, 7 + i, none⟩ = some u) → (picsTo w cb v j).cell? ⟨cb, 7 + i, none⟩ = some v
  | j + 1, i, hi, h => by
    show ((picsTo w cb v j).setCell ⟨cb, 7 + j, none⟩ v).cell? ⟨cb, 7 + i, none⟩ = _
    by_cases e : i = j
    · subst e
      refine World.cell?_setCell_same _ _ _ (?_ : _ = some u)
      rw [picsTo_other _ i fun k hk z => absurd (show 7 + k = 7 + i from congrArg Addr.off z) (by omega)]
      exact h i (by omega)
    · rw [World.cell?_setCell_other _ _ _ _ (fun z => absurd (show 7 + j = 7 + i from congrArg Addr.off z) (by omega))]
      exact picsTo_in j i (by omega) fun k hk => h k (by omega)
set_option maxRecDepth 100000 in
set_option maxHeartbeats 4000000 in
theorem pcb_new (seed : Nat) (_hs : seed < W64) (A : Nat → Addr) (w : World) (hL : ChLaid8 w A) :
    Calls Tryd.prog 5 #[.int .u64 seed] w fun e w' => ∃ cb F sb, e = .returned (.pointer (some ⟨cb, 0, none⟩)) ∧ PCb sb F w' cb (chNew seed) 10000 ∧ (∀ k, F k → w.heap.size ≤ k) ∧ Below w.heap.size w w' := by
  go_enter Tryd.func5, Tryd.ntmps5
  go_wp2_with fail
  refine (bks_open A w hL).mono ?_
  rintro e w1 ⟨pb, sb, G, rfl, hb1, hf1, hB1⟩
  have HB1 := hide hb1
  clear hb1
  go_wp2_with fail
  refine (pc_new w1).mono ?_
  rintro e w2 ⟨kb, H, rfl, hc2, hH, hB2⟩
  have HC2 := hide hc2
  clear hc2
  have A3 : Below w2.heap.size w2 (w2.alloc (.cells #[.pointer (some ⟨pb, 0, none⟩), .pointer (some ⟨sb, 0, none⟩), .pointer (some ⟨kb, 0, none⟩), .int .u64 seed, .int .i64 0, .int .i64 0, .int .i64 0, .slice none 0 0, .slice none 0 0, .slice none 0 0] 46)) := (Below.refl _ _).alloc (Nat.le_refl _) _
  have k0 : (w2.alloc (.cells #[.pointer (some ⟨pb, 0, none⟩), .pointer (some ⟨sb, 0, none⟩), .pointer (some ⟨kb, 0, none⟩), .int .u64 seed, .int .i64 0, .int .i64 0, .int .i64 0, .slice none 0 0, .slice none 0 0, .slice none 0 0] 46)).cell? ⟨w2.heap.size, 0, none⟩ = _ := cell_new _ _ _ _ _ _ rfl rfl
  have k1 : (w2.alloc (.cells #[.pointer (some ⟨pb, 0, none⟩), .pointer (some ⟨sb, 0, none⟩), .pointer (some ⟨kb, 0, none⟩), .int .u64 seed, .int .i64 0, .int .i64 0, .int .i64 0, .slice none 0 0, .slice none 0 0, .slice none 0 0] 46)).cell? ⟨w2.heap.size, 1, none⟩ = some (.pointer (some ⟨sb, 0, none⟩)) := cell_new _ _ _ _ _ _ rfl rfl
  have k2 : (w2.alloc (.cells #[.pointer (some ⟨pb, 0, none⟩), .pointer (some ⟨sb, 0, none⟩), .pointer (some ⟨kb, 0, none⟩), .int .u64 seed, .int .i64 0, .int .i64 0, .int .i64 0, .slice none 0 0, .slice none 0 0, .slice none 0 0] 46)).cell? ⟨w2.heap.size, 2, none⟩ = _ := cell_new _ _ _ _ _ _ rfl rfl
  have k3 : (w2.alloc (.cells #[.pointer (some ⟨pb, 0, none⟩), .pointer (some ⟨sb, 0, none⟩), .pointer (some ⟨kb, 0, none⟩), .int .u64 seed, .int .i64 0, .int .i64 0, .int .i64 0, .slice none 0 0, .slice none 0 0, .slice none 0 0] 46)).cell? ⟨w2.heap.size, 3, none⟩ = _ := cell_new _ _ _ _ _ _ rfl rfl
  have k4 : (w2.alloc (.cells #[.pointer (some ⟨pb, 0, none⟩), .pointer (some ⟨sb, 0, none⟩), .pointer (some ⟨kb, 0, none⟩), .int .u64 seed, .int .i64 0, .int .i64 0, .int .i64 0, .slice none 0 0, .slice none 0 0, .slice none 0 0] 46)).cell? ⟨w2.heap.size, 4, none⟩ = _ := cell_new _ _ _ _ _ _ rfl rfl
  have k5 : (w2.alloc (.cells #[.pointer (some ⟨pb, 0, none⟩), .pointer (some ⟨sb, 0, none⟩), .pointer (some ⟨kb, 0, none⟩), .int .u64 seed, .int .i64 0, .int .i64 0, .int .i64 0, .slice none 0 0, .slice none 0 0, .slice none 0 0] 46)).cell? ⟨w2.heap.size, 5, none⟩ = _ := cell_new _ _ _ _ _ _ rfl rfl
  have k6 : (w2.alloc (.cells #[.pointer (some ⟨pb, 0, none⟩), .pointer (some ⟨sb, 0, none⟩), .pointer (some ⟨kb, 0, none⟩), .int .u64 seed, .int .i64 0, .int .i64 0, .int .i64 0, .slice none 0 0, .slice none 0 0, .slice none 0 0] 46)).cell? ⟨w2.heap.size, 6, none⟩ = _ := cell_new _ _ _ _ _ _ rfl rfl
  have kz : ∀ i, i < 3 → (w2.alloc (.cells #[.pointer (some ⟨pb, 0, none⟩), .pointer (some ⟨sb, 0, none⟩), .pointer (some ⟨kb, 0, none⟩), .int .u64 seed, .int .i64 0, .int .i64 0, .int .i64 0, .slice none 0 0, .slice none 0 0, .slice none 0 0] 46)).cell? ⟨w2.heap.size, 7 + i, none⟩ = some (.slice none 0 0) := fun i hi => by
    have : i = 0 ∨ i = 1 ∨ i = 2 := by omega
    rcases this with rfl | rfl | rfl <;> exact cell_new _ _ _ _ _ _ rfl rfl
  have kf : ∀ i, (w2.alloc (.cells #[.pointer (some ⟨pb, 0, none⟩), .pointer (some ⟨sb, 0, none⟩), .pointer (some ⟨kb, 0, none⟩), .int .u64 seed, .int .i64 0, .int .i64 0, .int .i64 0, .slice none 0 0, .slice none 0 0, .slice none 0 0] 46)).frozen? ⟨w2.heap.size, i, none⟩ = false := fun i => World.frozen?_alloc_at _ _ _ _ rfl
  have b3 := (HB1.out.below hB2).below A3
  have c3 := HC2.out.keptP (KeptP.of_below (F := fun _ => False) A3) fun _ z => z.elim
  have l1 := HB1.out.lt
  have l2 := HC2.out.lt
  have P := pr_picture G sb stakes0 stakes0_ok 6012 _ b3.s
  have Q0 := hide k0
  have Q2 := hide k2
  have Q3 := hide k3
  have Q4 := hide k4
  have Q5 := hide k5
  have Q6 := hide k6
  have B3 := hide b3
  have C3 := hide c3
  have VI : Hid (∀ k, IsVar k → k < w.heap.size) := hL.vin
  clear k0 k2 k3 k4 k5 k6 b3 c3 HB1 HC2 hL
  go_wp2_with fail
  have y1 := hB1.size
  have y2 := hB2.size
  have y3 := A3.size
  have BW : Below w.heap.size w (w2.alloc (.cells #[.pointer (some ⟨pb, 0, none⟩), .pointer (some ⟨sb, 0, none⟩), .pointer (some ⟨kb, 0, none⟩), .int .u64 seed, .int .i64 0, .int .i64 0, .int .i64 0, .slice none 0 0, .slice none 0 0, .slice none 0 0] 46)) := (hB1.trans (hB2.mono y1)).trans (A3.mono (by omega))
  have lc : w2.heap.size < (w2.alloc (.cells #[.pointer (some ⟨pb, 0, none⟩), .pointer (some ⟨sb, 0, none⟩), .pointer (some ⟨kb, 0, none⟩), .int .u64 seed, .int .i64 0, .int .i64 0, .int .i64 0, .slice none 0 0, .slice none 0 0, .slice none 0 0] 46)).heap.size := cell_lt k1
  clear hB1 hB2 A3
  generalize hcb : w2.heap.size = cb at *
  generalize (w2.alloc (.cells #[.pointer (some ⟨pb, 0, none⟩), .pointer (some ⟨sb, 0, none⟩), .pointer (some ⟨kb, 0, none⟩), .int .u64 seed, .int .i64 0, .int .i64 0, .int .i64 0, .slice none 0 0, .slice none 0 0, .slice none 0 0] 46)) = w3 at *
  refine P.mono ?_
  rintro e w4 ⟨m, cap, rfl, ⟨hm, hm1⟩, I, hB4⟩
  have y4 := hB4.size
  have B4 : Below w.heap.size w w4 := BW.trans (hB4.mono (by omega))
  have b4 := B3.out.below hB4
  have c4 := C3.out.keptP (KeptP.of_below (F := fun _ => False) hB4) fun _ z => z.elim
  have z4 : ∀ i, i < 3 → w4.cell? ⟨cb, 7 + i, none⟩ = some (.slice none 0 0) := fun i hi => was_cellP hB4 (kz i hi)
  have f4 : ∀ i, w4.frozen? ⟨cb, i, none⟩ = false := fun i => by rw [hB4.frozen (p := ⟨cb, i, none⟩) lc]; exact kf i
  have R0 := hide (was_cellP hB4 Q0.out)
  have R1 := hide (was_cellP hB4 k1)
  have R2 := hide (was_cellP hB4 Q2.out)
  have R3 := hide (was_cellP hB4 Q3.out)
  have R4 := hide (was_cellP hB4 Q4.out)
  have R5 := hide (was_cellP hB4 Q5.out)
  have R6 := hide (was_cellP hB4 Q6.out)
  have HB4 := hide b4
  have HC4 := hide c4
  clear P B3 C3 Q0 Q2 Q3 Q4 Q5 Q6 k1 kz kf BW hB4 b4 c4
  go_wp2_with fail
  go_loopw [17] (fun i wr => ∃ j : Nat, j ≤ 3 ∧ i = .int .i64 j ∧ wr = picsTo w4 cb (.slice (some ⟨m, 0, none⟩) 3 cap) j) (fun i _ => 3 - (intOf i).toNat)
  case atStart => exact ⟨0, by omega, rfl, rfl⟩
  case round =>
    obtain ⟨j, hj, rfl, hwr⟩ := hrel
    by_cases hlt : j < 3
    · have jl : (j : Int) < 3 := by omega
      have cj : wr.cell? ⟨cb, 7 + j, none⟩ = some (.slice none 0 0) := by
        rw [hwr, picsTo_other _ j fun k hk z => absurd (show 7 + k = 7 + j from congrArg Addr.off z) (by omega)]
        exact z4 j hlt
      have fj : wr.frozen? ⟨cb, 7 + j, none⟩ = false := by rw [hwr, picsTo_frozen]; exact f4 _
      have HW := hide hwr
      clear hwr z4 f4
      go_wp2_with fail
      go_roundw
      case rel => exact ⟨j + 1, by omega, by go_num, by rw [HW.out]; rfl⟩
      case measure => simp [intOf]; omega
    · obtain rfl : 3 = j := by omega
      clear hlt hj
      have jl : ¬ ((3 : Nat) : Int) < 3 := by omega
      have HW := hide hwr
      clear hwr
      go_wp2_with fail
      go_ret
      have hwr := HW.out
      have K := picsTo_kept (w := w4) (cb := cb) (v := .slice (some ⟨m, 0, none⟩) 3 cap) 3
      rw [← hwr] at K
      have old : ∀ {i : Nat} {u : Value}, i < 7 → w4.cell? ⟨cb, i, none⟩ = some u → wr.cell? ⟨cb, i, none⟩ = some u := fun {i u} hi e => by
        rw [hwr, picsTo_other _ 3 fun k hk z => absurd (show 7 + k = i from congrArg Addr.off z) (by omega)]
        exact e
      have new : ∀ i, i < 3 → wr.cell? ⟨cb, 7 + i, none⟩ = some (.slice (some ⟨m, 0, none⟩) 3 cap) := fun i hi => by
        rw [hwr]
        exact picsTo_in 3 i hi z4
      have own : ∀ k, bksOwn pb G k → w.heap.size ≤ k ∧ k < w1.heap.size := fun k hk => ⟨hf1 k hk, l1 k hk⟩
      have b5 := HB4.out.keptP K fun k z y => by have := own k y; omega
      have c5 := HC4.out.keptP K fun k z y => by have := l2 k y; omega
      have BF : Below w.heap.size w wr := B4.trans (K.below (B := w.heap.size) (by omega) fun k z => by omega)
      obtain ⟨F, hF, lo⟩ := pcb_first (B := w.heap.size) (w := wr) (cb := cb) (pb := pb) (sb := sb) (kb := kb) (seed := seed) (g := 6012) (m := m) (cap := cap) (G := G) (H := H) (Wn := stakes0.pic)
        (fun k q => by have := own k (.inr q); exact ⟨by omega, by omega, fun z => b5.np (z ▸ q)⟩)
        (fun k q => by have := hH k q; have := l2 k q; have := own pb (.inl rfl); exact ⟨by omega, by omega, by omega, fun z => by have := own k (.inr z); omega⟩)
        ⟨by omega, fun z => by have := own pb (.inl rfl); omega, fun z => by have := own m (.inr z); omega, fun z => by have := l2 m z; omega, by omega, by have := K.size; omega⟩
        (fun z => by have := own pb (.inl rfl); omega) (by omega) (own pb (.inl rfl)).1 BF.size VI.out
        (old (by omega) R0.out) (old (by omega) R1.out) (old (by omega) R2.out) (old (by omega) R3.out) (old (by omega) R4.out) (old (by omega) R5.out) (old (by omega) R6.out) (new 0 (by omega)) (new 1 (by omega)) (new 2 (by omega)) (fun i => by rw [hwr, picsTo_frozen]; exact f4 i)
        (outTo 3) (stkSt 3) b5.p b5.s (c5.more (by omega)) (fun i hi => K.old (I i hi) (by show ¬ m = cb; omega))
      exact ⟨cb, rfl, F, ⟨sb, hF.more (by omega)⟩, lo, BF⟩
end Go.Proofs.YtaihcceobnfmhaaDoor

namespace Go.Proofs.YtaihcceobnfmhaaDoor
open Go.RowKit

def PCh (F : Nat → Prop) (w : World) (cb : Nat) (C : Ch) (g : Nat) : Prop := ∃ sb, PCb sb F w cb C g
def ChEnd (F : Nat → Prop) (cb g : Nat) (C' : Ch) (c : Int) (A : Nat → Addr) (w : World) (e : Ending) (w' : World) : Prop := ∃ ev F', e = .returned ev ∧ ErrIs A ev c ∧ PCh F' w' cb C' (g + 2000) ∧ Moved F F' w w'
def ChEndN (F : Nat → Prop) (cb g : Nat) (C' : Ch) (n c : Int) (A : Nat → Addr) (w : World) (e : Ending) (w' : World) : Prop := ∃ ev F', e = .returned (.tuple #[.int .i64 n, ev]) ∧ ErrIs A ev c ∧ PCh F' w' cb C' (g + 2000) ∧ Moved F F' w w'
theorem CbEnd.ch {sb : Nat} {F : Nat → Prop} {cb g : Nat} {C' : Ch} {c : Int} {A : Nat → Addr} {w : World} {e : Ending} {w' : World} (h : CbEnd sb F cb g C' c A w e w') : ChEnd F cb g C' c A w e w' := by
  obtain ⟨ev, F', he, hE, hP, hM⟩ := h
  exact ⟨ev, F', he, hE, ⟨sb, hP⟩, hM⟩
theorem CbEndN.ch {sb : Nat} {F : Nat → Prop} {cb g : Nat} {C' : Ch} {n c : Int} {A : Nat → Addr} {w : World} {e : Ending} {w' : World} (h : CbEndN sb F cb g C' n c A w e w') : ChEndN F cb g C' n c A w e w' := by
  obtain ⟨ev, F', he, hE, hP, hM⟩ := h
  exact ⟨ev, F', he, hE, ⟨sb, hP⟩, hM⟩
section
variable {F : Nat → Prop} {w w' : World} {cb g : Nat} {C : Ch}
theorem PCh.keptP {G : Nat → Prop} (h : PCh F w cb C g) (hK : KeptP G w w') (hF : ∀ k, G k → ¬ F k) : PCh F w' cb C g := h.imp fun _ z => z.keptP hK hF
theorem PCh.lt (h : PCh F w cb C g) (k : Nat) (hk : F k) : k < w.heap.size := by
  obtain ⟨_, h⟩ := h
  exact h.lt k hk
theorem PCh.laid {A : Nat → Addr} (h : PCh F w cb C g) (hL : ChLaid8 w A) (hK : KeptP F w w') : ChLaid8 w' A := by
  obtain ⟨_, h⟩ := h
  exact h.laid hL hK
theorem PCh.below (h : PCh F w cb C g) (hB : Below w.heap.size w w') : PCh F w' cb C g := h.imp fun _ z => z.below hB
theorem PCh.more {g' : Nat} (h : PCh F w cb C g) (hg : g ≤ g') : PCh F w cb C g' := h.imp fun _ z => z.more hg
theorem PCh.stays (_ : PCh F w cb C g) (hB : Below w.heap.size w w') : Moved F F w w' := ⟨KeptP.of_below hB, fun _ _ z => z⟩
end
theorem pch_cycle (F : Nat → Prop) (cb : Nat) (C : Ch) (g : Nat) (w : World) (h : PCh F w cb C g) :
    Calls Tryd.prog 11 #[.pointer (some ⟨cb, 0, none⟩)] w fun e w' => e = .returned (.int .i64 C.cyc) ∧ Below w.heap.size w w' := by
  obtain ⟨sb, h⟩ := h
  exact pcb_cycle F cb C g w h
theorem pch_level (F : Nat → Prop) (cb : Nat) (C : Ch) (g : Nat) (w : World) (h : PCh F w cb C g) :
    Calls Tryd.prog 12 #[.pointer (some ⟨cb, 0, none⟩)] w fun e w' => e = .returned (.int .i64 C.lev) ∧ Below w.heap.size w w' := by
  obtain ⟨sb, h⟩ := h
  exact pcb_level F cb C g w h
theorem pch_supply (F : Nat → Prop) (cb : Nat) (C : Ch) (g : Nat) (w : World) (h : PCh F w cb C g) :
    Calls Tryd.prog 9 #[.pointer (some ⟨cb, 0, none⟩)] w fun e w' => e = .returned (.int .i64 C.p.S) ∧ Below w.heap.size w w' := by
  obtain ⟨sb, h⟩ := h
  exact pcb_supply F cb C g w h
theorem pch_has (F : Nat → Prop) (cb : Nat) (C : Ch) (hC : C.Ok) (g : Nat) (o : Int) (w : World) (h : PCh F w cb C g) :
    Calls Tryd.prog 10 #[.pointer (some ⟨cb, 0, none⟩), .int .i64 o] w fun e w' => e = .returned (.int .i64 (C.p.s o)) ∧ Below w.heap.size w w' := by
  obtain ⟨sb, h⟩ := h
  exact pcb_has F cb C hC g o w h
theorem pch_turn (F : Nat → Prop) (cb : Nat) (C : Ch) (hC : C.Ok) (_hb : C.Few) (g : Nat) (r : Int) (hr : TurnOk C.cyc C.lev r) (A : Nat → Addr) (w : World) (_hL : ChLaid8 w A) (h : PCh F w cb C g) :
    Calls Tryd.prog 7 #[.pointer (some ⟨cb, 0, none⟩), .int .i64 r] w fun e w' => ∃ k, e = .returned (.tuple #[.int .i64 k, .nilIface]) ∧ Turn 3 C.pic C.seed C.cyc C.lev r k ∧ Below w.heap.size w w' := by
  obtain ⟨sb, h⟩ := h
  exact pcb_turn F cb C hC _hb g r hr A w _hL h
theorem pch_turn_bad (F : Nat → Prop) (cb : Nat) (C : Ch) (hC : C.Ok) (_hb : C.Few) (g : Nat) (r : Int) (hr : ¬ TurnOk C.cyc C.lev r) (A : Nat → Addr) (w : World) (hL : ChLaid8 w A) (h : PCh F w cb C g) :
    Calls Tryd.prog 7 #[.pointer (some ⟨cb, 0, none⟩), .int .i64 r] w fun e w' => ∃ ev, e = .returned (.tuple #[.int .i64 0, ev]) ∧ ErrIs A ev 2 ∧ Below w.heap.size w w' := by
  obtain ⟨sb, h⟩ := h
  exact pcb_turn_bad F cb C hC _hb g r hr A w hL h
theorem pch_stake (F : Nat → Prop) (cb : Nat) (C : Ch) (hC : C.Ok) (_hb : C.Few) (g : Nat) (hg : g ≤ 850000) (o b n : Int) (wo : (Lit.int .i64 o).wf = true) (A : Nat → Addr) (w : World) (hL : ChLaid8 w A) (h : PCh F w cb C g) :
    Calls Tryd.prog 6 #[.pointer (some ⟨cb, 0, none⟩), .int .i64 o, .int .i64 b, .int .i64 n] w (ChEnd F cb g (C.stake o b n) (C.stakeC o b n) A w) := by
  obtain ⟨sb, h⟩ := h
  exact (pcb_stake F cb C hC _hb g hg o b n wo A w hL h).mono fun e w' q => q.ch
theorem pch_bake_bad (F : Nat → Prop) (cb : Nat) (C : Ch) (hC : C.Ok) (hb : C.Few) (g : Nat) (b r : Int) (hr : ¬ TurnOk C.cyc C.lev r) (A : Nat → Addr) (w : World) (hL : ChLaid8 w A) (h : PCh F w cb C g) :
    Calls Tryd.prog 18 #[.pointer (some ⟨cb, 0, none⟩), .int .i64 b, .int .i64 r] w (ChEndN F cb g C 0 2 A w) := by
  obtain ⟨sb, h⟩ := h
  exact (pcb_bake_bad F cb C hC hb g b r hr A w hL h).mono fun e w' q => q.ch
theorem pch_bake_other (F : Nat → Prop) (cb : Nat) (C : Ch) (hC : C.Ok) (hb : C.Few) (g : Nat) (b r : Int) (hr : TurnOk C.cyc C.lev r) (T : ∀ k, Turn 3 C.pic C.seed C.cyc C.lev r k → k ≠ b) (A : Nat → Addr) (w : World) (hL : ChLaid8 w A) (h : PCh F w cb C g) :
    Calls Tryd.prog 18 #[.pointer (some ⟨cb, 0, none⟩), .int .i64 b, .int .i64 r] w (ChEndN F cb g C 0 9 A w) := by
  obtain ⟨sb, h⟩ := h
  exact (pcb_bake_other F cb C hC hb g b r hr T A w hL h).mono fun e w' q => q.ch
theorem pch_bake_own (F : Nat → Prop) (cb : Nat) (C : Ch) (hC : C.Ok) (hb : C.Few) (g : Nat) (hg : g ≤ 850000) (b r : Int) (hr : TurnOk C.cyc C.lev r) (T : ∀ k, Turn 3 C.pic C.seed C.cyc C.lev r k → k = b) (A : Nat → Addr) (w : World) (hL : ChLaid8 w A) (h : PCh F w cb C g) :
    Calls Tryd.prog 18 #[.pointer (some ⟨cb, 0, none⟩), .int .i64 b, .int .i64 r] w (ChEndN F cb g (C.bake b) (C.bakeN b) 0 A w) := by
  obtain ⟨sb, h⟩ := h
  exact (pcb_bake_own F cb C hC hb g hg b r hr T A w hL h).mono fun e w' q => q.ch
theorem pch_new (seed : Nat) (_hs : seed < W64) (A : Nat → Addr) (w : World) (hL : ChLaid8 w A) :
    Calls Tryd.prog 5 #[.int .u64 seed] w fun e w' => ∃ cb F, e = .returned (.pointer (some ⟨cb, 0, none⟩)) ∧ PCh F w' cb (chNew seed) 10000 ∧ (∀ k, F k → w.heap.size ≤ k) ∧ Below w.heap.size w w' := by
  refine (pcb_new seed _hs A w hL).mono ?_
  rintro e w' ⟨cb, F, sb, he, hP, r⟩
  exact ⟨cb, F, he, ⟨sb, hP⟩, r⟩
end Go.Proofs.YtaihcceobnfmhaaDoor
