/-
  The program's chain by its contracts: a new one.
  The program's chain by its contracts: all of them.
  A block of the program's chain by whose turn it is; the closed fact 'begun' of package bakehouselaw3.
-/
import Derived.Test.YtjodnacodlhamacDoorProgBooksNewX
import Derived.Test.YtjodnacodlhamacDoorErrNilX
namespace Go.Proofs.YtjodnacodlhamacDoor
open Go.RowKit

open Classical in
/-- tags of parts that are all new -/
noncomputable def tag0 (cb pb m : Nat) (G H : Nat → Prop) (k : Nat) : Nat := if k = cb then 1 else if k = pb then 2 else if G k then 3 else if H k then 4 else if k = m then 6 else 0
/-- a chain's parts, all new -/
theorem pch_first {B : Nat} {w : World} {cb pb sb kb seed g m cap : Nat} {G H : Nat → Prop} {Wn : Nat → Int} (hG : ∀ k, G k → B ≤ k ∧ k ≠ cb ∧ k ≠ pb) (hH : ∀ k, H k → B ≤ k ∧ k ≠ cb ∧ k ≠ pb ∧ ¬ G k) (hm : m ≠ cb ∧ m ≠ pb ∧ ¬ G m ∧ ¬ H m ∧ B ≤ m ∧ m < w.heap.size) (n1 : cb ≠ pb) (b1 : B ≤ cb) (b2 : B ≤ pb) (hB : B ≤ w.heap.size) (hv : ∀ k, IsVar k → k < B)
    (c0 : w.cell? ⟨cb, 0, none⟩ = some (.pointer (some ⟨pb, 0, none⟩))) (c1 : w.cell? ⟨cb, 1, none⟩ = some (.pointer (some ⟨sb, 0, none⟩))) (c2 : w.cell? ⟨cb, 2, none⟩ = some (.pointer (some ⟨kb, 0, none⟩))) (c3 : w.cell? ⟨cb, 3, none⟩ = some (.int .u64 seed))
    (c4 : w.cell? ⟨cb, 4, none⟩ = some (.int .i64 0)) (c5 : w.cell? ⟨cb, 5, none⟩ = some (.int .i64 0)) (c6 : w.cell? ⟨cb, 6, none⟩ = some (.int .i64 0)) (c7 : w.cell? ⟨cb, 7, none⟩ = some (.slice (some ⟨m, 0, none⟩) 3 cap)) (c8 : w.cell? ⟨cb, 8, none⟩ = some (.slice (some ⟨m, 0, none⟩) 3 cap)) (c9 : w.cell? ⟨cb, 9, none⟩ = some (.slice (some ⟨m, 0, none⟩) 3 cap)) (f : ∀ i, w.frozen? ⟨cb, i, none⟩ = false)
    (p : Pu) (s : Sk) (hp : PurAt w pb p) (hs : PSk G w sb s g) (hc : PCt H w kb ⟨[], 0⟩ g) (I : Ints w m 0 3 Wn) : ∃ F, PCh F w cb ⟨p, s, ⟨[], 0⟩, seed, 0, 0, 0, [Wn, Wn, Wn]⟩ g ∧ ∀ k, F k → B ≤ k := by
  have t3 : (fun k => tag0 cb pb m G H k = 3) = G := funext fun k => propext ⟨fun e => by
    unfold tag0 at e
    repeat' split at e
    all_goals (first | assumption | (cases e)), fun z => by
    obtain ⟨_, a, b⟩ := hG k z
    unfold tag0
    rw [if_neg a, if_neg b, if_pos z]⟩
  have t4 : (fun k => tag0 cb pb m G H k = 4) = H := funext fun k => propext ⟨fun e => by
    unfold tag0 at e
    repeat' split at e
    all_goals (first | assumption | (cases e)), fun z => by
    obtain ⟨_, a, b, c⟩ := hH k z
    unfold tag0
    rw [if_neg a, if_neg b, if_neg c, if_pos z]⟩
  have nz : ∀ k, tag0 cb pb m G H k ≠ 0 → k = cb ∨ k = pb ∨ G k ∨ H k ∨ k = m := fun k e => by
    unfold tag0 at e
    repeat' split at e
    all_goals first | (exact absurd rfl e) | (simp only [*, true_or, or_true])
  have lo : ∀ k, tag0 cb pb m G H k ≠ 0 → B ≤ k := fun k e => by
    rcases nz k e with z | z | z | z | z
    · omega
    · omega
    · exact (hG k z).1
    · exact (hH k z).1
    · rw [z]; exact hm.2.2.2.2.1
  refine ⟨fun k => tag0 cb pb m G H k ≠ 0, ⟨tag0 cb pb m G H, pb, sb, kb, fun _ => .slice (some ⟨m, 0, none⟩) 3 cap, fun _ => Iff.rfl, ?_⟩, lo⟩
  exact { c0 := c0, c1 := c1, c2 := c2, c3 := c3, c4 := c4, c5 := c5, c6 := c6, c7 := c7, c8 := c8, c9 := c9, f := f, p := hp
          s := by rw [t3]; exact hs
          c := by rw [t4]; exact hc
          pics := ⟨fun i W hi hW => by
            have hW : [Wn, Wn, Wn][i]? = some W := hW
            have e : W = Wn := by
              have : i = 0 ∨ i = 1 ∨ i = 2 := by omega
              rcases this with rfl | rfl | rfl <;> (cases hW; rfl)
            refine ⟨m, cap, rfl, ?_, e ▸ I⟩
            unfold tag0
            rw [if_neg hm.1, if_neg hm.2.1, if_neg hm.2.2.1, if_neg hm.2.2.2.1, if_pos rfl]⟩
          tc := by unfold tag0; rw [if_pos rfl]
          tp := by unfold tag0; rw [if_neg n1.symm, if_pos rfl]
          lt := fun k e => by
            rcases nz k e with z | z | z | z | z
            · rw [z]; exact cell_lt c0
            · rw [z]; exact hp.lt
            · exact hs.lt k z
            · exact hc.lt k z
            · rw [z]; exact hm.2.2.2.2.2
          vin := fun k z => Nat.lt_of_lt_of_le (hv k z) hB
          vs := fun k e z => by have := lo k e; have := hv k z; omega }
/-- the first pictures are laid -/
def picsTo (w : World) (cb : Nat) (v : Value) : Nat → World
  | 0 => w
  | j + 1 => (picsTo w cb v j).setCell ⟨cb, 7 + j, none⟩ v
theorem picsTo_other {w : World} {cb : Nat} {v : Value} (a : Addr) : ∀ j, (∀ i, i < j → (⟨cb, 7 + i, none⟩ : Addr) ≠ a) → (picsTo w cb v j).cell? a = w.cell? a
  | 0, _ => rfl
  | j + 1, h => by
    show ((picsTo w cb v j).setCell ⟨cb, 7 + j, none⟩ v).cell? a = _
    rw [World.cell?_setCell_other _ _ _ _ (h j (by omega))]
    exact picsTo_other a j fun i hi => h i (by omega)
theorem picsTo_frozen {w : World} {cb : Nat} {v : Value} (a : Addr) : ∀ j, (picsTo w cb v j).frozen? a = w.frozen? a
  | 0 => rfl
  | j + 1 => by
    show ((picsTo w cb v j).setCell ⟨cb, 7 + j, none⟩ v).frozen? a = _
    rw [World.frozen?_setCell]
    exact picsTo_frozen a j
theorem picsTo_kept {w : World} {cb : Nat} {v : Value} : ∀ j, KeptP (fun k => k = cb) w (picsTo w cb v j)
  | 0 => KeptP.refl _ _
  | j + 1 => (picsTo_kept j).setCell (p := ⟨cb, 7 + j, none⟩) rfl _
theorem picsTo_in {w : World} {cb : Nat} {v u : Value} : ∀ j i, i < j → (∀ i, i < j → w.cell? ⟨cb, 7 + i, none⟩ = some u) → (picsTo w cb v j).cell? ⟨cb, 7 + i, none⟩ = some v
  | j + 1, i, hi, h => by
    show ((picsTo w cb v j).setCell ⟨cb, 7 + j, none⟩ v).cell? ⟨cb, 7 + i, none⟩ = _
    by_cases e : i = j
    · subst e
      refine World.cell?_setCell_same _ _ _ (?_ : _ = some u)
      rw [picsTo_other _ i fun k hk z => absurd (show 7 + k = 7 + i from congrArg Addr.off z) (by omega)]
      exact h i (by omega)
    · rw [World.cell?_setCell_other _ _ _ _ (fun z => absurd (show 7 + j = 7 + i from congrArg Addr.off z) (by omega))]
      exact picsTo_in j i (by omega) fun k hk => h k (by omega)
set_option maxRecDepth 100000 in
set_option maxHeartbeats 4000000 in
theorem pch_new (seed : Nat) (_hs : seed < W64) (A : Nat → Addr) (w : World) (hL : ChLaid8 w A) :
    Calls Tryd.prog 5 #[.int .u64 seed] w fun e w' => ∃ cb F, e = .returned (.pointer (some ⟨cb, 0, none⟩)) ∧ PCh F w' cb (chNew seed) 10000 ∧ (∀ k, F k → w.heap.size ≤ k) ∧ Below w.heap.size w w' := by
  go_enter Tryd.func5, Tryd.ntmps5
  go_wp2_with fail
  refine (bks_open A w hL).mono ?_
  rintro e w1 ⟨pb, sb, G, rfl, hb1, hf1, hB1⟩
  have HB1 := hide hb1
  clear hb1
  go_wp2_with fail
  refine (pc_new w1).mono ?_
  rintro e w2 ⟨kb, H, rfl, hc2, hH, hB2⟩
  have HC2 := hide hc2
  clear hc2
  have A3 : Below w2.heap.size w2 (w2.alloc (.cells #[.pointer (some ⟨pb, 0, none⟩), .pointer (some ⟨sb, 0, none⟩), .pointer (some ⟨kb, 0, none⟩), .int .u64 seed, .int .i64 0, .int .i64 0, .int .i64 0, .slice none 0 0, .slice none 0 0, .slice none 0 0] 46)) := (Below.refl _ _).alloc (Nat.le_refl _) _
  have k0 : (w2.alloc (.cells #[.pointer (some ⟨pb, 0, none⟩), .pointer (some ⟨sb, 0, none⟩), .pointer (some ⟨kb, 0, none⟩), .int .u64 seed, .int .i64 0, .int .i64 0, .int .i64 0, .slice none 0 0, .slice none 0 0, .slice none 0 0] 46)).cell? ⟨w2.heap.size, 0, none⟩ = _ := cell_new _ _ _ _ _ _ rfl rfl
  have k1 : (w2.alloc (.cells #[.pointer (some ⟨pb, 0, none⟩), .pointer (some ⟨sb, 0, none⟩), .pointer (some ⟨kb, 0, none⟩), .int .u64 seed, .int .i64 0, .int .i64 0, .int .i64 0, .slice none 0 0, .slice none 0 0, .slice none 0 0] 46)).cell? ⟨w2.heap.size, 1, none⟩ = some (.pointer (some ⟨sb, 0, none⟩)) := cell_new _ _ _ _ _ _ rfl rfl
  have k2 : (w2.alloc (.cells #[.pointer (some ⟨pb, 0, none⟩), .pointer (some ⟨sb, 0, none⟩), .pointer (some ⟨kb, 0, none⟩), .int .u64 seed, .int .i64 0, .int .i64 0, .int .i64 0, .slice none 0 0, .slice none 0 0, .slice none 0 0] 46)).cell? ⟨w2.heap.size, 2, none⟩ = _ := cell_new _ _ _ _ _ _ rfl rfl
  have k3 : (w2.alloc (.cells #[.pointer (some ⟨pb, 0, none⟩), .pointer (some ⟨sb, 0, none⟩), .pointer (some ⟨kb, 0, none⟩), .int .u64 seed, .int .i64 0, .int .i64 0, .int .i64 0, .slice none 0 0, .slice none 0 0, .slice none 0 0] 46)).cell? ⟨w2.heap.size, 3, none⟩ = _ := cell_new _ _ _ _ _ _ rfl rfl
  have k4 : (w2.alloc (.cells #[.pointer (some ⟨pb, 0, none⟩), .pointer (some ⟨sb, 0, none⟩), .pointer (some ⟨kb, 0, none⟩), .int .u64 seed, .int .i64 0, .int .i64 0, .int .i64 0, .slice none 0 0, .slice none 0 0, .slice none 0 0] 46)).cell? ⟨w2.heap.size, 4, none⟩ = _ := cell_new _ _ _ _ _ _ rfl rfl
  have k5 : (w2.alloc (.cells #[.pointer (some ⟨pb, 0, none⟩), .pointer (some ⟨sb, 0, none⟩), .pointer (some ⟨kb, 0, none⟩), .int .u64 seed, .int .i64 0, .int .i64 0, .int .i64 0, .slice none 0 0, .slice none 0 0, .slice none 0 0] 46)).cell? ⟨w2.heap.size, 5, none⟩ = _ := cell_new _ _ _ _ _ _ rfl rfl
  have k6 : (w2.alloc (.cells #[.pointer (some ⟨pb, 0, none⟩), .pointer (some ⟨sb, 0, none⟩), .pointer (some ⟨kb, 0, none⟩), .int .u64 seed, .int .i64 0, .int .i64 0, .int .i64 0, .slice none 0 0, .slice none 0 0, .slice none 0 0] 46)).cell? ⟨w2.heap.size, 6, none⟩ = _ := cell_new _ _ _ _ _ _ rfl rfl
  have kz : ∀ i, i < 3 → (w2.alloc (.cells #[.pointer (some ⟨pb, 0, none⟩), .pointer (some ⟨sb, 0, none⟩), .pointer (some ⟨kb, 0, none⟩), .int .u64 seed, .int .i64 0, .int .i64 0, .int .i64 0, .slice none 0 0, .slice none 0 0, .slice none 0 0] 46)).cell? ⟨w2.heap.size, 7 + i, none⟩ = some (.slice none 0 0) := fun i hi => by
    have : i = 0 ∨ i = 1 ∨ i = 2 := by omega
    rcases this with rfl | rfl | rfl <;> exact cell_new _ _ _ _ _ _ rfl rfl
  have kf : ∀ i, (w2.alloc (.cells #[.pointer (some ⟨pb, 0, none⟩), .pointer (some ⟨sb, 0, none⟩), .pointer (some ⟨kb, 0, none⟩), .int .u64 seed, .int .i64 0, .int .i64 0, .int .i64 0, .slice none 0 0, .slice none 0 0, .slice none 0 0] 46)).frozen? ⟨w2.heap.size, i, none⟩ = false := fun i => World.frozen?_alloc_at _ _ _ _ rfl
  have b3 := (HB1.out.below hB2).below A3
  have c3 := HC2.out.keptP (KeptP.of_below (F := fun _ => False) A3) fun _ z => z.elim
  have l1 := HB1.out.lt
  have l2 := HC2.out.lt
  have P := pr_picture G sb stakes0 stakes0_ok 6012 _ b3.s
  have Q0 := hide k0
  have Q2 := hide k2
  have Q3 := hide k3
  have Q4 := hide k4
  have Q5 := hide k5
  have Q6 := hide k6
  have B3 := hide b3
  have C3 := hide c3
  have VI : Hid (∀ k, IsVar k → k < w.heap.size) := hL.vin
  clear k0 k2 k3 k4 k5 k6 b3 c3 HB1 HC2 hL
  go_wp2_with fail
  have y1 := hB1.size
  have y2 := hB2.size
  have y3 := A3.size
  have BW : Below w.heap.size w (w2.alloc (.cells #[.pointer (some ⟨pb, 0, none⟩), .pointer (some ⟨sb, 0, none⟩), .pointer (some ⟨kb, 0, none⟩), .int .u64 seed, .int .i64 0, .int .i64 0, .int .i64 0, .slice none 0 0, .slice none 0 0, .slice none 0 0] 46)) := (hB1.trans (hB2.mono y1)).trans (A3.mono (by omega))
  have lc : w2.heap.size < (w2.alloc (.cells #[.pointer (some ⟨pb, 0, none⟩), .pointer (some ⟨sb, 0, none⟩), .pointer (some ⟨kb, 0, none⟩), .int .u64 seed, .int .i64 0, .int .i64 0, .int .i64 0, .slice none 0 0, .slice none 0 0, .slice none 0 0] 46)).heap.size := cell_lt k1
  clear hB1 hB2 A3
  generalize hcb : w2.heap.size = cb at *
  generalize (w2.alloc (.cells #[.pointer (some ⟨pb, 0, none⟩), .pointer (some ⟨sb, 0, none⟩), .pointer (some ⟨kb, 0, none⟩), .int .u64 seed, .int .i64 0, .int .i64 0, .int .i64 0, .slice none 0 0, .slice none 0 0, .slice none 0 0] 46)) = w3 at *
  refine P.mono ?_
  rintro e w4 ⟨m, cap, rfl, ⟨hm, hm1⟩, I, hB4⟩
  have y4 := hB4.size
  have B4 : Below w.heap.size w w4 := BW.trans (hB4.mono (by omega))
  have b4 := B3.out.below hB4
  have c4 := C3.out.keptP (KeptP.of_below (F := fun _ => False) hB4) fun _ z => z.elim
  have z4 : ∀ i, i < 3 → w4.cell? ⟨cb, 7 + i, none⟩ = some (.slice none 0 0) := fun i hi => was_cellP hB4 (kz i hi)
  have f4 : ∀ i, w4.frozen? ⟨cb, i, none⟩ = false := fun i => by rw [hB4.frozen (p := ⟨cb, i, none⟩) lc]; exact kf i
  have R0 := hide (was_cellP hB4 Q0.out)
  have R1 := hide (was_cellP hB4 k1)
  have R2 := hide (was_cellP hB4 Q2.out)
  have R3 := hide (was_cellP hB4 Q3.out)
  have R4 := hide (was_cellP hB4 Q4.out)
  have R5 := hide (was_cellP hB4 Q5.out)
  have R6 := hide (was_cellP hB4 Q6.out)
  have HB4 := hide b4
  have HC4 := hide c4
  clear P B3 C3 Q0 Q2 Q3 Q4 Q5 Q6 k1 kz kf BW hB4 b4 c4
  go_wp2_with fail
  go_loopw [17] (fun i wr => ∃ j : Nat, j ≤ 3 ∧ i = .int .i64 j ∧ wr = picsTo w4 cb (.slice (some ⟨m, 0, none⟩) 3 cap) j) (fun i _ => 3 - (intOf i).toNat)
  case atStart => exact ⟨0, by omega, rfl, rfl⟩
  case round =>
    obtain ⟨j, hj, rfl, hwr⟩ := hrel
    by_cases hlt : j < 3
    · have jl : (j : Int) < 3 := by omega
      have cj : wr.cell? ⟨cb, 7 + j, none⟩ = some (.slice none 0 0) := by
        rw [hwr, picsTo_other _ j fun k hk z => absurd (show 7 + k = 7 + j from congrArg Addr.off z) (by omega)]
        exact z4 j hlt
      have fj : wr.frozen? ⟨cb, 7 + j, none⟩ = false := by rw [hwr, picsTo_frozen]; exact f4 _
      have HW := hide hwr
      clear hwr z4 f4
      go_wp2_with fail
      go_roundw
      case rel => exact ⟨j + 1, by omega, by go_num, by rw [HW.out]; rfl⟩
      case measure => simp [intOf]; omega
    · obtain rfl : 3 = j := by omega
      clear hlt hj
      have jl : ¬ ((3 : Nat) : Int) < 3 := by omega
      have HW := hide hwr
      clear hwr
      go_wp2_with fail
      go_ret
      have hwr := HW.out
      have K := picsTo_kept (w := w4) (cb := cb) (v := .slice (some ⟨m, 0, none⟩) 3 cap) 3
      rw [← hwr] at K
      have old : ∀ {i : Nat} {u : Value}, i < 7 → w4.cell? ⟨cb, i, none⟩ = some u → wr.cell? ⟨cb, i, none⟩ = some u := fun {i u} hi e => by
        rw [hwr, picsTo_other _ 3 fun k hk z => absurd (show 7 + k = i from congrArg Addr.off z) (by omega)]
        exact e
      have new : ∀ i, i < 3 → wr.cell? ⟨cb, 7 + i, none⟩ = some (.slice (some ⟨m, 0, none⟩) 3 cap) := fun i hi => by
        rw [hwr]
        exact picsTo_in 3 i hi z4
      have own : ∀ k, bksOwn pb G k → w.heap.size ≤ k ∧ k < w1.heap.size := fun k hk => ⟨hf1 k hk, l1 k hk⟩
      have b5 := HB4.out.keptP K fun k z y => by have := own k y; omega
      have c5 := HC4.out.keptP K fun k z y => by have := l2 k y; omega
      have BF : Below w.heap.size w wr := B4.trans (K.below (B := w.heap.size) (by omega) fun k z => by omega)
      obtain ⟨F, hF, lo⟩ := pch_first (B := w.heap.size) (w := wr) (cb := cb) (pb := pb) (sb := sb) (kb := kb) (seed := seed) (g := 6012) (m := m) (cap := cap) (G := G) (H := H) (Wn := stakes0.pic)
        (fun k q => by have := own k (.inr q); exact ⟨by omega, by omega, fun z => b5.np (z ▸ q)⟩)
        (fun k q => by have := hH k q; have := l2 k q; have := own pb (.inl rfl); exact ⟨by omega, by omega, by omega, fun z => by have := own k (.inr z); omega⟩)
        ⟨by omega, fun z => by have := own pb (.inl rfl); omega, fun z => by have := own m (.inr z); omega, fun z => by have := l2 m z; omega, by omega, by have := K.size; omega⟩
        (fun z => by have := own pb (.inl rfl); omega) (by omega) (own pb (.inl rfl)).1 BF.size VI.out
        (old (by omega) R0.out) (old (by omega) R1.out) (old (by omega) R2.out) (old (by omega) R3.out) (old (by omega) R4.out) (old (by omega) R5.out) (old (by omega) R6.out) (new 0 (by omega)) (new 1 (by omega)) (new 2 (by omega)) (fun i => by rw [hwr, picsTo_frozen]; exact f4 i)
        (outTo 3) (stkSt 3) b5.p b5.s (c5.more (by omega)) (fun i hi => K.old (I i hi) (by show ¬ m = cb; omega))
      exact ⟨cb, rfl, F, hF.more (by omega), lo, BF⟩
end Go.Proofs.YtjodnacodlhamacDoor



namespace Go.Proofs.YtjodnacodlhamacDoor
open Go.RowKit

theorem PCh.nextB {F : Nat → Prop} {w w' : World} {cb g : Nat} {C : Ch} (h : PCh F w cb C g) (k : Below w.heap.size w w') : PCh F w' cb C g := h.keptP (KeptP.of_below (F := fun _ => False) k) fun _ g => g.elim
theorem PCh.drewN {F : Nat → Prop} {w : World} {cb g : Nat} {C : Ch} (h : PCh F w cb C g) (n : Nat) : PCh F (w.drewN n) cb C g := h.nextB (below_drewN (Below.refl _ _) n)
set_option maxRecDepth 100000 in
theorem bakeTurn_yes (F : Nat → Prop) (cb : Nat) (C : Ch) (hC : C.Ok) (hb : C.Few) (g : Nat) (hg : g ≤ 800000) (r : Int) (hr : TurnOk C.cyc C.lev r) (A : Nat → Addr) (w : World) (hL : ChLaid8 w A) (h : PCh F w cb C g) :
    Calls Tryd.prog 8 #[.pointer (some ⟨cb, 0, none⟩), .int .i64 r] w fun e w' => ∃ k, e = .returned (.tuple #[.int .i64 k, .int .i64 (C.bakeN k), .nilIface]) ∧ Turn 3 C.pic C.seed C.cyc C.lev r k ∧ ∃ F', PCh F' w' cb (C.bake k) (g + 2000) ∧ Moved F F' w w' := by
  go_enter Tryd.func8, Tryd.ntmps8
  go_wp2_with fail
  refine (pch_turn F cb C hC hb g r hr A w hL h).mono ?_
  rintro e w1 ⟨k, rfl, hk, hB1⟩
  have h1 := h.nextB hB1
  go_wp2_with fail
  refine (pch_bake_own F cb C hC hb g hg k r hr (fun k' h' => h'.one hk) A w1 (hL.below hB1) h1).mono ?_
  rintro e w2 ⟨ev, F2, rfl, hE, h2, M2⟩
  obtain rfl := hE.nil rfl
  have M0 : Moved F F2 w w2 := Moved.trans (F' := F) ⟨KeptP.of_below hB1, fun _ _ g => g⟩ M2
  have HK := hide hk
  clear hk hE h1 M2
  go_wp2_with fail
  go_ret3
  exact ⟨k, rfl, HK.out, F2, h2, M0⟩
/-- the first block's reward -/
theorem chNew_rew (seed : Nat) : 0 < (chNew seed).rew ∧ (chNew seed).p.S + (chNew seed).rew ≤ 1125899906842624 := by
  have e : (chNew seed).rew = (chNew 0).rew := rfl
  have e2 : (chNew seed).p.S = 60000 := purse0_S
  rw [e, e2]
  decide
theorem stakes0_add : stakes0.addC 0 (chNew 0).rew = 0 ∧ stakes0.addC 1 (chNew 0).rew = 0 ∧ stakes0.addC 2 (chNew 0).rew = 0 := by decide
theorem chNew_pays (seed : Nat) {k : Int} (hk : Bk k) : (chNew seed).bakeN k = (chNew seed).rew := by
  have r := chNew_rew seed
  refine if_pos ⟨r.2, ?_⟩
  have h3 : k = 0 ∨ k = 1 ∨ k = 2 := by have := hk.1; have := hk.2; omega
  show stakes0.addC k (chNew 0).rew = 0
  rcases h3 with rfl | rfl | rfl
  · exact stakes0_add.1
  · exact stakes0_add.2.1
  · exact stakes0_add.2.2
theorem chNew_few (seed : Nat) : (chNew seed).Few := ⟨by show stakes0.K.length ≤ 400; decide, Nat.zero_le _, Nat.zero_le _, Nat.zero_le _⟩
/-- behind the first block -/
theorem chNew_baked (seed : Nat) (hs : seed < W64) (k : Int) : ((chNew seed).bake k).lev = 1 ∧ ((chNew seed).bake k).cyc = 0 ∧ ((chNew seed).bake k).p.S = 60000 + (chNew seed).bakeN k := by
  have p := (chNew seed).paid_same k
  have e1 : ((chNew seed).bake k).lev = 1 := by
    show ((chNew seed).paid k).stepped.lev = 1
    rw [Ch.stepped_lev, p.2.1]; rfl
  have e2 : ((chNew seed).bake k).cyc = 0 := by
    show ((chNew seed).paid k).stepped.cyc = 0
    rw [Ch.stepped_cyc (by rw [p.1, p.2.1]; show (0 : Nat) = 0 / 4; decide), p.2.1]; show (0 + 1) / 4 = 0; decide
  refine ⟨e1, e2, ?_⟩
  have b := ((chNew_ok seed hs).bake k).2.2 (by rw [e2]; rfl)
  rw [b]
  show purse0.S + _ = _
  rw [purse0_S]
theorem Turn.bk {C : Ch} (hC : C.Ok) {r k : Int} (h : Turn 3 C.pic C.seed C.cyc C.lev r k) : Bk k := by
  have t := hC.turn
  obtain ⟨j, rfl, hj, _⟩ := h.heavy t.1 t.2
  exact ⟨by omega, by omega⟩
set_option maxRecDepth 100000 in
set_option maxHeartbeats 1000000 in
theorem begun_of (A : Nat → Addr) (w : World) (hL : ChLaid8 w A) :
    Calls Tryd.prog 4 #[] w fun e w' => e = .returned (.bool true) ∧ Below w.heap.size w w' := by
  have hs : (7 : Nat) < W64 := by decide
  have ok := chNew_ok 7 hs
  have few := chNew_few 7
  have s0 : (chNew 7).p.S = 60000 := purse0_S
  have h0 : (chNew 7).p.s 0 = 9000 := purse0_has
  have PY := hide (fun k => chNew_pays 7 (k := k))
  have RW := hide (chNew_rew 7)
  have BK := hide (chNew_baked 7 hs)
  go_enter Tryd.func4, Tryd.ntmps4
  go_wp2_with fail
  refine (pch_new 7 hs A w hL).mono ?_
  rintro e w1 ⟨cb, F, rfl, h1, hF, hB1⟩
  have m1 := Mine.new hF hB1
  have tr : TurnOk ((chNew 7).cyc : Int) ((chNew 7).lev : Int) 0 := by
    show TurnOk ((0 : Nat) : Int) ((0 : Nat) : Int) 0
    decide
  have y0 : (chNew 7).cyc = 0 := rfl
  generalize chNew 7 = C at *
  have t1 : (C.p.S != 60000) = false := by simp [s0]
  have t2 : (C.p.s 0 != 9000) = false := by simp [h0]
  have t3 : ((C.cyc : Int) != 0) = false := by simp [y0]
  clear s0 h0 y0 hF hB1
  go_wp2_with fail
  refine (pch_supply F cb C _ w1 h1).mono ?_
  rintro e w2 ⟨rfl, hB2⟩
  have h2 := h1.nextB hB2
  have m2 := m1.nextB hB2
  clear h1 m1 hB2
  go_wp2_with fail
  refine (pch_has F cb C ok _ 0 w2 h2).mono ?_
  rintro e w3 ⟨rfl, hB3⟩
  have h3 := h2.nextB hB3
  have m3 := m2.nextB hB3
  clear h2 m2 hB3
  go_wp2_with fail
  refine (pch_cycle F cb C _ w3 h3).mono ?_
  rintro e w4 ⟨rfl, hB4⟩
  have h4 := h3.nextB hB4
  have m4 := m3.nextB hB4
  clear h3 m3 hB4
  go_wp2_with fail
  refine (bakeTurn_yes F cb C ok few 10000 (by omega) 0 tr A w4 (hL.below m4.below) h4).mono ?_
  rintro e w5 ⟨k, rfl, hk, F5, h5, M5⟩
  have m5 := m4.next M5
  have bk := Turn.bk ok hk
  have pk := PY.out k bk
  obtain ⟨q1, _, q3⟩ := BK.out k
  have rw0 := RW.out.1
  rw [← pk] at rw0
  have l1 := RW.out.2
  rw [← pk] at l1
  have sp := ok.pos
  obtain ⟨k0, k3⟩ := bk
  have Q1 := hide q1
  have Q3 := hide q3
  have x1 : ((((C.bake k).lev : Nat) : Int) == 1) = true := by rw [q1]; decide
  have x2 : ((C.bake k).p.S == 60000 + C.bakeN k) = true := by rw [q3]; simp
  clear pk q1 q3 M5 h4 m4 hk t1 t2 t3 tr
  go_wp2_with fail
  refine (pch_level F5 cb _ _ w5 h5).mono ?_
  rintro e w6 ⟨rfl, hB6⟩
  have h6 := h5.nextB hB6
  have m6 := m5.nextB hB6
  clear h5 m5 hB6
  go_wp2_with fail
  refine (pch_supply F5 cb _ _ w6 h6).mono ?_
  rintro e w7 ⟨rfl, hB7⟩
  have m7 := m6.nextB hB7
  clear h6 m6 hB7
  generalize C.bakeN k = bn at *
  go_wp2_with fail
  go_ret
  exact ⟨rfl, m7.below⟩
end Go.Proofs.YtjodnacodlhamacDoor
