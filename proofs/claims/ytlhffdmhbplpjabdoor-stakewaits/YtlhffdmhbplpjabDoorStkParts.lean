/-
  Sums over what waits, baker by baker, cycle by cycle, in any order.
-/
import Derived.Test.YtlhffdmhbplpjabDoorPtrMap
namespace Go.Proofs.YtlhffdmhbplpjabDoor

/-- the summands of one baker whose cycles are no longer to come -/
def sumB (K : List (Int × Int)) (b : Int) (left : Int → Bool) (f : Int → Int → Int) : Int := sumK K fun b' c' => if b' = b ∧ left c' = false then f b' c' else 0
theorem sumB_step {K : List (Int × Int)} (hn : K.Nodup) {b c : Int} {left : Int → Bool} {f : Int → Int → Int} (hl : left c = true) (h0 : (b, c) ∉ K → f b c = 0) : sumB K b (but left c) f = sumB K b left f + f b c := by
  have oth : ∀ k, k ≠ (b, c) → (if k.1 = b ∧ but left c k.2 = false then f k.1 k.2 else 0) = (if k.1 = b ∧ left k.2 = false then f k.1 k.2 else 0) := by
    intro k hk
    by_cases e : k.1 = b
    · have ec : k.2 ≠ c := fun e2 => hk (by rw [← e, ← e2])
      rw [but_other _ _ _ ec]
    · rw [if_neg (fun g => e g.1), if_neg (fun g => e g.1)]
  have hd : (if b = b ∧ left c = false then f b c else 0) = 0 := if_neg (fun g => by rw [hl] at g; cases g.2)
  have hd2 : (if b = b ∧ but left c c = false then f b c else 0) = f b c := if_pos ⟨rfl, but_same _ _⟩
  by_cases hm : (b, c) ∈ K
  · have e := sumK_one (f := fun b' c' => if b' = b ∧ left c' = false then f b' c' else 0) (g := fun b' c' => if b' = b ∧ but left c c' = false then f b' c' else 0) b c K hn hm (fun k _ ne => oth k ne)
    unfold sumB
    rw [e]
    show sumK K _ - (if b = b ∧ left c = false then f b c else 0) + (if b = b ∧ but left c c = false then f b c else 0) = _
    rw [hd, hd2]
    omega
  · rw [h0 hm]
    unfold sumB
    rw [sumK_congr (g := fun b' c' => if b' = b ∧ left c' = false then f b' c' else 0) K (fun k hk => oth k (fun e => hm (e ▸ hk)))]
    omega
theorem sumB_start {K : List (Int × Int)} {b : Int} {left : Int → Bool} {f : Int → Int → Int} (h : ∀ c, left c = false → f b c = 0) : sumB K b left f = 0 :=
  sumK_zero K fun k _ => by
    by_cases g : k.1 = b ∧ left k.2 = false
    · rw [if_pos g, g.1]; exact h _ g.2
    · exact if_neg g
theorem sumB_end {K : List (Int × Int)} {b : Int} {left : Int → Bool} {f : Int → Int → Int} (h : ∀ c, left c = false) : sumB K b left f = sumK K fun b' c' => if b' = b then f b' c' else 0 :=
  sumK_congr K fun k _ => by
    by_cases g : k.1 = b
    · rw [if_pos ⟨g, h _⟩, if_pos g]
    · rw [if_neg (fun e => g e.1), if_neg g]
theorem sumB_bd {K : List (Int × Int)} {b : Int} {left : Int → Bool} {f : Int → Int → Int} {M : Int} (hM : 0 ≤ M) (h : ∀ b c, 0 ≤ f b c ∧ f b c ≤ M) : 0 ≤ sumB K b left f ∧ sumB K b left f ≤ K.length * M := by
  refine ⟨sumK_nonneg K fun k _ => ?_, sumK_le K fun k _ => ?_⟩
  · by_cases g : k.1 = b ∧ left k.2 = false
    · rw [if_pos g]; exact (h _ _).1
    · rw [if_neg g]; exact Int.le_refl _
  · by_cases g : k.1 = b ∧ left k.2 = false
    · rw [if_pos g]; exact (h _ _).2
    · rw [if_neg g]; exact hM
/-- the summands of bakers that are done -/
def sumD (K : List (Int × Int)) (d : Int → Bool) (f : Int → Int → Int) : Int := sumK K fun b' c' => if d b' = true then f b' c' else 0
theorem sumD_step {K : List (Int × Int)} {d : Int → Bool} {b : Int} {f : Int → Int → Int} (hd : d b = false) : sumD K (set1 d b true) f = sumD K d f + sumK K fun b' c' => if b' = b then f b' c' else 0 := by
  unfold sumD
  rw [← sumK_add]
  refine sumK_congr K fun k _ => ?_
  show (if set1 d b true k.1 = true then f k.1 k.2 else 0) = (if d k.1 = true then f k.1 k.2 else 0) + (if k.1 = b then f k.1 k.2 else 0)
  by_cases e : k.1 = b
  · rw [e, set1_same, if_pos rfl, hd, if_neg (by simp), if_pos rfl]; omega
  · rw [set1_other _ _ _ _ e, if_neg e]; omega
theorem sumD_start {K : List (Int × Int)} {d : Int → Bool} {f : Int → Int → Int} (h : ∀ b, d b = false) : sumD K d f = 0 := sumK_zero K fun k _ => by rw [h]; rfl
theorem sumD_end {K : List (Int × Int)} {d : Int → Bool} {f : Int → Int → Int} (h : ∀ k, k ∈ K → d k.1 = true) : sumD K d f = sumK K f := sumK_congr K fun k hk => by rw [h k hk]; rfl
theorem sumD_bd {K : List (Int × Int)} {d : Int → Bool} {f : Int → Int → Int} {M : Int} (hM : 0 ≤ M) (h : ∀ b c, 0 ≤ f b c ∧ f b c ≤ M) : 0 ≤ sumD K d f ∧ sumD K d f ≤ K.length * M := by
  refine ⟨sumK_nonneg K fun k _ => ?_, sumK_le K fun k _ => ?_⟩
  · by_cases g : d k.1 = true
    · rw [if_pos g]; exact (h _ _).1
    · rw [if_neg g]; exact Int.le_refl _
  · by_cases g : d k.1 = true
    · rw [if_pos g]; exact (h _ _).2
    · rw [if_neg g]; exact hM
end Go.Proofs.YtlhffdmhbplpjabDoor
