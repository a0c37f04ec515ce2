/-
  Pools, plainly: nobody's value falls by what others do; values together are at most the total.
-/
import Derived.Test.YtlhffdmhbplpjaaDoorPoolMath
namespace Go.Proofs.YtlhffdmhbplpjaaDoor

theorem St.Ok.pos_of {x : St} (h : x.Ok) (g : ¬ x.A = 0) : 0 < x.A := by have := h.a0; omega
/-- values together are at most the total -/
theorem St.Ok.sum {x : St} (h : x.Ok) : x.val 0 + x.val 1 + x.val 2 + x.val 3 + x.val 4 + x.val 5 ≤ x.T := by
  by_cases hA : x.A = 0
  · simp only [St.val_none _ hA]; have := h.t0; omega
  · have hA := h.pos_of hA
    simp only [St.val_some _ hA]
    refine Int.le_of_mul_le_mul_right (a := x.A) ?_ hA
    have h0 := div_mul_le (x.s 0 * x.T) x.A hA
    have h1 := div_mul_le (x.s 1 * x.T) x.A hA
    have h2 := div_mul_le (x.s 2 * x.T) x.A hA
    have h3 := div_mul_le (x.s 3 * x.T) x.A hA
    have h4 := div_mul_le (x.s 4 * x.T) x.A hA
    have h5 := div_mul_le (x.s 5 * x.T) x.A hA
    have e : x.T * x.A = x.s 0 * x.T + x.s 1 * x.T + x.s 2 * x.T + x.s 3 * x.T + x.s 4 * x.T + x.s 5 * x.T := by unfold St.A; grind
    rw [e]
    simp only [Int.add_mul]
    omega

theorem cross_up (s T A k n : Int) (hs : 0 ≤ s) (h : k * T ≤ n * A) : s * T * (A + k) ≤ s * (T + n) * A := by
  have h1 := Int.mul_le_mul_of_nonneg_left h hs
  have e1 : s * T * (A + k) = s * T * A + s * (k * T) := by grind
  have e2 : s * (T + n) * A = s * T * A + s * (n * A) := by grind
  omega
theorem cross_mine (s T A k n : Int) (hs : s ≤ A) (h : k * T ≤ n * A) : (s + k) * (T + n) * A ≤ (s * T + n * A) * (A + k) := by
  have h1 := Int.mul_le_mul_of_nonneg_left h (show 0 ≤ A - s by omega)
  have e : (s * T + n * A) * (A + k) = (s + k) * (T + n) * A + ((A - s) * (n * A) - (A - s) * (k * T)) := by grind
  omega

theorem St.Ok.join_K {x : St} (h : x.Ok) {o n : Int} (hA : 0 < x.A) (hc : x.joinC o n = 0) : 0 < x.T ∧ x.joinK n * x.T ≤ n * x.A ∧ 0 ≤ x.joinK n := by
  obtain ⟨⟨o0, o6, n1, nM⟩, ht, _⟩ := St.joinC_zero hc
  have hT : 0 < x.T := by have := h.t0; have := ht hA; omega
  refine ⟨hT, ?_, h.joinK0 (by omega)⟩
  unfold St.joinK
  rw [if_neg (by omega)]
  exact div_mul_le _ _ hT
theorem St.Ok.join_other {x : St} (h : x.Ok) (o n i : Int) (hi : i ≠ o) : x.val i ≤ (x.join o n).val i := by
  have hok := h.join o n
  unfold St.join at hok ⊢
  split at hok
  · rename_i hc
    rw [if_pos hc]
    obtain ⟨⟨o0, o6, n1, nM⟩, _⟩ := St.joinC_zero hc
    by_cases hA : x.A = 0
    · rw [St.val_none i hA]; exact hok.val0 i
    · have hA := h.pos_of hA
      obtain ⟨hT, hk, k0⟩ := h.join_K hA hc
      have eA := x.set_A o (x.s o + x.joinK n) (x.T + n) o0 o6
      have hA' : 0 < (x.set o (x.s o + x.joinK n) (x.T + n)).A := by omega
      rw [St.val_some i hA, St.val_some i hA', St.set_other _ _ _ _ _ hi, St.set_T]
      refine div_mono2 _ _ _ _ hA hA' ?_
      rw [eA, show x.A - x.s o + (x.s o + x.joinK n) = x.A + x.joinK n by omega]
      exact cross_up _ _ _ _ _ (h.pos i) hk
  · rename_i hc; rw [if_neg hc]; exact Int.le_refl _
theorem St.Ok.join_mine {x : St} (h : x.Ok) (o n : Int) (hc : x.joinC o n = 0) : (x.join o n).val o ≤ x.val o + n := by
  have hok := h.join o n
  unfold St.join at hok ⊢
  rw [if_pos hc] at hok ⊢
  obtain ⟨⟨o0, o6, n1, nM⟩, _⟩ := St.joinC_zero hc
  have eA := x.set_A o (x.s o + x.joinK n) (x.T + n) o0 o6
  by_cases hA : x.A = 0
  · have := hok.val1 o
    rw [St.set_T] at this
    have hT := h.none hA
    rw [St.val_none o hA]; omega
  · have hA := h.pos_of hA
    obtain ⟨hT, hk, k0⟩ := h.join_K hA hc
    have hA' : 0 < (x.set o (x.s o + x.joinK n) (x.T + n)).A := by omega
    rw [St.val_some o hA, St.val_some o hA', St.set_same, St.set_T]
    have e : x.s o * x.T / x.A + n = (x.s o * x.T + n * x.A) / x.A := by rw [Int.add_mul_ediv_right _ _ (by omega)]
    rw [e]
    refine div_mono2 _ _ _ _ hA' hA ?_
    rw [eA, show x.A - x.s o + (x.s o + x.joinK n) = x.A + x.joinK n by omega]
    exact cross_mine _ _ _ _ _ (h.le_all o) hk

/-- two owners' shares are at most all -/
theorem St.Ok.two_le {x : St} (h : x.Ok) (i o : Int) (hi : i ≠ o) : x.s i + x.s o ≤ x.A := by
  by_cases g : 0 ≤ o ∧ o < 6
  · have e := x.set_A o 0 x.T g.1 g.2
    have h0 := h.pos 0
    have hl : (x.set o 0 x.T).s i ≤ (x.set o 0 x.T).A := by
      have hok : (⟨0, (x.set o 0 x.T).s⟩ : St).Ok := by
        have hle := h.le_all o
        have hp := h.pos o
        have ha := h.a1
        have k := h.set o 0 0 g.1 g.2 (by omega) (by omega) (by omega) (by omega) (fun _ => rfl)
        exact k
      exact hok.le_all i
    rw [St.set_other _ _ _ _ _ hi] at hl
    omega
  · rw [h.out o (by omega)]; have := h.le_all i; omega

theorem St.Ok.take_other {x : St} (h : x.Ok) (o n i : Int) (hi : i ≠ o) : x.val i ≤ (x.take o n).val i := by
  have hok := h.take o n
  unfold St.take at hok ⊢
  split at hok
  · rename_i hc
    rw [if_pos hc]
    obtain ⟨⟨o0, o6, n1, nM⟩, hv, hall⟩ := St.takeC_zero hc
    obtain ⟨hA, hT, hnT, k0, k1, hk⟩ := h.take_in n1 hv
    have eA := x.set_A o (x.s o - x.takeK n) (x.T - n) o0 o6
    have h2 := h.two_le i o hi
    have hp := h.pos i
    by_cases hA' : (x.set o (x.s o - x.takeK n) (x.T - n)).A = 0
    · have e0 : x.s i = 0 := by omega
      rw [St.val_some i hA, e0, Int.zero_mul, Int.zero_ediv]; exact hok.val0 i
    · have hA' := hok.pos_of hA'
      rw [St.val_some i hA, St.val_some i hA', St.set_other _ _ _ _ _ hi, St.set_T]
      refine div_mono2 _ _ _ _ hA hA' ?_
      rw [eA, show x.A - x.s o + (x.s o - x.takeK n) = x.A + (- x.takeK n) by omega, show x.T - n = x.T + -n by omega]
      exact cross_up _ _ _ _ _ hp (by rw [Int.neg_mul, Int.neg_mul]; omega)
  · rename_i hc; rw [if_neg hc]; exact Int.le_refl _
theorem St.Ok.take_mine {x : St} (h : x.Ok) (o n : Int) (hc : x.takeC o n = 0) : (x.take o n).val o ≤ x.val o - n := by
  have hok := h.take o n
  unfold St.take at hok ⊢
  rw [if_pos hc] at hok ⊢
  obtain ⟨⟨o0, o6, n1, nM⟩, hv, hall⟩ := St.takeC_zero hc
  obtain ⟨hA, hT, hnT, k0, k1, hk⟩ := h.take_in n1 hv
  have eA := x.set_A o (x.s o - x.takeK n) (x.T - n) o0 o6
  by_cases hA' : (x.set o (x.s o - x.takeK n) (x.T - n)).A = 0
  · rw [St.val_none o hA']; omega
  · have hA' := hok.pos_of hA'
    rw [St.val_some o hA, St.val_some o hA', St.set_same, St.set_T]
    have e : x.s o * x.T / x.A - n = (x.s o * x.T + -n * x.A) / x.A := by rw [Int.add_mul_ediv_right _ _ (by omega)]; omega
    rw [e]
    refine div_mono2 _ _ _ _ hA' hA ?_
    rw [eA, show x.A - x.s o + (x.s o - x.takeK n) = x.A + (- x.takeK n) by omega, show x.T - n = x.T + -n by omega, show x.s o - x.takeK n = x.s o + -x.takeK n by omega]
    exact cross_mine _ _ _ _ _ (h.le_all o) (by rw [Int.neg_mul, Int.neg_mul]; omega)

theorem St.Ok.leave_other {x : St} (h : x.Ok) (o i : Int) (hi : i ≠ o) : x.val i ≤ (x.leave o).val i := by
  have hok := h.leave o
  unfold St.leave at hok ⊢
  split at hok
  · rename_i hc
    rw [if_pos hc]
    obtain ⟨o0, o6, hs⟩ := St.leaveC_zero hc
    have eA := x.set_A o 0 (x.T - x.val o) o0 o6
    have h2 := h.two_le i o hi
    have hp := h.pos i
    have hpo := h.pos o
    have hA : 0 < x.A := by have := h.le_all o; omega
    by_cases hA' : (x.set o 0 (x.T - x.val o)).A = 0
    · have e0 : x.s i = 0 := by omega
      rw [St.val_some i hA, e0, Int.zero_mul, Int.zero_ediv]; exact hok.val0 i
    · have hA' := hok.pos_of hA'
      rw [St.val_some i hA, St.val_some i hA', St.set_other _ _ _ _ _ hi, St.set_T]
      refine div_mono2 _ _ _ _ hA hA' ?_
      rw [eA, show x.A - x.s o + 0 = x.A + (- x.s o) by omega, show x.T - x.val o = x.T + -x.val o by omega]
      refine cross_up _ _ _ _ _ hp ?_
      have := div_mul_le (x.s o * x.T) x.A hA
      rw [St.val_some o hA, Int.neg_mul, Int.neg_mul]; omega
  · rename_i hc; rw [if_neg hc]; exact Int.le_refl _
theorem St.Ok.add_all {x : St} (h : x.Ok) (n i : Int) : x.val i ≤ (x.add n).val i := by
  unfold St.add
  split
  · rename_i hc
    obtain ⟨n0, n1, ha, ht⟩ := St.addC_zero hc
    have hA := h.pos_of ha
    rw [St.val_some i hA, St.val_some (x := ⟨x.T + n, x.s⟩) i hA]
    refine Int.ediv_le_ediv hA (Int.mul_le_mul_of_nonneg_left ?_ (h.pos i))
    show x.T ≤ x.T + n
    omega
  · exact Int.le_refl _
theorem St.Ok.slash_all {x : St} (h : x.Ok) (p i : Int) : (x.slash p).val i ≤ x.val i := by
  have hb := h.slashN_bd p
  by_cases hA : x.A = 0
  · rw [St.val_none i hA, St.val_none (x := x.slash p) i hA]; exact Int.le_refl _
  · have hA := h.pos_of hA
    rw [St.val_some i hA, St.val_some (x := x.slash p) i hA]
    refine Int.ediv_le_ediv hA (Int.mul_le_mul_of_nonneg_left ?_ (h.pos i))
    show x.T - x.slashN p ≤ x.T
    omega
theorem St.slash_bad {x : St} (p : Int) (hc : x.slashC p ≠ 0) : x.slash p = x := by
  have : ¬ (0 ≤ p ∧ p ≤ 100) := fun g => hc (by unfold St.slashC; rw [if_neg (not_not_intro g)])
  unfold St.slash St.slashN
  rw [if_neg this, Int.sub_zero]
end Go.Proofs.YtlhffdmhbplpjaaDoor
