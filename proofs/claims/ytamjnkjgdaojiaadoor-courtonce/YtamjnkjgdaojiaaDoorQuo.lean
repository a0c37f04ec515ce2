/-
  Plain facts on quotients, down and up.
-/
namespace Go.Proofs.YtamjnkjgdaojiaaDoor

/-- a quotient, up -/
def upQ (p c : Int) : Int := if 0 < p % c then p / c + 1 else p / c
theorem upQ_rest (p c : Int) (h : 0 < p % c) : upQ p c = p / c + 1 := if_pos h
theorem upQ_even (p c : Int) (h : ¬ 0 < p % c) : upQ p c = p / c := if_neg h

/-! plain facts on quotients -/
theorem div_mul_le (p c : Int) (hc : 0 < c) : p / c * c ≤ p := Int.ediv_mul_le p (by omega)
theorem lt_div_mul (p c : Int) (hc : 0 < c) : p < p / c * c + c := by
  have h1 := Int.lt_ediv_add_one_mul_self p hc
  rw [Int.add_mul] at h1; omega
theorem le_div (v p c : Int) (hc : 0 < c) (h : v * c ≤ p) : v ≤ p / c := (Int.le_ediv_iff_mul_le hc).2 h
theorem div_le (v p c : Int) (hc : 0 < c) (h : p ≤ v * c) : p / c ≤ v := by
  have h1 := div_mul_le p c hc
  exact Int.le_of_mul_le_mul_right (Int.le_trans h1 h) hc
theorem div_nonneg (p c : Int) (hp : 0 ≤ p) (hc : 0 < c) : 0 ≤ p / c := Int.ediv_nonneg hp (by omega)
/-- a greater share of more -/
theorem div_mono2 (p c p' c' : Int) (hc : 0 < c) (hc' : 0 < c') (h : p * c' ≤ p' * c) : p / c ≤ p' / c' := by
  refine le_div _ _ _ hc' ?_
  have h1 := Int.mul_le_mul_of_nonneg_right (div_mul_le p c hc) (Int.le_of_lt hc')
  have h2 : p / c * c' * c ≤ p' * c := by
    have e : p / c * c' * c = p / c * c * c' := by grind
    rw [e]; exact Int.le_trans h1 h
  exact Int.le_of_mul_le_mul_right h2 hc
theorem upQ_ge (p c : Int) (hc : 0 < c) : p ≤ upQ p c * c := by
  have h1 := lt_div_mul p c hc
  have h2 := Int.emod_add_mul_ediv p c
  have h3 := Int.emod_nonneg p (show c ≠ 0 by omega)
  unfold upQ
  split
  · rw [Int.add_mul]; omega
  · have e : p / c * c = c * (p / c) := Int.mul_comm _ _
    omega
theorem upQ_le (p c v : Int) (hc : 0 < c) (h : p ≤ v * c) : upQ p c ≤ v := by
  have h1 := div_le v p c hc h
  unfold upQ
  split
  · rename_i hr
    have h2 := Int.emod_add_mul_ediv p c
    rcases Int.lt_or_eq_of_le h1 with g | g
    · omega
    · rw [Int.mul_comm v c, ← g] at h; omega
  · exact h1
theorem upQ_nonneg (p c : Int) (hp : 0 ≤ p) (hc : 0 < c) : 0 ≤ upQ p c := by
  have := div_nonneg p c hp hc
  unfold upQ; split <;> omega
end Go.Proofs.YtamjnkjgdaojiaaDoor
