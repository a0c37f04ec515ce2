/-
  Lots, plainly (after STEELE): a word that grows by an odd number, mixed so that no two are alike; how long it takes till it is 0.
-/
namespace Go.Proofs.YtlhffdmhbplpjaaDoor

abbrev W64 : Nat := 18446744073709551616
/-- a word, and itself moved down, held against each other -/
def xs (k z : Nat) : Nat := z ^^^ (z >>> k)
theorem xs_inj (k a b : Nat) (hk : 0 < k) (ha : a < W64) (hb : b < W64) (h : xs k a = xs k b) : a = b := by
  have big : ∀ z, z < W64 → ∀ i, 64 ≤ i → z.testBit i = false := fun z hz i hi => by
    refine Nat.testBit_lt_two_pow (Nat.lt_of_lt_of_le hz ?_)
    exact Nat.pow_le_pow_right (n := 2) (by omega) hi
  have key : ∀ m i, 64 ≤ i + m → a.testBit i = b.testBit i := by
    intro m
    induction m with
    | zero => intro i hi; rw [big a ha i hi, big b hb i hi]
    | succ m ih =>
      intro i hi
      have e := congrArg (fun z => Nat.testBit z i) h
      simp only [xs, Nat.testBit_xor, Nat.testBit_shiftRight] at e
      have e2 := ih (k + i) (by omega)
      rw [e2] at e
      revert e
      cases a.testBit i <;> cases b.testBit i <;> cases b.testBit (k + i) <;> simp
  exact Nat.eq_of_testBit_eq (fun i => key 64 i (by omega))
theorem xs_lt (k z : Nat) (hz : z < W64) : xs k z < W64 := by
  unfold xs
  refine Nat.xor_lt_two_pow (n := 64) hz ?_
  rw [Nat.shiftRight_eq_div_pow]
  exact Nat.lt_of_le_of_lt (Nat.div_le_self _ _) hz
/-- times an odd number: the word comes back -/
theorem mul_inj (c c' a b : Nat) (hc : c * c' % W64 = 1) (ha : a < W64) (hb : b < W64) (h : a * c % W64 = b * c % W64) : a = b := by
  have back : ∀ z, z < W64 → z * c % W64 * c' % W64 = z := fun z hz => by
    rw [Nat.mod_mul_mod, Nat.mul_assoc, ← Nat.mul_mod_mod, hc, Nat.mul_one, Nat.mod_eq_of_lt hz]
  rw [← back a ha, h, back b hb]

def mixN (z : Nat) : Nat := xs 31 (xs 27 (xs 30 z * 13787848793156543929 % W64) * 10723151780598845931 % W64)
theorem mixN_lt (z : Nat) : mixN z < W64 := xs_lt _ _ (Nat.mod_lt _ (by decide))
theorem mixN_inj (a b : Nat) (ha : a < W64) (hb : b < W64) (h : mixN a = mixN b) : a = b := by
  have m : ∀ z, z % W64 < W64 := fun z => Nat.mod_lt _ (by decide)
  have h1 := xs_inj 31 _ _ (by omega) (m _) (m _) h
  have h2 := mul_inj _ 3573116690164977347 _ _ (by decide) (xs_lt _ _ (m _)) (xs_lt _ _ (m _)) h1
  have h3 := xs_inj 27 _ _ (by omega) (m _) (m _) h2
  have h4 := mul_inj _ 10871156337175269513 _ _ (by decide) (xs_lt _ _ ha) (xs_lt _ _ hb) h3
  exact xs_inj 30 _ _ (by omega) ha hb h4
theorem mixN_zero : mixN 0 = 0 := by decide

theorem mod_cancel (s x y : Nat) (h : (s + x) % W64 = (s + y) % W64) : x % W64 = y % W64 := by
  have h' : (s + x) % 18446744073709551616 = (s + y) % 18446744073709551616 := h
  show x % 18446744073709551616 = y % 18446744073709551616
  omega

/-- the state behind so many lots -/
def stN (seed i : Nat) : Nat := (seed + i * 11400714819323198485) % W64
theorem stN_succ (seed i : Nat) : stN seed (i + 1) = (stN seed i + 11400714819323198485) % W64 := by
  unfold stN
  rw [Nat.mod_add_mod, Nat.add_mul, Nat.one_mul, Nat.add_assoc]
theorem stN_inj (seed i j : Nat) (hi : i < W64) (hj : j < W64) (h : stN seed i = stN seed j) : i = j := by
  refine mul_inj 11400714819323198485 17428512612931826493 i j (by decide) hi hj ?_
  exact mod_cancel seed _ _ h
/-- so many lots of one seed are all different ones -/
theorem lots_apart (seed i j : Nat) (hi : i + 1 < W64) (hj : j + 1 < W64) (h : mixN (stN seed (i + 1)) = mixN (stN seed (j + 1))) : i = j := by
  have := stN_inj seed (i + 1) (j + 1) hi hj (mixN_inj _ _ (Nat.mod_lt _ (by decide)) (Nat.mod_lt _ (by decide)) h)
  omega

/-- how many lots it takes till the state is 0 -/
def toZero (s : Nat) : Nat := if s = 0 then W64 else (W64 - s) * 17428512612931826493 % W64
theorem toZero_hits (s : Nat) (hs : s < W64) : (s + toZero s * 11400714819323198485) % W64 = 0 ∧ 1 ≤ toZero s ∧ toZero s ≤ W64 := by
  unfold toZero
  by_cases h : s = 0
  · rw [if_pos h, h]
    refine ⟨?_, by decide, Nat.le_refl _⟩
    rw [Nat.zero_add, Nat.mul_comm, Nat.mul_mod_left]
  · rw [if_neg h]
    have e : (W64 - s) * 17428512612931826493 % W64 * 11400714819323198485 % W64 = W64 - s := by
      rw [Nat.mod_mul_mod, Nat.mul_assoc, ← Nat.mul_mod_mod, show 17428512612931826493 * 11400714819323198485 % W64 = 1 by decide, Nat.mul_one, Nat.mod_eq_of_lt (by omega)]
    refine ⟨?_, ?_, Nat.le_of_lt (Nat.mod_lt _ (by decide))⟩
    · rw [← Nat.add_mod_mod, e, Nat.add_sub_cancel' (by omega), Nat.mod_self]
    · rcases Nat.eq_zero_or_pos ((W64 - s) * 17428512612931826493 % W64) with g | g
      · rw [g, Nat.zero_mul, Nat.zero_mod] at e; omega
      · exact g
theorem toZero_falls (s : Nat) (hs : s < W64) (hn : (s + 11400714819323198485) % W64 ≠ 0) : toZero ((s + 11400714819323198485) % W64) < toZero s := by
  obtain ⟨h1, h2, h3⟩ := toZero_hits s hs
  have hs' : (s + 11400714819323198485) % W64 < W64 := Nat.mod_lt _ (by decide)
  obtain ⟨g1, g2, g3⟩ := toZero_hits _ hs'
  have gne : toZero ((s + 11400714819323198485) % W64) < W64 := by
    unfold toZero
    rw [if_neg hn]
    exact Nat.mod_lt _ (by decide)
  generalize toZero s = k at *
  generalize toZero ((s + 11400714819323198485) % W64) = k' at *
  obtain ⟨m, rfl⟩ : ∃ m, k = m + 1 := ⟨k - 1, by omega⟩
  have e : stN ((s + 11400714819323198485) % W64) m = 0 := by
    unfold stN
    rw [Nat.mod_add_mod, Nat.add_assoc, Nat.add_comm 11400714819323198485, ← h1, Nat.add_mul, Nat.one_mul]
  have e' : stN ((s + 11400714819323198485) % W64) k' = 0 := g1
  have := stN_inj _ k' m gne (by omega) (e'.trans e.symm)
  omega
end Go.Proofs.YtlhffdmhbplpjaaDoor
