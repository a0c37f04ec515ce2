/-
  Lots, plainly: the next one, one below a number, numbers mixed into a seed.
-/
import Derived.Test.YtlhffdmhbplpjaaDoorLotsMath
namespace Go.Proofs.YtlhffdmhbplpjaaDoor

/-- the state behind one lot -/
def nextS (s : Nat) : Nat := (s + 11400714819323198485) % W64
/-- the lot -/
def nextL (s : Nat) : Nat := mixN (nextS s)
theorem nextS_lt (s : Nat) : nextS s < W64 := Nat.mod_lt _ (by decide)
theorem nextL_lt (s : Nat) : nextL s < W64 := mixN_lt _

/-- the state ahead of a lot -/
def prevS (s : Nat) : Nat := (s + 7046029254386353131) % W64
theorem prevS_next (q : Nat) (h : q < W64) : prevS (nextS q) = q := by
  unfold prevS nextS
  have h' : q < 18446744073709551616 := h
  show ((q + 11400714819323198485) % 18446744073709551616 + 7046029254386353131) % 18446744073709551616 = q
  omega
theorem lag_ex : ∃ f : Nat → Nat, ∀ s, f s = toZero (prevS s) := ⟨_, fun _ => rfl⟩
/-- the greatest multiple of n that is at most 2^63 -/
def most (n : Nat) : Nat := 9223372036854775808 / n * n
theorem most_le (n : Nat) : most n ≤ 9223372036854775808 := Nat.div_mul_le_self _ _
theorem most_pos (n : Nat) (h1 : 1 ≤ n) (h2 : n ≤ 9223372036854775808) : 0 < most n := Nat.mul_pos (Nat.div_pos h2 h1) h1
theorem most_rest (n : Nat) : most n + 9223372036854775808 % n = 9223372036854775808 := by
  unfold most
  exact Nat.div_add_mod' _ _
/-- a lot below n: v, and the state behind it -/
inductive Bel (n : Nat) : Nat → Nat → Nat → Prop
  | take (s : Nat) (h : nextL s / 2 < most n) : Bel n s (nextL s / 2 % n) (nextS s)
  | more (s v t : Nat) (h : ¬ nextL s / 2 < most n) (r : Bel n (nextS s) v t) : Bel n s v t
theorem Bel.one {n s v t v' t' : Nat} (h : Bel n s v t) (k : Bel n s v' t') : v = v' ∧ t = t' := by
  induction h with
  | take s h =>
    cases k with
    | take => exact ⟨rfl, rfl⟩
    | more _ _ _ g _ => exact absurd h g
  | more s v t h r ih =>
    cases k with
    | take _ g => exact absurd g h
    | more _ _ _ _ r' => exact ih r'
theorem Bel.lt {n s v t : Nat} (h : Bel n s v t) (hn : 0 < n) : v < n ∧ t < W64 := by
  induction h with
  | take s h => exact ⟨Nat.mod_lt _ hn, nextS_lt s⟩
  | more s v t h r ih => exact ih
/-- what is not taken is not the last: the state is not 0 then -/
theorem not_zero {n s : Nat} (h1 : 1 ≤ n) (h2 : n ≤ 9223372036854775808) (h : ¬ nextL s / 2 < most n) : nextS s ≠ 0 := fun e => by
  unfold nextL at h
  rw [e, mixN_zero] at h
  exact h (most_pos n h1 h2)
theorem falls {n s : Nat} (hs : s < W64) (h1 : 1 ≤ n) (h2 : n ≤ 9223372036854775808) (h : ¬ nextL s / 2 < most n) : toZero (nextS s) < toZero s := toZero_falls s hs (not_zero h1 h2 h)
/-- the document's test is that one -/
theorem most_test (z n : Nat) (hn : 0 < n) : z - z % n + n ≤ 9223372036854775808 ↔ z < most n := by
  unfold most
  have e := Nat.div_add_mod z n
  have hm := Nat.mod_lt z hn
  have h1 : z - z % n = n * (z / n) := by omega
  rw [h1]
  have h2 : n * (z / n) + n = (z / n + 1) * n := by rw [Nat.add_mul, Nat.one_mul, Nat.mul_comm]
  rw [h2, ← Nat.le_div_iff_mul_le hn, Nat.succ_le_iff, Nat.div_lt_iff_lt_mul hn]

/-- a number as a word -/
def toU (x : Int) : Nat := (x % 18446744073709551616).toNat
theorem toU_lt (x : Int) : toU x < W64 := by
  unfold toU
  have := Int.emod_lt_of_pos x (show (0 : Int) < 18446744073709551616 by decide)
  have := Int.emod_nonneg x (show (18446744073709551616 : Int) ≠ 0 by decide)
  show _ < 18446744073709551616
  omega
theorem toU_cast (x : Int) : ((toU x : Nat) : Int) = x % 18446744073709551616 := Int.toNat_of_nonneg (Int.emod_nonneg x (by decide))
/-- the first so many numbers mixed into a seed -/
def mixTo (W : Nat → Int) (seed : Nat) : Nat → Nat
  | 0 => seed
  | k + 1 => nextL (mixTo W seed k ^^^ toU (W k))
theorem xor_lt64 {a b : Nat} (ha : a < W64) (hb : b < W64) : a ^^^ b < W64 := Nat.xor_lt_two_pow (n := 64) ha hb
theorem mixTo_lt (W : Nat → Int) (seed : Nat) (hs : seed < W64) : ∀ k, mixTo W seed k < W64
  | 0 => hs
  | _ + 1 => nextL_lt _
theorem mixTo_cut (W : Nat → Int) (seed c : Nat) : ∀ k, mixTo W seed (c + k) = mixTo (fun i => W (c + i)) (mixTo W seed c) k
  | 0 => rfl
  | k + 1 => by
    show nextL (mixTo W seed (c + k) ^^^ toU (W (c + k))) = nextL (_ ^^^ toU (W (c + k)))
    rw [mixTo_cut W seed c k]
theorem mixTo_congr {W V : Nat → Int} (seed : Nat) : ∀ n, (∀ i, i < n → W i = V i) → mixTo W seed n = mixTo V seed n
  | 0, _ => rfl
  | n + 1, h => by
    show nextL (mixTo W seed n ^^^ toU (W n)) = nextL (mixTo V seed n ^^^ toU (V n))
    rw [mixTo_congr seed n (fun i hi => h i (by omega)), h n (by omega)]
end Go.Proofs.YtlhffdmhbplpjaaDoor
