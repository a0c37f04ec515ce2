/-
  What my texts lean on: the program, and the library's walk.
  The rows, and what the library has for them.
  Lots, plainly (after STEELE): a word that grows by an odd number, mixed so that no two are alike; how long it takes till it is 0.
  A uint64 that came in, as a natural number.
  Purses, plainly: what each of six owners may spend, and the supply.
  Plain facts on quotients, down and up.
-/
import Derived.Test.YtaihcceobnfmhaaDoorProg
import Derived.WalkKit
import Derived.OwnWalk
import Derived.Outline
import Derived.Deep.QuietTactic
import Derived.BigQuiet
import Derived.Below
import Derived.Test.YtaihcceobnfmhaaDoorRows
import Derived.ChangeSame
import Derived.ChangeVars
import Derived.JoinedOf
import Derived.RowKit
import Derived.RowKitTokens
import Derived.LaidLaws
import Derived.LaidHandle
import Derived.Stop.Joined
import Derived.Stop.LaidErr
import Derived.ProofKit
import Derived.LaidMore
import Derived.OpenShut
import Derived.Carry




namespace Go.Proofs.YtaihcceobnfmhaaDoor

abbrev W64 : Nat := 18446744073709551616
/-- a word, and itself moved down, held against each other -/
def xs (k z : Nat) : Nat := z ^^^ (z >>> k)
theorem xs_inj (k a b : Nat) (hk : 0 < k) (ha : a < W64) (hb : b < W64) (h : xs k a = xs k b) : a = b := by
  have big : ∀ z, z < W64 → ∀ i, 64 ≤ i → z.testBit i = false := fun z hz i hi => by
    refine Nat.testBit_lt_two_pow (Nat.lt_of_lt_of_le hz ?_)
    exact Nat.pow_le_pow_right (n := 2) (by omega) hi
  have key : ∀ m i, 64 ≤ i + m → a.testBit i = b.testBit i := by
    intro m
    induction m with
    | zero => intro i hi; rw [big a ha i hi, big b hb i hi]
    | succ m ih =>
      intro i hi
      have e := congrArg (fun z => Nat.testBit z i) h
      simp only [xs, Nat.testBit_xor, Nat.testBit_shiftRight] at e
      have e2 := ih (k + i) (by omega)
      rw [e2] at e
      revert e
      cases a.testBit i <;> cases b.testBit i <;> cases b.testBit (k + i) <;> simp
  exact Nat.eq_of_testBit_eq (fun i => key 64 i (by omega))
theorem xs_lt (k z : Nat) (hz : z < W64) : xs k z < W64 := by
  unfold xs
  refine Nat.xor_lt_two_pow (n := 64) hz ?_
  rw [Nat.shiftRight_eq_div_pow]
  exact Nat.lt_of_le_of_lt (Nat.div_le_self _ _) hz
/-- times an odd number: the word comes back -/
theorem mul_inj (c c' a b : Nat) (hc : c * c' % W64 = 1) (ha : a < W64) (hb : b < W64) (h : a * c % W64 = b * c % W64) : a = b := by
  have back : ∀ z, z < W64 → z * c % W64 * c' % W64 = z := fun z hz => by
    rw [Nat.mod_mul_mod, Nat.mul_assoc, ← Nat.mul_mod_mod, hc, Nat.mul_one, Nat.mod_eq_of_lt hz]
  rw [← back a ha, h, back b hb]

def mixN (z : Nat) : Nat := xs 31 (xs 27 (xs 30 z * 13787848793156543929 % W64) * 10723151780598845931 % W64)
theorem mixN_lt (z : Nat) : mixN z < W64 := xs_lt _ _ (Nat.mod_lt _ (by decide))
theorem mixN_inj (a b : Nat) (ha : a < W64) (hb : b < W64) (h : mixN a = mixN b) : a = b := by
  have m : ∀ z, z % W64 < W64 := fun z => Nat.mod_lt _ (by decide)
  have h1 := xs_inj 31 _ _ (by omega) (m _) (m _) h
  have h2 := mul_inj _ 3573116690164977347 _ _ (by decide) (xs_lt _ _ (m _)) (xs_lt _ _ (m _)) h1
  have h3 := xs_inj 27 _ _ (by omega) (m _) (m _) h2
  have h4 := mul_inj _ 10871156337175269513 _ _ (by decide) (xs_lt _ _ ha) (xs_lt _ _ hb) h3
  exact xs_inj 30 _ _ (by omega) ha hb h4
theorem mixN_zero : mixN 0 = 0 := by decide

theorem mod_cancel (s x y : Nat) (h : (s + x) % W64 = (s + y) % W64) : x % W64 = y % W64 := by
  have h' : (s + x) % 18446744073709551616 = (s + y) % 18446744073709551616 := h
  show x % 18446744073709551616 = y % 18446744073709551616
  omega

/-- the state behind so many lots -/
def stN (seed i : Nat) : Nat := (seed + i * 11400714819323198485) % W64
theorem stN_succ (seed i : Nat) : stN seed (i + 1) = (stN seed i + 11400714819323198485) % W64 := by
  unfold stN
  rw [Nat.mod_add_mod, Nat.add_mul, Nat.one_mul, Nat.add_assoc]
theorem stN_inj (seed i j : Nat) (hi : i < W64) (hj : j < W64) (h : stN seed i = stN seed j) : i = j := by
  refine mul_inj 11400714819323198485 17428512612931826493 i j (by decide) hi hj ?_
  exact mod_cancel seed _ _ h
/-- so many lots of one seed are all different ones -/
theorem lots_apart (seed i j : Nat) (hi : i + 1 < W64) (hj : j + 1 < W64) (h : mixN (stN seed (i + 1)) = mixN (stN seed (j + 1))) : i = j := by
  have := stN_inj seed (i + 1) (j + 1) hi hj (mixN_inj _ _ (Nat.mod_lt _ (by decide)) (Nat.mod_lt _ (by decide)) h)
  omega

/-- how many lots it takes till the state is 0 -/
def toZero (s : Nat) : Nat := if s = 0 then W64 else (W64 - s) * 17428512612931826493 % W64
theorem toZero_hits (s : Nat) (hs : s < W64) : (s + toZero s * 11400714819323198485) % W64 = 0 ∧ 1 ≤ toZero s ∧ toZero s ≤ W64 := by
  unfold toZero
  by_cases h : s = 0
  · rw [if_pos h, h]
    refine ⟨?_, by decide, Nat.le_refl _⟩
    rw [Nat.zero_add, Nat.mul_comm, Nat.mul_mod_left]
  · rw [if_neg h]
    have e : (W64 - s) * 17428512612931826493 % W64 * 11400714819323198485 % W64 = W64 - s := by
      rw [Nat.mod_mul_mod, Nat.mul_assoc, ← Nat.mul_mod_mod, show 17428512612931826493 * 11400714819323198485 % W64 = 1 by decide, Nat.mul_one, Nat.mod_eq_of_lt (by omega)]
    refine ⟨?_, ?_, Nat.le_of_lt (Nat.mod_lt _ (by decide))⟩
    · rw [← Nat.add_mod_mod, e, Nat.add_sub_cancel' (by omega), Nat.mod_self]
    · rcases Nat.eq_zero_or_pos ((W64 - s) * 17428512612931826493 % W64) with g | g
      · rw [g, Nat.zero_mul, Nat.zero_mod] at e; omega
      · exact g
theorem toZero_falls (s : Nat) (hs : s < W64) (hn : (s + 11400714819323198485) % W64 ≠ 0) : toZero ((s + 11400714819323198485) % W64) < toZero s := by
  obtain ⟨h1, h2, h3⟩ := toZero_hits s hs
  have hs' : (s + 11400714819323198485) % W64 < W64 := Nat.mod_lt _ (by decide)
  obtain ⟨g1, g2, g3⟩ := toZero_hits _ hs'
  have gne : toZero ((s + 11400714819323198485) % W64) < W64 := by
    unfold toZero
    rw [if_neg hn]
    exact Nat.mod_lt _ (by decide)
  generalize toZero s = k at *
  generalize toZero ((s + 11400714819323198485) % W64) = k' at *
  obtain ⟨m, rfl⟩ : ∃ m, k = m + 1 := ⟨k - 1, by omega⟩
  have e : stN ((s + 11400714819323198485) % W64) m = 0 := by
    unfold stN
    rw [Nat.mod_add_mod, Nat.add_assoc, Nat.add_comm 11400714819323198485, ← h1, Nat.add_mul, Nat.one_mul]
  have e' : stN ((s + 11400714819323198485) % W64) k' = 0 := g1
  have := stN_inj _ k' m gne (by omega) (e'.trans e.symm)
  omega
end Go.Proofs.YtaihcceobnfmhaaDoor

namespace Go.Proofs.YtaihcceobnfmhaaDoor

theorem u64_nat {x : Int} (h : (Lit.int .u64 x).wf = true) : ∃ s : Nat, x = s ∧ s < W64 := by
  have h' : 0 ≤ x ∧ x ≤ 18446744073709551615 := by
    simpa [Lit.wf, IntKind.min, IntKind.max, IntKind.signed, IntKind.bits] using h
  exact ⟨x.toNat, by omega, by show x.toNat < 18446744073709551616; omega⟩
end Go.Proofs.YtaihcceobnfmhaaDoor

namespace Go.Proofs.YtaihcceobnfmhaaDoor

structure Pu where
  s : Int → Int
  S : Int
def Pu.sum (x : Pu) : Int := x.s 0 + x.s 1 + x.s 2 + x.s 3 + x.s 4 + x.s 5
/-- a function with one value set -/
def put (f : Int → Int) (o v : Int) : Int → Int := fun i => if i = o then v else f i
theorem put_same (f : Int → Int) (o v : Int) : put f o v o = v := if_pos rfl
theorem put_other (f : Int → Int) (o v i : Int) (h : i ≠ o) : put f o v i = f i := if_neg h
theorem sum_put (x : Pu) (S : Int) (o v : Int) (h : 0 ≤ o ∧ o < 6) : (Pu.mk (put x.s o v) S).sum = x.sum - x.s o + v := by
  have : o = 0 ∨ o = 1 ∨ o = 2 ∨ o = 3 ∨ o = 4 ∨ o = 5 := by omega
  unfold Pu.sum put
  rcases this with rfl | rfl | rfl | rfl | rfl | rfl <;> simp <;> omega
structure Pu.Ok (x : Pu) : Prop where
  pos : ∀ o, 0 ≤ x.s o
  out : ∀ o, ¬ (0 ≤ o ∧ o < 6) → x.s o = 0
  le : x.sum ≤ x.S
  top : x.S ≤ 1125899906842624
theorem Pu.Ok.sum0 {x : Pu} (h : x.Ok) : 0 ≤ x.sum := by
  have h0 := h.pos 0
  have h1 := h.pos 1
  have h2 := h.pos 2
  have h3 := h.pos 3
  have h4 := h.pos 4
  have h5 := h.pos 5
  unfold Pu.sum; omega
theorem Pu.Ok.one {x : Pu} (h : x.Ok) (o : Int) : x.s o ≤ x.sum := by
  have h0 := h.pos 0
  have h1 := h.pos 1
  have h2 := h.pos 2
  have h3 := h.pos 3
  have h4 := h.pos 4
  have h5 := h.pos 5
  by_cases g : 0 ≤ o ∧ o < 6
  · have : o = 0 ∨ o = 1 ∨ o = 2 ∨ o = 3 ∨ o = 4 ∨ o = 5 := by omega
    unfold Pu.sum
    rcases this with rfl | rfl | rfl | rfl | rfl | rfl <;> omega
  · rw [h.out o g]; exact h.sum0
theorem Pu.Ok.two {x : Pu} (h : x.Ok) (o p : Int) (ne : o ≠ p) : x.s o + x.s p ≤ x.sum := by
  have h0 := h.pos 0
  have h1 := h.pos 1
  have h2 := h.pos 2
  have h3 := h.pos 3
  have h4 := h.pos 4
  have h5 := h.pos 5
  by_cases g : 0 ≤ o ∧ o < 6
  · by_cases k : 0 ≤ p ∧ p < 6
    · have a : o = 0 ∨ o = 1 ∨ o = 2 ∨ o = 3 ∨ o = 4 ∨ o = 5 := by omega
      have b : p = 0 ∨ p = 1 ∨ p = 2 ∨ p = 3 ∨ p = 4 ∨ p = 5 := by omega
      unfold Pu.sum
      rcases a with rfl | rfl | rfl | rfl | rfl | rfl <;> rcases b with rfl | rfl | rfl | rfl | rfl | rfl <;> omega
    · rw [h.out p k]; have := h.one o; omega
  · rw [h.out o g]; have := h.one p; omega

/-- an amount; an owner -/
def Amt (n : Int) : Prop := 0 ≤ n ∧ n ≤ 1125899906842624
def Own (o : Int) : Prop := 0 ≤ o ∧ o < 6
instance (n : Int) : Decidable (Amt n) := inferInstanceAs (Decidable (_ ∧ _))
instance (n : Int) : Decidable (Own n) := inferInstanceAs (Decidable (_ ∧ _))
def none' : Pu := ⟨fun _ => 0, 0⟩
theorem none_ok : none'.Ok := ⟨fun _ => Int.le_refl _, fun _ _ => rfl, by decide, by decide⟩

/-! what is done, and its error's number -/
def Pu.growC (x : Pu) (n : Int) : Int := if Amt n ∧ x.S + n ≤ 1125899906842624 then 0 else 2
def Pu.grow (x : Pu) (n : Int) : Pu := if x.growC n = 0 then ⟨x.s, x.S + n⟩ else x
def Pu.mintC (x : Pu) (o n : Int) : Int := if Own o ∧ Amt n ∧ x.S + n ≤ 1125899906842624 then 0 else 2
def Pu.mint (x : Pu) (o n : Int) : Pu := if x.mintC o n = 0 then ⟨put x.s o (x.s o + n), x.S + n⟩ else x
def Pu.burnC (x : Pu) (n : Int) : Int := if ¬ Amt n then 2 else if x.S - x.sum < n then 6 else 0
def Pu.burn (x : Pu) (n : Int) : Pu := if x.burnC n = 0 then ⟨x.s, x.S - n⟩ else x
def Pu.outC (x : Pu) (o n : Int) : Int := if ¬ (Own o ∧ Amt n) then 2 else if x.s o < n then 6 else 0
def Pu.out (x : Pu) (o n : Int) : Pu := if x.outC o n = 0 then ⟨put x.s o (x.s o - n), x.S⟩ else x
def Pu.inC (x : Pu) (o n : Int) : Int := if ¬ (Own o ∧ Amt n) then 2 else if x.S - x.sum < n then 6 else 0
def Pu.in' (x : Pu) (o n : Int) : Pu := if x.inC o n = 0 then ⟨put x.s o (x.s o + n), x.S⟩ else x
def Pu.moveC (x : Pu) (o p n : Int) : Int := if ¬ (Own o ∧ Own p ∧ Amt n) then 2 else if x.s o < n then 6 else 0
def Pu.move (x : Pu) (o p n : Int) : Pu := if x.moveC o p n = 0 then ⟨put (put x.s o (x.s o - n)) p (put x.s o (x.s o - n) p + n), x.S⟩ else x

theorem Pu.Ok.putOk {x : Pu} (h : x.Ok) (o v S : Int) (ho : Own o) (hv : 0 ≤ v) (hS : x.sum - x.s o + v ≤ S) (hT : S ≤ 1125899906842624) : (Pu.mk (put x.s o v) S).Ok where
  pos := fun i => by
    show 0 ≤ put x.s o v i
    unfold put; split
    · exact hv
    · exact h.pos i
  out := fun i hi => by
    show put x.s o v i = 0
    rw [put_other _ _ _ _ (fun e => hi (by rw [e]; exact ho))]; exact h.out i hi
  le := by rw [sum_put x S o v ho]; exact hS
  top := hT
theorem Pu.Ok.grow {x : Pu} (h : x.Ok) (n : Int) : (x.grow n).Ok := by
  unfold Pu.grow Pu.growC
  by_cases g : Amt n ∧ x.S + n ≤ 1125899906842624
  · rw [if_pos g, if_pos rfl]
    exact ⟨h.pos, h.out, by have := h.le; have := g.1.1; show x.sum ≤ x.S + n; omega, g.2⟩
  · rw [if_neg g, if_neg (by decide)]; exact h
theorem Pu.Ok.mint {x : Pu} (h : x.Ok) (o n : Int) : (x.mint o n).Ok := by
  unfold Pu.mint Pu.mintC
  by_cases g : Own o ∧ Amt n ∧ x.S + n ≤ 1125899906842624
  · rw [if_pos g, if_pos rfl]
    have := h.pos o
    have := h.le
    have := g.2.1.1
    exact h.putOk o _ _ g.1 (by omega) (by omega) g.2.2
  · rw [if_neg g, if_neg (by decide)]; exact h
theorem Pu.Ok.burn {x : Pu} (h : x.Ok) (n : Int) : (x.burn n).Ok := by
  unfold Pu.burn Pu.burnC
  by_cases g : Amt n
  · rw [if_neg (show ¬ ¬ Amt n from fun k => k g)]
    by_cases k : x.S - x.sum < n
    · rw [if_pos k, if_neg (by decide)]; exact h
    · rw [if_neg k, if_pos rfl]
      have := h.top
      have := g.1
      exact ⟨h.pos, h.out, by show x.sum ≤ x.S - n; omega, by show x.S - n ≤ _; omega⟩
  · rw [if_pos g, if_neg (by decide)]; exact h
theorem Pu.Ok.out' {x : Pu} (h : x.Ok) (o n : Int) : (x.out o n).Ok := by
  unfold Pu.out Pu.outC
  by_cases g : Own o ∧ Amt n
  · rw [if_neg (show ¬ ¬ (Own o ∧ Amt n) from fun k => k g)]
    by_cases k : x.s o < n
    · rw [if_pos k, if_neg (by decide)]; exact h
    · rw [if_neg k, if_pos rfl]
      have := h.le
      have := g.2.1
      exact h.putOk o _ _ g.1 (by omega) (by omega) h.top
  · rw [if_pos g, if_neg (by decide)]; exact h
theorem Pu.Ok.in' {x : Pu} (h : x.Ok) (o n : Int) : (x.in' o n).Ok := by
  unfold Pu.in' Pu.inC
  by_cases g : Own o ∧ Amt n
  · rw [if_neg (show ¬ ¬ (Own o ∧ Amt n) from fun k => k g)]
    by_cases k : x.S - x.sum < n
    · rw [if_pos k, if_neg (by decide)]; exact h
    · rw [if_neg k, if_pos rfl]
      have := h.pos o
      have := g.2.1
      exact h.putOk o _ _ g.1 (by omega) (by omega) h.top
  · rw [if_pos g, if_neg (by decide)]; exact h
theorem Pu.Ok.move {x : Pu} (h : x.Ok) (o p n : Int) : (x.move o p n).Ok := by
  unfold Pu.move Pu.moveC
  by_cases g : Own o ∧ Own p ∧ Amt n
  · rw [if_neg (show ¬ ¬ (Own o ∧ Own p ∧ Amt n) from fun k => k g)]
    by_cases k : x.s o < n
    · rw [if_pos k, if_neg (by decide)]; exact h
    · rw [if_neg k, if_pos rfl]
      have hle := h.le
      have hn := g.2.2.1
      have h1 : (Pu.mk (put x.s o (x.s o - n)) x.S).Ok := h.putOk o _ _ g.1 (by omega) (by omega) h.top
      have e1 := sum_put x x.S o (x.s o - n) g.1
      have hp := h1.pos p
      exact h1.putOk p _ _ g.2.1 (by show 0 ≤ put x.s o (x.s o - n) p + n; have : 0 ≤ put x.s o (x.s o - n) p := hp; omega) (by rw [e1]; show _ - put x.s o (x.s o - n) p + (put x.s o (x.s o - n) p + n) ≤ _; omega) h.top
  · rw [if_pos g, if_neg (by decide)]; exact h
end Go.Proofs.YtaihcceobnfmhaaDoor

namespace Go.Proofs.YtaihcceobnfmhaaDoor

/-- a quotient, up -/
def upQ (p c : Int) : Int := if 0 < p % c then p / c + 1 else p / c
theorem upQ_rest (p c : Int) (h : 0 < p % c) : upQ p c = p / c + 1 := if_pos h
theorem upQ_even (p c : Int) (h : ¬ 0 < p % c) : upQ p c = p / c := if_neg h

/-! plain facts on quotients -/
theorem div_mul_le (p c : Int) (hc : 0 < c) : p / c * c ≤ p := Int.ediv_mul_le p (by omega)
theorem lt_div_mul (p c : Int) (hc : 0 < c) : p < p / c * c + c := by
  have h1 := Int.lt_ediv_add_one_mul_self p hc
  rw [Int.add_mul] at h1; omega
theorem le_div (v p c : Int) (hc : 0 < c) (h : v * c ≤ p) : v ≤ p / c := (Int.le_ediv_iff_mul_le hc).2 h
theorem div_le (v p c : Int) (hc : 0 < c) (h : p ≤ v * c) : p / c ≤ v := by
  have h1 := div_mul_le p c hc
  exact Int.le_of_mul_le_mul_right (Int.le_trans h1 h) hc
theorem div_nonneg (p c : Int) (hp : 0 ≤ p) (hc : 0 < c) : 0 ≤ p / c := Int.ediv_nonneg hp (by omega)
/-- a greater share of more -/
theorem div_mono2 (p c p' c' : Int) (hc : 0 < c) (hc' : 0 < c') (h : p * c' ≤ p' * c) : p / c ≤ p' / c' := by
  refine le_div _ _ _ hc' ?_
  have h1 := Int.mul_le_mul_of_nonneg_right (div_mul_le p c hc) (Int.le_of_lt hc')
  have h2 : p / c * c' * c ≤ p' * c := by
    have e : p / c * c' * c = p / c * c * c' := by grind
    rw [e]; exact Int.le_trans h1 h
  exact Int.le_of_mul_le_mul_right h2 hc
theorem upQ_ge (p c : Int) (hc : 0 < c) : p ≤ upQ p c * c := by
  have h1 := lt_div_mul p c hc
  have h2 := Int.emod_add_mul_ediv p c
  have h3 := Int.emod_nonneg p (show c ≠ 0 by omega)
  unfold upQ
  split
  · rw [Int.add_mul]; omega
  · have e : p / c * c = c * (p / c) := Int.mul_comm _ _
    omega
theorem upQ_le (p c v : Int) (hc : 0 < c) (h : p ≤ v * c) : upQ p c ≤ v := by
  have h1 := div_le v p c hc h
  unfold upQ
  split
  · rename_i hr
    have h2 := Int.emod_add_mul_ediv p c
    rcases Int.lt_or_eq_of_le h1 with g | g
    · omega
    · rw [Int.mul_comm v c, ← g] at h; omega
  · exact h1
theorem upQ_nonneg (p c : Int) (hp : 0 ≤ p) (hc : 0 < c) : 0 ≤ upQ p c := by
  have := div_nonneg p c hp hc
  unfold upQ; split <;> omega
end Go.Proofs.YtaihcceobnfmhaaDoor
