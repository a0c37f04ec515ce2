/-
  Lots, plainly (after STEELE): a word that grows by an odd number, mixed so that no two are alike; how long it takes till it is 0.
  Lots, plainly: the next one, one below a number, numbers mixed into a seed.
  Next lots, as Go reckons them; the program's by its contract.
  The program's lots by their contracts: a new one, numbers mixed; the closed fact.
  The program's lot below a number, by its contract.
-/
import Derived.Test.YtileplhjbnmgnabGreatDoorKept
import Derived.Laws.Bits64
import Derived.Test.YtileplhjbnmgnabGreatDoorIntsX
import Derived.Test.YtileplhjbnmgnabGreatDoorBound
import Derived.Test.YtileplhjbnmgnabGreatDoorBases
namespace Go.Proofs.YtileplhjbnmgnabGreatDoor

abbrev W64 : Nat := 18446744073709551616
/-- a word, and itself moved down, held against each other -/
def xs (k z : Nat) : Nat := z ^^^ (z >>> k)
theorem xs_inj (k a b : Nat) (hk : 0 < k) (ha : a < W64) (hb : b < W64) (h : xs k a = xs k b) : a = b := by
  have big : ∀ z, z < W64 → ∀ i, 64 ≤ i → z.testBit i = false := fun z hz i hi => by
    refine Nat.testBit_lt_two_pow (Nat.lt_of_lt_of_le hz ?_)
    exact Nat.pow_le_pow_right (n := 2) (by omega) hi
  have key : ∀ m i, 64 ≤ i + m → a.testBit i = b.testBit i := by
    intro m
    induction m with
    | zero => intro i hi; rw [big a ha i hi, big b hb i hi]
    | succ m ih =>
      intro i hi
      have e := congrArg (fun z => Nat.testBit z i) h
      simp only [xs, Nat.testBit_xor, Nat.testBit_shiftRight] at e
      have e2 := ih (k + i) (by omega)
      rw [e2] at e
      revert e
      cases a.testBit i <;> cases b.testBit i <;> cases b.testBit (k + i) <;> simp
  exact Nat.eq_of_testBit_eq (fun i => key 64 i (by omega))
theorem xs_lt (k z : Nat) (hz : z < W64) : xs k z < W64 := by
  unfold xs
  refine Nat.xor_lt_two_pow (n := 64) hz ?_
  rw [Nat.shiftRight_eq_div_pow]
  exact Nat.lt_of_le_of_lt (Nat.div_le_self _ _) hz
/-- times an odd number: the word comes back -/
theorem mul_inj (c c' a b : Nat) (hc : c * c' % W64 = 1) (ha : a < W64) (hb : b < W64) (h : a * c % W64 = b * c % W64) : a = b := by
  have back : ∀ z, z < W64 → z * c % W64 * c' % W64 = z := fun z hz => by
    rw [Nat.mod_mul_mod, Nat.mul_assoc, ← Nat.mul_mod_mod, hc, Nat.mul_one, Nat.mod_eq_of_lt hz]
  rw [← back a ha, h, back b hb]

def mixN (z : Nat) : Nat := xs 31 (xs 27 (xs 30 z * 13787848793156543929 % W64) * 10723151780598845931 % W64)
theorem mixN_lt (z : Nat) : mixN z < W64 := xs_lt _ _ (Nat.mod_lt _ (by decide))
theorem mixN_inj (a b : Nat) (ha : a < W64) (hb : b < W64) (h : mixN a = mixN b) : a = b := by
  have m : ∀ z, z % W64 < W64 := fun z => Nat.mod_lt _ (by decide)
  have h1 := xs_inj 31 _ _ (by omega) (m _) (m _) h
  have h2 := mul_inj _ 3573116690164977347 _ _ (by decide) (xs_lt _ _ (m _)) (xs_lt _ _ (m _)) h1
  have h3 := xs_inj 27 _ _ (by omega) (m _) (m _) h2
  have h4 := mul_inj _ 10871156337175269513 _ _ (by decide) (xs_lt _ _ ha) (xs_lt _ _ hb) h3
  exact xs_inj 30 _ _ (by omega) ha hb h4
theorem mixN_zero : mixN 0 = 0 := by decide

theorem mod_cancel (s x y : Nat) (h : (s + x) % W64 = (s + y) % W64) : x % W64 = y % W64 := by
  have h' : (s + x) % 18446744073709551616 = (s + y) % 18446744073709551616 := h
  show x % 18446744073709551616 = y % 18446744073709551616
  omega

/-- the state behind so many lots -/
def stN (seed i : Nat) : Nat := (seed + i * 11400714819323198485) % W64
theorem stN_succ (seed i : Nat) : stN seed (i + 1) = (stN seed i + 11400714819323198485) % W64 := by
  unfold stN
  rw [Nat.mod_add_mod, Nat.add_mul, Nat.one_mul, Nat.add_assoc]
theorem stN_inj (seed i j : Nat) (hi : i < W64) (hj : j < W64) (h : stN seed i = stN seed j) : i = j := by
  refine mul_inj 11400714819323198485 17428512612931826493 i j (by decide) hi hj ?_
  exact mod_cancel seed _ _ h
/-- so many lots of one seed are all different ones -/
theorem lots_apart (seed i j : Nat) (hi : i + 1 < W64) (hj : j + 1 < W64) (h : mixN (stN seed (i + 1)) = mixN (stN seed (j + 1))) : i = j := by
  have := stN_inj seed (i + 1) (j + 1) hi hj (mixN_inj _ _ (Nat.mod_lt _ (by decide)) (Nat.mod_lt _ (by decide)) h)
  omega

/-- how many lots it takes till the state is 0 -/
def toZero (s : Nat) : Nat := if s = 0 then W64 else (W64 - s) * 17428512612931826493 % W64
theorem toZero_hits (s : Nat) (hs : s < W64) : (s + toZero s * 11400714819323198485) % W64 = 0 ∧ 1 ≤ toZero s ∧ toZero s ≤ W64 := by
  unfold toZero
  by_cases h : s = 0
  · rw [if_pos h, h]
    refine ⟨?_, by decide, Nat.le_refl _⟩
    rw [Nat.zero_add, Nat.mul_comm, Nat.mul_mod_left]
  · rw [if_neg h]
    have e : (W64 - s) * 17428512612931826493 % W64 * 11400714819323198485 % W64 = W64 - s := by
      rw [Nat.mod_mul_mod, Nat.mul_assoc, ← Nat.mul_mod_mod, show 17428512612931826493 * 11400714819323198485 % W64 = 1 by decide, Nat.mul_one, Nat.mod_eq_of_lt (by omega)]
    refine ⟨?_, ?_, Nat.le_of_lt (Nat.mod_lt _ (by decide))⟩
    · rw [← Nat.add_mod_mod, e, Nat.add_sub_cancel' (by omega), Nat.mod_self]
    · rcases Nat.eq_zero_or_pos ((W64 - s) * 17428512612931826493 % W64) with g | g
      · rw [g, Nat.zero_mul, Nat.zero_mod] at e; omega
      · exact g
theorem toZero_falls (s : Nat) (hs : s < W64) (hn : (s + 11400714819323198485) % W64 ≠ 0) : toZero ((s + 11400714819323198485) % W64) < toZero s := by
  obtain ⟨h1, h2, h3⟩ := toZero_hits s hs
  have hs' : (s + 11400714819323198485) % W64 < W64 := Nat.mod_lt _ (by decide)
  obtain ⟨g1, g2, g3⟩ := toZero_hits _ hs'
  have gne : toZero ((s + 11400714819323198485) % W64) < W64 := by
    unfold toZero
    rw [if_neg hn]
    exact Nat.mod_lt _ (by decide)
  generalize toZero s = k at *
  generalize toZero ((s + 11400714819323198485) % W64) = k' at *
  obtain ⟨m, rfl⟩ : ∃ m, k = m + 1 := ⟨k - 1, by omega⟩
  have e : stN ((s + 11400714819323198485) % W64) m = 0 := by
    unfold stN
    rw [Nat.mod_add_mod, Nat.add_assoc, Nat.add_comm 11400714819323198485, ← h1, Nat.add_mul, Nat.one_mul]
  have e' : stN ((s + 11400714819323198485) % W64) k' = 0 := g1
  have := stN_inj _ k' m gne (by omega) (e'.trans e.symm)
  omega
end Go.Proofs.YtileplhjbnmgnabGreatDoor

namespace Go.Proofs.YtileplhjbnmgnabGreatDoor

/-- the state behind one lot -/
def nextS (s : Nat) : Nat := (s + 11400714819323198485) % W64
/-- the lot -/
def nextL (s : Nat) : Nat := mixN (nextS s)
theorem nextS_lt (s : Nat) : nextS s < W64 := Nat.mod_lt _ (by decide)
theorem nextL_lt (s : Nat) : nextL s < W64 := mixN_lt _

/-- the state ahead of a lot -/
def prevS (s : Nat) : Nat := (s + 7046029254386353131) % W64
theorem prevS_next (q : Nat) (h : q < W64) : prevS (nextS q) = q := by
  unfold prevS nextS
  have h' : q < 18446744073709551616 := h
  show ((q + 11400714819323198485) % 18446744073709551616 + 7046029254386353131) % 18446744073709551616 = q
  omega
theorem lag_ex : ∃ f : Nat → Nat, ∀ s, f s = toZero (prevS s) := ⟨_, fun _ => rfl⟩
/-- the greatest multiple of n that is at most 2^63 -/
def most (n : Nat) : Nat := 9223372036854775808 / n * n
theorem most_le (n : Nat) : most n ≤ 9223372036854775808 := Nat.div_mul_le_self _ _
theorem most_pos (n : Nat) (h1 : 1 ≤ n) (h2 : n ≤ 9223372036854775808) : 0 < most n := Nat.mul_pos (Nat.div_pos h2 h1) h1
theorem most_rest (n : Nat) : most n + 9223372036854775808 % n = 9223372036854775808 := by
  unfold most
  exact Nat.div_add_mod' _ _
/-- a lot below n: v, and the state behind it -/
inductive Bel (n : Nat) : Nat → Nat → Nat → Prop
  | take (s : Nat) (h : nextL s / 2 < most n) : Bel n s (nextL s / 2 % n) (nextS s)
  | more (s v t : Nat) (h : ¬ nextL s / 2 < most n) (r : Bel n (nextS s) v t) : Bel n s v t
theorem Bel.one {n s v t v' t' : Nat} (h : Bel n s v t) (k : Bel n s v' t') : v = v' ∧ t = t' := by
  induction h with
  | take s h =>
    cases k with
    | take => exact ⟨rfl, rfl⟩
    | more _ _ _ g _ => exact absurd h g
  | more s v t h r ih =>
    cases k with
    | take _ g => exact absurd g h
    | more _ _ _ _ r' => exact ih r'
theorem Bel.lt {n s v t : Nat} (h : Bel n s v t) (hn : 0 < n) : v < n ∧ t < W64 := by
  induction h with
  | take s h => exact ⟨Nat.mod_lt _ hn, nextS_lt s⟩
  | more s v t h r ih => exact ih
/-- what is not taken is not the last: the state is not 0 then -/
theorem not_zero {n s : Nat} (h1 : 1 ≤ n) (h2 : n ≤ 9223372036854775808) (h : ¬ nextL s / 2 < most n) : nextS s ≠ 0 := fun e => by
  unfold nextL at h
  rw [e, mixN_zero] at h
  exact h (most_pos n h1 h2)
theorem falls {n s : Nat} (hs : s < W64) (h1 : 1 ≤ n) (h2 : n ≤ 9223372036854775808) (h : ¬ nextL s / 2 < most n) : toZero (nextS s) < toZero s := toZero_falls s hs (not_zero h1 h2 h)
/-- the document's test is that one -/
theorem most_test (z n : Nat) (hn : 0 < n) : z - z % n + n ≤ 9223372036854775808 ↔ z < most n := by
  unfold most
  have e := Nat.div_add_mod z n
  have hm := Nat.mod_lt z hn
  have h1 : z - z % n = n * (z / n) := by omega
  rw [h1]
  have h2 : n * (z / n) + n = (z / n + 1) * n := by rw [Nat.add_mul, Nat.one_mul, Nat.mul_comm]
  rw [h2, ← Nat.le_div_iff_mul_le hn, Nat.succ_le_iff, Nat.div_lt_iff_lt_mul hn]

/-- a number as a word -/
def toU (x : Int) : Nat := (x % 18446744073709551616).toNat
theorem toU_lt (x : Int) : toU x < W64 := by
  unfold toU
  have := Int.emod_lt_of_pos x (show (0 : Int) < 18446744073709551616 by decide)
  have := Int.emod_nonneg x (show (18446744073709551616 : Int) ≠ 0 by decide)
  show _ < 18446744073709551616
  omega
theorem toU_cast (x : Int) : ((toU x : Nat) : Int) = x % 18446744073709551616 := Int.toNat_of_nonneg (Int.emod_nonneg x (by decide))
/-- the first so many numbers mixed into a seed -/
def mixTo (W : Nat → Int) (seed : Nat) : Nat → Nat
  | 0 => seed
  | k + 1 => nextL (mixTo W seed k ^^^ toU (W k))
theorem xor_lt64 {a b : Nat} (ha : a < W64) (hb : b < W64) : a ^^^ b < W64 := Nat.xor_lt_two_pow (n := 64) ha hb
theorem mixTo_lt (W : Nat → Int) (seed : Nat) (hs : seed < W64) : ∀ k, mixTo W seed k < W64
  | 0 => hs
  | _ + 1 => nextL_lt _
theorem mixTo_cut (W : Nat → Int) (seed c : Nat) : ∀ k, mixTo W seed (c + k) = mixTo (fun i => W (c + i)) (mixTo W seed c) k
  | 0 => rfl
  | k + 1 => by
    show nextL (mixTo W seed (c + k) ^^^ toU (W (c + k))) = nextL (_ ^^^ toU (W (c + k)))
    rw [mixTo_cut W seed c k]
theorem mixTo_congr {W V : Nat → Int} (seed : Nat) : ∀ n, (∀ i, i < n → W i = V i) → mixTo W seed n = mixTo V seed n
  | 0, _ => rfl
  | n + 1, h => by
    show nextL (mixTo W seed n ^^^ toU (W n)) = nextL (mixTo V seed n ^^^ toU (V n))
    rw [mixTo_congr seed n (fun i hi => h i (by omega)), h n (by omega)]
end Go.Proofs.YtileplhjbnmgnabGreatDoor

namespace Go.Proofs.YtileplhjbnmgnabGreatDoor
open Go.RowKit

theorem next_state (s : Nat) : IntKind.u64.wrap ((s : Int) + 11400714819323198485) = ((nextS s : Nat) : Int) := by
  rw [IntKind.wrap_u64]
  unfold nextS
  show _ = (((s + 11400714819323198485) % 18446744073709551616 : Nat) : Int)
  omega
theorem div_word (a k : Nat) (ha : a < W64) : IntKind.u64.wrap ((a : Int).tdiv (k : Int)) = (a : Int) / (k : Int) := by
  rw [Int.tdiv_eq_ediv_of_nonneg (by omega), IntKind.wrap_u64]
  have h : a / k ≤ a := Nat.div_le_self _ _
  have e : (a : Int) / (k : Int) = ((a / k : Nat) : Int) := (Int.natCast_ediv a k).symm
  have ha' : a < 18446744073709551616 := ha
  rw [e]
  generalize a / k = m at *
  omega
theorem step_xs (k a C : Nat) : (a ^^^ a / 2 ^ k) * C % 18446744073709551616 = xs k a * C % W64 := by
  unfold xs
  rw [Nat.shiftRight_eq_div_pow]
/-- what the steps make of a state, as Go reckons them -/
theorem word_1 (a : Nat) (ha : a < W64) : IntKind.u64.wrap (bits .xor .u64 (a : Int) ((a : Int) / 1073741824) * 13787848793156543929) = ((xs 30 a * 13787848793156543929 % W64 : Nat) : Int) := by
  have h := mixStep_u64 a 1073741824 13787848793156543929 ha
  rw [show (1073741824 : Nat) = 2 ^ 30 from rfl, step_xs] at h
  exact h
theorem word_2 (a : Nat) (ha : a < W64) : IntKind.u64.wrap (bits .xor .u64 (a : Int) ((a : Int) / 134217728) * 10723151780598845931) = ((xs 27 a * 10723151780598845931 % W64 : Nat) : Int) := by
  have h := mixStep_u64 a 134217728 10723151780598845931 ha
  rw [show (134217728 : Nat) = 2 ^ 27 from rfl, step_xs] at h
  exact h
theorem word_3 (a : Nat) (ha : a < W64) : bits .xor .u64 (a : Int) ((a : Int) / 2147483648) = ((xs 31 a : Nat) : Int) := by
  have h := xorShift_u64 a 2147483648 ha
  have e : a ^^^ a / 2147483648 = xs 31 a := by
    unfold xs
    rw [Nat.shiftRight_eq_div_pow]
  rw [e] at h
  exact h
theorem ret_word {k : IntKind} {a b : Int} {w v : World} {p : Addr} {x y : Value} (h : a = b) (g : x = y) (e : w = v) : Ending.returned (.int k a) = .returned (.int k b) ∧ w.setCell p x = v.setCell p y := by rw [h, g, e]; exact ⟨rfl, rfl⟩
theorem mod64 (x : Nat) : x % W64 < W64 := Nat.mod_lt _ (by decide)
/-- a state that lies in a cell of its own -/
structure LotAt (w : World) (b s : Nat) : Prop where
  c : w.cell? ⟨b, 0, none⟩ = some (.int .u64 s)
  f : w.frozen? ⟨b, 0, none⟩ = false
  lt : s < W64
theorem LotAt.set {w : World} {b s : Nat} (h : LotAt w b s) (t : Nat) (ht : t < W64) : LotAt (w.setCell ⟨b, 0, none⟩ (.int .u64 t)) b t :=
  ⟨World.cell?_setCell_same _ _ _ h.c, by rw [World.frozen?_setCell]; exact h.f, ht⟩
theorem LotAt.kept {w w' : World} {b s : Nat} {X : List Nat} (h : LotAt w b s) (hK : Kept X w w') (hb : b ∉ X) : LotAt w' b s :=
  ⟨hK.old h.c hb, by rw [hK.frozen (cell_lt h.c) hb]; exact h.f, h.lt⟩
theorem LotAt.blk {w : World} {b s : Nat} (h : LotAt w b s) : b < w.heap.size := cell_lt h.c

set_option maxRecDepth 100000 in
theorem prog_next (b s : Nat) (w : World) (h : LotAt w b s) :
    Calls Tryz.prog 91 #[.pointer (some ⟨b, 0, none⟩)] w fun e w' => e = .returned (.int .u64 (nextL s)) ∧ w' = w.setCell ⟨b, 0, none⟩ (.int .u64 (nextS s)) := by
  have c := h.c
  have f := h.f
  go_enter Tryz.func91, Tryz.ntmps91
  go_wp2
  go_ret
  rw [next_state s, word_1 _ (nextS_lt s), word_2 _ (mod64 _), word_3 _ (mod64 _)]
  exact ⟨rfl, rfl⟩
def stateOf (w : World) (b : Nat) : Nat := match w.cell? ⟨b, 0, none⟩ with | some (.int _ s) => s.toNat | _ => 0
theorem LotAt.state {w : World} {b s : Nat} (h : LotAt w b s) : stateOf w b = s := by
  unfold stateOf
  rw [h.c]
  exact Int.toNat_natCast s
end Go.Proofs.YtileplhjbnmgnabGreatDoor

namespace Go.Proofs.YtileplhjbnmgnabGreatDoor
open Go.RowKit

theorem lot_new (w : World) (s : Nat) (hs : s < W64) (t : TypeId) : LotAt (w.alloc (.cells #[.int .u64 s] t)) w.heap.size s :=
  ⟨cell_new _ _ _ _ _ _ rfl rfl, World.frozen?_alloc_at _ _ _ _ rfl, hs⟩
theorem prog_newLot (s : Nat) (hs : s < W64) (w : World) :
    Calls Tryz.prog 86 #[.int .u64 s] w fun e w' => ∃ b, e = .returned (.pointer (some ⟨b, 0, none⟩)) ∧ w.heap.size ≤ b ∧ LotAt w' b s ∧ Below w.heap.size w w' := by
  go_enter Tryz.func86, Tryz.ntmps86
  go_wp2
  go_ret
  exact ⟨_, rfl, Nat.le_refl _, lot_new w s hs _, (Below.refl _ _).alloc (Nat.le_refl _) _⟩

/-! numbers mixed into a seed -/
theorem ret_u64 {a b : Nat} (h : a = b) : Ending.returned (.int .u64 a) = .returned (.int .u64 b) := by rw [h]
set_option maxRecDepth 100000 in
set_option maxHeartbeats 1000000 in
theorem prog_mix (a : Option Addr) (b off n cap seed : Nat) (W : Nat → Int) (hs : seed < W64) (hn : n ≤ 1000) (w : World) (ha : Hid (0 < n → a = some ⟨b, off, none⟩)) (hb : Hid (0 < n → b < w.heap.size)) (hI : Ints w b off n W) :
    Calls Tryz.prog 72 #[.int .u64 seed, .slice a n cap] w fun e w' => e = .returned (.int .u64 (mixTo W seed n)) ∧ Below w.heap.size w w' := by
  go_enter Tryz.func72, Tryz.ntmps72
  go_wp2
  go_loopw [0, 9] (fun r i wr => ∃ k : Nat, k ≤ n ∧ i = .int .i64 k ∧ r = .int .u64 (mixTo W seed k) ∧ Below w.heap.size w wr) (fun _ i _ => n - (intOf i).toNat)
  case atStart => exact ⟨0, Nat.zero_le _, rfl, rfl, Below.refl _ _⟩
  case round =>
    obtain ⟨k, hk, rfl, rfl, hB⟩ := hrel
    by_cases hlt : k < n
    · have c0 := hI.below hB (hb.out (by omega)) k hlt
      obtain rfl := ha.out (by omega)
      have hm := mixTo_lt W seed hs k
      have hu := toU_lt (W k)
      have hx := xor_lt64 hm hu
      have e1 : IntKind.u64.wrap (W k) = ((toU (W k) : Nat) : Int) := by rw [toU_cast, IntKind.wrap_u64]
      have e2 : bits .xor .u64 ((mixTo W seed k : Nat) : Int) ((toU (W k) : Nat) : Int) = ((mixTo W seed k ^^^ toU (W k) : Nat) : Int) := bits_xor_u64_nat _ _ hm hu
      have N := prog_newLot (mixTo W seed k ^^^ toU (W k)) hx wr
      have E : Hid (nextL (mixTo W seed k ^^^ toU (W k)) = mixTo W seed (k + 1)) := rfl
      clear hI hm hu hx ha hb
      generalize mixTo W seed k ^^^ toU (W k) = y at *
      generalize toU (W k) = u at *
      generalize mixTo W seed k = m at *
      go_wp2_with fail
      refine N.mono ?_
      rintro e w1 ⟨l, rfl, hl, hL, hB1⟩
      have hB2 := hB.trans (hB1.mono hB.size)
      have hB3 := hB2.setCell (p := ⟨l, 0, none⟩) (Nat.le_trans hB.size hl) (.int .u64 (nextS y))
      go_wp2_with fail
      refine (prog_next l y w1 hL).mono ?_
      rintro e w2 ⟨rfl, rfl⟩
      go_wp2_with fail
      go_roundw
      case rel => exact ⟨k + 1, by omega, by go_num, by rw [E.out], hB3⟩
      case measure => simp [intOf]; omega
    · obtain rfl : n = k := by omega
      go_wp2_with fail
      go_ret
      exact ⟨rfl, hB⟩
/-! the closed fact -/
theorem first_lot : nextL 0 = 16294208416658607535 := by decide
end Go.Proofs.YtileplhjbnmgnabGreatDoor

namespace Go.Proofs.YtileplhjbnmgnabGreatDoor
open Go.RowKit

theorem below_no (b : Nat) (n : Int) (A1 : Addr) (w : World) (hE : w.cell? ⟨0, 0, none⟩ = some (sent A1)) (hn : ¬ (1 ≤ n ∧ n ≤ 1125899906842624)) :
    Calls Tryz.prog 87 #[.pointer (some ⟨b, 0, none⟩), .int .i64 n] w fun e w' => e = .returned (.tuple #[.int .i64 0, sent A1]) ∧ ∃ m, w' = w.drewN m := by
  have S := some_no n hn
  clear hn
  go_enter Tryz.func87, Tryz.ntmps87
  go_wp2_with (go_at_call 73; refine (S _).mono ?_; rintro e w' ⟨rfl, rfl⟩)
  go_quiet (fail)
  go_wp2
  go_ret2
  exact ⟨rfl, _, rfl⟩

set_option maxRecDepth 100000 in
set_option maxHeartbeats 1000000 in
theorem below_yes (b s n : Nat) (w : World) (h : LotAt w b s) (n1 : 1 ≤ n) (nM : n ≤ 1125899906842624) :
    Calls Tryz.prog 87 #[.pointer (some ⟨b, 0, none⟩), .int .i64 n] w fun e w' => ∃ v t, e = .returned (.tuple #[.int .i64 (v : Nat), .nilIface]) ∧ Bel n s v t ∧ LotAt w' b t ∧ Kept [b] w w' := by
  have S := some_yes n (by omega) (by omega)
  obtain ⟨N', M, Q, hN, hM, m1, m2, q0, q1, q2, q3⟩ : ∃ N' M Q : Int, (n : Int) = N' ∧ ((most n : Nat) : Int) = M ∧ 1 ≤ N' ∧ N' ≤ 1125899906842624 ∧ 9223372036854775808 % N' = Q ∧ 0 ≤ Q ∧ Q ≤ 9223372036854775808 ∧ 9223372036854775808 - Q = M := by
    have hm := most_rest n
    have e : (9223372036854775808 : Int) % (n : Int) = ((9223372036854775808 % n : Nat) : Int) := rfl
    exact ⟨_, _, _, rfl, rfl, by omega, by omega, e, by omega, by omega, by omega⟩
  have m3 : 0 ≤ M := by omega
  have m4 : M ≤ 9223372036854775808 := by omega
  have step : ∀ q, Hid (∃ X Z R : Int, (nextL q : Int) = X ∧ ((nextL q / 2 : Nat) : Int) = Z ∧ ((nextL q / 2 % n : Nat) : Int) = R ∧ 0 ≤ Z ∧ Z ≤ 9223372036854775807 ∧ 0 ≤ R ∧ R ≤ Z ∧ R < N' ∧ X / 2 = Z ∧ Z % N' = R ∧ (Z < M ↔ nextL q / 2 < most n)) := fun q => by
    have hl := nextL_lt q
    have hm := Nat.mod_le (nextL q / 2) n
    have hn := Nat.mod_lt (nextL q / 2) (show 0 < n by omega)
    have hb : nextL q < 18446744073709551616 := hl
    have ht : ((nextL q / 2 : Nat) : Int) % N' = ((nextL q / 2 % n : Nat) : Int) := by rw [← hN]; exact (Int.natCast_emod _ _).symm
    exact ⟨_, _, _, rfl, rfl, rfl, by omega, by omega, by omega, by omega, by omega, by omega, ht, by omega⟩
  obtain ⟨lag, hlag'⟩ := lag_ex
  have hlag := hide hlag'
  clear hlag'
  go_enter Tryz.func87, Tryz.ntmps87
  rw [hN]
  rw [hN] at S
  have N1 := hide n1
  have NM := hide nM
  have N := prog_next b s w h
  have hq' := h.set (nextS s) (nextS_lt s)
  have hK' := (Kept.refl [b] w).setCell (p := ⟨b, 0, none⟩) (by simp) (.int .u64 (nextS s))
  have hs := hide h.lt
  obtain ⟨X, Z, R, hX, hZ, hR', z0, z1, r0, r1, r2, w2, ht, hmt⟩ := (step s).out
  rw [hX] at N
  have HZ := hide hZ
  clear hN hM n1 nM h hX hZ hR' r0 r1 r2 ht hmt
  go_wp2_with (first | (go_at_call 73; refine (S w).mono ?_; rintro e w0 ⟨rfl, rfl⟩) | (go_at_call 91; refine N.mono ?_; rintro e w1 ⟨rfl, rfl⟩))
  go_loopw [8] (fun r wr => ∃ (q : Nat) (Z : Int), r = .int .u64 Z ∧ Hid (((nextL q / 2 : Nat) : Int) = Z) ∧ LotAt wr b (nextS q) ∧ Kept [b] w0 wr ∧ Hid (q < W64 ∧ ∀ v t, Bel n q v t → Bel n s v t)) (fun _ wr => lag (stateOf wr b))
  case atStart => exact ⟨s, Z, by rw [w2], HZ, hq', hK', hs.out, fun _ _ h => h⟩
  case round =>
    obtain ⟨q, Z, rfl, HZ', hL, hK, hR⟩ := hrel
    clear hq' hK' HZ N S z0 z1 w2 hs q0 q1 q2 q3
    obtain ⟨X, _, R, hX, rfl, hR', z0, z1, r0, r1, r2, w2, ht, hmt⟩ := (step q).out
    rw [HZ'.out] at z0 z1 r1 w2 ht hmt
    clear HZ'
    by_cases hlt : nextL q / 2 < most n
    · have hB : Hid (∃ v : Nat, Bel n s v (nextS q) ∧ (v : Int) = R) := ⟨_, hR.out.2 _ _ (Bel.take q hlt), hR'⟩
      have g := hmt.2 hlt
      clear hmt hR hlt hR' hX step hlag N1 NM
      go_wp2
      go_ret2
      obtain ⟨v, hv, hR⟩ := hB.out
      exact ⟨v, nextS q, ret_pair hR.symm _, hv, hL, hK⟩
    · have hR2 : Hid (nextS q < W64 ∧ ∀ v t, Bel n (nextS q) v t → Bel n s v t) := ⟨nextS_lt q, fun v t h => hR.out.2 v t (Bel.more q v t hlt h)⟩
      have g : ¬ Z < M := fun g => hlt (hmt.1 g)
      have hf := hide (falls hR.out.1 N1.out (by have := NM.out; omega) hlt)
      have N := prog_next b (nextS q) wr hL
      have hL2 := hL.set (nextS (nextS q)) (nextS_lt _)
      have hK2 := hK.setCell (p := ⟨b, 0, none⟩) (by simp) (.int .u64 (nextS (nextS q)))
      have hm : Hid (lag (stateOf (wr.setCell ⟨b, 0, none⟩ (.int .u64 (nextS (nextS q)))) b) < lag (stateOf wr b)) := by
        rw [hL.state, hL2.state, hlag.out, hlag.out, prevS_next _ hR.out.1, prevS_next _ (nextS_lt q)]
        exact hf.out
      clear hf hlag
      clear hmt hR hlt hR' hX z0 z1 r0 r1 r2 w2 ht
      obtain ⟨X', Z', R', hX, hZ, hR', z0', z1', r0, r1, r2, w2', ht, hmt⟩ := (step (nextS q)).out
      rw [hX] at N
      have HZ := hide hZ
      clear hmt hR' hZ hX r0 r1 r2 ht step
      go_wp2_with (go_at_call 91; refine N.mono ?_; rintro e w1 ⟨rfl, rfl⟩)
      go_roundw
      case rel => exact ⟨nextS q, Z', by rw [w2'], HZ, hL2, hK2, hR2⟩
      case measure => exact hm.out
end Go.Proofs.YtileplhjbnmgnabGreatDoor
