/-
  What my texts lean on: the program, and the library's walk.
  The rows, and what the library has for them.
  Lots, plainly (after STEELE): a word that grows by an odd number, mixed so that no two are alike; how long it takes till it is 0.
  A uint64 that came in, as a natural number.
  Small facts on worlds.
  Worlds that are alike but for some blocks.
  Numbers laid one behind another.
  A copy of a slice of numbers: append(nil, l...); the law's own OwnInts.
  Rows of answers: a slice that reads as so many numbers; two that read alike are the same (bakehouseref1.SameInts).
  Plain facts on quotients, down and up.
  Numbers in decimal digits, plainly.
  Numbers in decimal digits, by the document (bakehouseref1.Decimal), by its contract.
  A slice of strings, as it is read; bakehouseref1.SameTexts, by its contract.
  Purses, plainly: what each of six owners may spend, and the supply.
  Pools, plainly: a total and shares of six owners; what each act makes of them, and that nobody's value falls by what others do.
  Stakes, plainly: a pool for each of three bakers, and pools of what waits by bakers and cycles; what each act makes of them, and what is in all of them together.
  Stakes, plainly: what each act makes of all together.
  Stakes, plainly: how many pools wait.
  Weights of stakes, plainly.
  A court, plainly: what was ever brought, in order; so many were asked for.
  What is issued, plainly: ratios, rates, bonuses, rewards, and that they fall where more is staked.
-/
import Derived.Test.YtmbfdhekplnoaaaGreatDoorProg
import Derived.WalkKit
import Derived.OwnWalk
import Derived.Outline
import Derived.Deep.QuietTactic
import Derived.BigQuiet
import Derived.Below
import Derived.Test.YtmbfdhekplnoaaaGreatDoorRows
import Derived.ChangeSame
import Derived.ChangeVars
import Derived.JoinedOf
import Derived.RowKit
import Derived.RowKitTokens
import Derived.LaidLaws
import Derived.LaidHandle
import Derived.Stop.Joined
import Derived.Stop.LaidErr
import Derived.ProofKit
import Derived.LaidMore
import Derived.OpenShut
import Derived.Carry
import Derived.Deep.AppendSrc
import Derived.Laws.AppendOwn
import Derived.Deep.AppendLies
import Derived.Laws.IdiomStrings




namespace Go.Proofs.YtmbfdhekplnoaaaGreatDoor

abbrev W64 : Nat := 18446744073709551616
def xs (k z : Nat) : Nat := z ^^^ (z >>> k)
theorem xs_lt (k z : Nat) (hz : z < W64) : xs k z < W64 := by
  unfold xs
  refine Nat.xor_lt_two_pow (n := 64) hz ?_
  rw [Nat.shiftRight_eq_div_pow]
  exact Nat.lt_of_le_of_lt (Nat.div_le_self _ _) hz
theorem mul_inj (c c' a b : Nat) (hc : c * c' % W64 = 1) (ha : a < W64) (hb : b < W64) (h : a * c % W64 = b * c % W64) : a = b := by
  have back : ∀ z, z < W64 → z * c % W64 * c' % W64 = z := fun z hz => by
    rw [Nat.mod_mul_mod, Nat.mul_assoc, ← Nat.mul_mod_mod, hc, Nat.mul_one, Nat.mod_eq_of_lt hz]
  rw [← back a ha, h, back b hb]

def mixN (z : Nat) : Nat := xs 31 (xs 27 (xs 30 z * 13787848793156543929 % W64) * 10723151780598845931 % W64)
theorem mixN_lt (z : Nat) : mixN z < W64 := xs_lt _ _ (Nat.mod_lt _ (by decide))
theorem mixN_zero : mixN 0 = 0 := by decide

theorem mod_cancel (s x y : Nat) (h : (s + x) % W64 = (s + y) % W64) : x % W64 = y % W64 := by
  have h' : (s + x) % 18446744073709551616 = (s + y) % 18446744073709551616 := h
  show x % 18446744073709551616 = y % 18446744073709551616
  omega

def stN (seed i : Nat) : Nat := (seed + i * 11400714819323198485) % W64
theorem stN_inj (seed i j : Nat) (hi : i < W64) (hj : j < W64) (h : stN seed i = stN seed j) : i = j := by
  refine mul_inj 11400714819323198485 17428512612931826493 i j (by decide) hi hj ?_
  exact mod_cancel seed _ _ h
def toZero (s : Nat) : Nat := if s = 0 then W64 else (W64 - s) * 17428512612931826493 % W64
theorem toZero_hits (s : Nat) (hs : s < W64) : (s + toZero s * 11400714819323198485) % W64 = 0 ∧ 1 ≤ toZero s ∧ toZero s ≤ W64 := by
  unfold toZero
  by_cases h : s = 0
  · rw [if_pos h, h]
    refine ⟨?_, by decide, Nat.le_refl _⟩
    rw [Nat.zero_add, Nat.mul_comm, Nat.mul_mod_left]
  · rw [if_neg h]
    have e : (W64 - s) * 17428512612931826493 % W64 * 11400714819323198485 % W64 = W64 - s := by
      rw [Nat.mod_mul_mod, Nat.mul_assoc, ← Nat.mul_mod_mod, show 17428512612931826493 * 11400714819323198485 % W64 = 1 by decide, Nat.mul_one, Nat.mod_eq_of_lt (by omega)]
    refine ⟨?_, ?_, Nat.le_of_lt (Nat.mod_lt _ (by decide))⟩
    · rw [← Nat.add_mod_mod, e, Nat.add_sub_cancel' (by omega), Nat.mod_self]
    · rcases Nat.eq_zero_or_pos ((W64 - s) * 17428512612931826493 % W64) with g | g
      · rw [g, Nat.zero_mul, Nat.zero_mod] at e; omega
      · exact g
theorem toZero_falls (s : Nat) (hs : s < W64) (hn : (s + 11400714819323198485) % W64 ≠ 0) : toZero ((s + 11400714819323198485) % W64) < toZero s := by
  obtain ⟨h1, h2, h3⟩ := toZero_hits s hs
  have hs' : (s + 11400714819323198485) % W64 < W64 := Nat.mod_lt _ (by decide)
  obtain ⟨g1, g2, g3⟩ := toZero_hits _ hs'
  have gne : toZero ((s + 11400714819323198485) % W64) < W64 := by
    unfold toZero
    rw [if_neg hn]
    exact Nat.mod_lt _ (by decide)
  generalize toZero s = k at *
  generalize toZero ((s + 11400714819323198485) % W64) = k' at *
  obtain ⟨m, rfl⟩ : ∃ m, k = m + 1 := ⟨k - 1, by omega⟩
  have e : stN ((s + 11400714819323198485) % W64) m = 0 := by
    unfold stN
    rw [Nat.mod_add_mod, Nat.add_assoc, Nat.add_comm 11400714819323198485, ← h1, Nat.add_mul, Nat.one_mul]
  have e' : stN ((s + 11400714819323198485) % W64) k' = 0 := g1
  have := stN_inj _ k' m gne (by omega) (e'.trans e.symm)
  omega
end Go.Proofs.YtmbfdhekplnoaaaGreatDoor

namespace Go.Proofs.YtmbfdhekplnoaaaGreatDoor

theorem u64_nat {x : Int} (h : (Lit.int .u64 x).wf = true) : ∃ s : Nat, x = s ∧ s < W64 := by
  have h' : 0 ≤ x ∧ x ≤ 18446744073709551615 := by
    simpa [Lit.wf, IntKind.min, IntKind.max, IntKind.signed, IntKind.bits] using h
  exact ⟨x.toNat, by omega, by show x.toNat < 18446744073709551616; omega⟩
end Go.Proofs.YtmbfdhekplnoaaaGreatDoor

namespace Go.Proofs.YtmbfdhekplnoaaaGreatDoor
open Go.RowKit

theorem below_drewN {B : Nat} {a w : World} (h : Below B a w) (n : Nat) : Below B a (w.drewN n) := ⟨h.os, h.tape, h.output, h.size, h.block⟩
theorem below_from {w w' : World} {n : Nat} (h : Below (w.drewN n).heap.size (w.drewN n) w') : Below w.heap.size w w' := ⟨h.os, h.tape, h.output, h.size, h.block⟩
theorem hide {p : Prop} (h : p) : Hid p := h
theorem cell_new (W : World) (cs : Array Value) (t : TypeId) (n i : Nat) (v : Value) (h : n = W.heap.size) (hv : cs[i]? = some v) : (W.alloc (.cells cs t)).cell? ⟨n, i, none⟩ = some v := by
  subst h
  rw [World.cell?_alloc_at _ _ _ _ rfl]
  exact hv
theorem cell_lt {W : World} {a : Addr} {v : Value} (h : W.cell? a = some v) : a.block < W.heap.size := by
  rcases Nat.lt_or_ge a.block W.heap.size with g | g
  · exact g
  · simp [World.cell?, Array.getElem?_eq_none g] at h
theorem add_plain (b off n : Nat) : (⟨b, off, none⟩ : Addr).add n = ⟨b, off + n, none⟩ := by
  rcases Nat.eq_zero_or_pos n with h | h
  · subst h; simp [Addr.add]
  · have : ¬ n = 0 := by omega
    simp [Addr.add, this]
theorem old_cell {w w' : World} (hB : Below w.heap.size w w') {a : Addr} {v : Value} (h : w.cell? a = some v) : w'.cell? a = some v := by
  rw [hB.cell (cell_lt h)]; exact h
end Go.Proofs.YtmbfdhekplnoaaaGreatDoor

namespace Go.Proofs.YtmbfdhekplnoaaaGreatDoor
open Go.RowKit

structure Kept (X : List Nat) (w w' : World) : Prop where
  os : w'.os = w.os
  tape : w'.tape = w.tape
  output : w'.output = w.output
  size : w.heap.size ≤ w'.heap.size
  block : ∀ k, k < w.heap.size → k ∉ X → w'.heap[k]? = w.heap[k]?
theorem Kept.refl (X : List Nat) (w : World) : Kept X w w := ⟨rfl, rfl, rfl, Nat.le_refl _, fun _ _ _ => rfl⟩
theorem Kept.trans {X : List Nat} {a b c : World} (h : Kept X a b) (k : Kept X b c) : Kept X a c :=
  ⟨k.os.trans h.os, k.tape.trans h.tape, k.output.trans h.output, Nat.le_trans h.size k.size, fun i hi hx => (k.block i (Nat.lt_of_lt_of_le hi h.size) hx).trans (h.block i hi hx)⟩
theorem Kept.drewN {X : List Nat} {a w : World} (h : Kept X a w) (n : Nat) : Kept X a (w.drewN n) := ⟨h.os, h.tape, h.output, h.size, h.block⟩
theorem Kept.drew {X : List Nat} {a w : World} (h : Kept X a w) : Kept X a w.drew := ⟨h.os, h.tape, h.output, h.size, h.block⟩
theorem Kept.setCell {X : List Nat} {a w : World} (h : Kept X a w) {p : Addr} (hp : p.block ∈ X) (u : Value) : Kept X a (w.setCell p u) :=
  h.trans ⟨rfl, rfl, rfl, by simp [World.setCell], fun k _ hk => Below.heap_setCell _ _ _ _ (fun e => hk (by rw [e]; exact hp))⟩
theorem Kept.grown {X : List Nat} {a w w' : World} {b : Nat} (h : Kept X a w) (hg : w.grownBy w' (some b)) (hb : b ∈ X) : Kept X a w' :=
  h.trans ⟨hg.os, hg.tape, hg.output, hg.size, fun k hk hx => hg.block k hk (fun e => hx (by cases e; exact hb))⟩
theorem Kept.below {X : List Nat} {B : Nat} {w w' : World} (h : Kept X w w') (hB : B ≤ w.heap.size) (hX : ∀ k, k ∈ X → B ≤ k) : Below B w w' :=
  ⟨h.os, h.tape, h.output, h.size, fun k hk => h.block k (by omega) (fun g => by have := hX k g; omega)⟩
theorem Kept.cell {X : List Nat} {w w' : World} (h : Kept X w w') {p : Addr} (hp : p.block < w.heap.size) (hx : p.block ∉ X) : w'.cell? p = w.cell? p := World.cell?_of_block (w := w) (h.block p.block hp hx)
theorem Kept.frozen {X : List Nat} {w w' : World} (h : Kept X w w') {p : Addr} (hp : p.block < w.heap.size) (hx : p.block ∉ X) : w'.frozen? p = w.frozen? p := World.frozen?_of_block (w := w) (h.block p.block hp hx)
theorem Kept.old {X : List Nat} {w w' : World} (h : Kept X w w') {p : Addr} {v : Value} (hc : w.cell? p = some v) (hx : p.block ∉ X) : w'.cell? p = some v := by rw [h.cell (cell_lt hc) hx]; exact hc
theorem ret_int {k : IntKind} {a b : Int} (h : a = b) : Ending.returned (.int k a) = .returned (.int k b) := by rw [h]
theorem ret_pair {k : IntKind} {a b : Int} (h : a = b) (v : Value) : Ending.returned (.tuple #[.int k a, v]) = .returned (.tuple #[.int k b, v]) := by rw [h]
theorem ret_int2 {k : IntKind} {a b c d : Int} (h : a = b) (g : c = d) : Ending.returned (.tuple #[.int k a, .int k c]) = .returned (.tuple #[.int k b, .int k d]) := by rw [h, g]
end Go.Proofs.YtmbfdhekplnoaaaGreatDoor

namespace Go.Proofs.YtmbfdhekplnoaaaGreatDoor
open Go.RowKit

def Ints (w : World) (b off n : Nat) (W : Nat → Int) : Prop := ∀ i, i < n → w.cell? ⟨b, off + i, none⟩ = some (.int .i64 (W i))
theorem Ints.below {w w' : World} {b off n B : Nat} {W : Nat → Int} (h : Ints w b off n W) (hB : Below B w w') (hb : b < B) : Ints w' b off n W := fun i hi => by rw [hB.cell (p := ⟨b, off + i, none⟩) hb]; exact h i hi
end Go.Proofs.YtmbfdhekplnoaaaGreatDoor

namespace Go.Proofs.YtmbfdhekplnoaaaGreatDoor
open Go.RowKit

theorem Tryz.infoInts : (Tryz.prog.info? 3).map (fun i => (i.zero, i.size, i.bytes)) = some (some (.int .i64 0), 1, 8) := by kernel_rfl
/-! a copy -/
def intCells (n : Nat) (W : Nat → Int) : List Value := (List.range n).map fun j => .int .i64 (W j)
theorem intCells_at (n : Nat) (W : Nat → Int) (i : Nat) (h : i < n) : (intCells n W)[i]? = some (.int .i64 (W i)) := by
  unfold intCells
  rw [List.getElem?_map, List.getElem?_range h]; rfl
theorem intCells_len (n : Nat) (W : Nat → Int) : (intCells n W).length = n := by simp [intCells]
def copyCapI (w : World) (n : Nat) : Nat := grownCap w n 0 3
def copyCellsI (w : World) (n : Nat) (W : Nat → Int) : Array Value := (intCells n W).toArray ++ Builtin.zeroCells (Value.int .i64 0).cells (copyCapI w n - n)
theorem append_run_ints (w : World) (b off n cap : Nat) (W : Nat → Int) (ty : TypeId) (hI : Ints w b off n W) (h0 : 0 < n) (h1 : n ≤ 1000) :
    (Builtin.append_ #[35, 35] ty #[.slice none 0 0, .slice (some ⟨b, off, none⟩) n cap]).run Tryz.prog w = .ok (.slice (some ⟨w.heap.size, 0, none⟩) n (copyCapI w n)) (w.drew.alloc (.cells (copyCellsI w n W) 3)) := by
  obtain ⟨i, hi, hz, hs, hb⟩ := info_parts Tryz.infoInts
  exact run_append_nil w 35 ty 3 i (.int .i64 0) Tryz.underlying35 hi hz ⟨b, off, none⟩ n cap (intCells n W) (by rw [intCells_len, hs]; simp)
    (fun j v hj => by
      have hl : j < n := by
        have := (List.getElem?_eq_some_iff.1 hj).1
        rwa [intCells_len] at this
      rw [intCells_at n W j hl] at hj
      rw [add_plain, ← Option.some.inj hj]
      exact hI j hl) h0 (by omega) (by rw [hb]; omega)
theorem copyCells_ints (w : World) (n : Nat) (W : Nat → Int) (i : Nat) (h : i < n) : (copyCellsI w n W)[i]? = some (.int .i64 (W i)) := by
  unfold copyCellsI
  rw [Array.getElem?_append_left (by simp [intCells_len]; omega)]
  simpa using intCells_at n W i h

/-! append by its run, for a walk -/
end Go.Proofs.YtmbfdhekplnoaaaGreatDoor

namespace Go.Proofs.YtmbfdhekplnoaaaGreatDoor
open Go.RowKit

def RowV (w : World) (v : Value) (n : Nat) (K : Nat → Int) : Prop := ∃ a cap, v = .slice a n cap ∧ ∀ i, i < n → ∃ b off, a = some ⟨b, off, none⟩ ∧ b < w.heap.size ∧ w.cell? ⟨b, off + i, none⟩ = some (.int .i64 (K i))
theorem RowV.below {w w' : World} {v : Value} {n : Nat} {K : Nat → Int} (h : RowV w v n K) (hB : Below w.heap.size w w') : RowV w' v n K := by
  obtain ⟨a, cap, rfl, h⟩ := h
  refine ⟨a, cap, rfl, fun i hi => ?_⟩
  obtain ⟨b, off, e, hb, c⟩ := h i hi
  exact ⟨b, off, e, Nat.lt_of_lt_of_le hb hB.size, by rw [hB.cell (p := ⟨b, off + i, none⟩) hb]; exact c⟩
theorem drewN_again (w : World) (m n : Nat) : (w.drewN m).drewN n = w.drewN (m + n) := by simp [World.drewN, Nat.add_assoc]
def kRow (K : Nat → Int) : Nat → List Value
  | 0 => []
  | k + 1 => kRow K k ++ [.int .i64 (K k)]
theorem kRow_len (K : Nat → Int) : ∀ k, (kRow K k).length = k
  | 0 => rfl
  | k + 1 => by simp [kRow, kRow_len K k]
theorem kRow_at (K : Nat → Int) (k i : Nat) (h : i < k) : (kRow K k)[i]? = some (.int .i64 (K i)) := by
  induction k with
  | zero => omega
  | succ k ih =>
    rcases Nat.lt_or_eq_of_le (Nat.le_of_lt_succ h) with l | l
    · rw [kRow, List.getElem?_append_left (by rw [kRow_len]; exact l)]; exact ih l
    · subst l; rw [kRow, List.getElem?_append_right (by rw [kRow_len]; omega), kRow_len]; simp
/-! scripts -/
end Go.Proofs.YtmbfdhekplnoaaaGreatDoor

namespace Go.Proofs.YtmbfdhekplnoaaaGreatDoor

def upQ (p c : Int) : Int := if 0 < p % c then p / c + 1 else p / c
theorem upQ_rest (p c : Int) (h : 0 < p % c) : upQ p c = p / c + 1 := if_pos h
theorem upQ_even (p c : Int) (h : ¬ 0 < p % c) : upQ p c = p / c := if_neg h

/-! plain facts on quotients -/
theorem div_mul_le (p c : Int) (hc : 0 < c) : p / c * c ≤ p := Int.ediv_mul_le p (by omega)
theorem lt_div_mul (p c : Int) (hc : 0 < c) : p < p / c * c + c := by
  have h1 := Int.lt_ediv_add_one_mul_self p hc
  rw [Int.add_mul] at h1; omega
theorem div_le (v p c : Int) (hc : 0 < c) (h : p ≤ v * c) : p / c ≤ v := by
  have h1 := div_mul_le p c hc
  exact Int.le_of_mul_le_mul_right (Int.le_trans h1 h) hc
theorem div_nonneg (p c : Int) (hp : 0 ≤ p) (hc : 0 < c) : 0 ≤ p / c := Int.ediv_nonneg hp (by omega)
theorem upQ_ge (p c : Int) (hc : 0 < c) : p ≤ upQ p c * c := by
  have h1 := lt_div_mul p c hc
  have h2 := Int.emod_add_mul_ediv p c
  have h3 := Int.emod_nonneg p (show c ≠ 0 by omega)
  unfold upQ
  split
  · rw [Int.add_mul]; omega
  · have e : p / c * c = c * (p / c) := Int.mul_comm _ _
    omega
theorem upQ_le (p c v : Int) (hc : 0 < c) (h : p ≤ v * c) : upQ p c ≤ v := by
  have h1 := div_le v p c hc h
  unfold upQ
  split
  · rename_i hr
    have h2 := Int.emod_add_mul_ediv p c
    rcases Int.lt_or_eq_of_le h1 with g | g
    · omega
    · rw [Int.mul_comm v c, ← g] at h; omega
  · exact h1
theorem upQ_nonneg (p c : Int) (hp : 0 ≤ p) (hc : 0 < c) : 0 ≤ upQ p c := by
  have := div_nonneg p c hp hc
  unfold upQ; split <;> omega
end Go.Proofs.YtmbfdhekplnoaaaGreatDoor

namespace Go.Proofs.YtmbfdhekplnoaaaGreatDoor

def digs : Nat → Nat → List UInt8
  | 0, _ => []
  | f + 1, n => if n < 10 then [UInt8.ofNat (48 + n)] else digs f (n / 10) ++ [UInt8.ofNat (48 + n % 10)]
theorem digs_fuel : ∀ (f g n : Nat), n < f → n < g → digs f n = digs g n
  | 0, _, _, h, _ => by omega
  | _ + 1, 0, _, _, h => by omega
  | f + 1, g + 1, n, h, k => by
    unfold digs
    by_cases h10 : n < 10
    · rw [if_pos h10, if_pos h10]
    · rw [if_neg h10, if_neg h10, digs_fuel f g (n / 10) (by omega) (by omega)]
def dec (n : Nat) : List UInt8 := digs (n + 1) n
theorem dec_one {n : Nat} (h : n < 10) : dec n = [UInt8.ofNat (48 + n)] := if_pos h
theorem dec_more {n : Nat} (h : 10 ≤ n) : dec n = dec (n / 10) ++ [UInt8.ofNat (48 + n % 10)] := by
  show (if n < 10 then _ else digs n (n / 10) ++ [UInt8.ofNat (48 + n % 10)]) = _
  rw [if_neg (by omega), digs_fuel n (n / 10 + 1) (n / 10) (by omega) (by omega)]
  rfl
theorem dec_pos (n : Nat) : dec n ≠ [] := by
  by_cases h : n < 10
  · rw [dec_one h]; simp
  · rw [dec_more (by omega)]; simp
theorem dig_nat {k : Nat} (h : k < 10) : (UInt8.ofNat (48 + k)).toNat = 48 + k := by
  rw [UInt8.toNat_ofNat']; omega
theorem dec_len : ∀ (k n : Nat), n < 10 ^ (k + 1) → (dec n).length ≤ k + 1
  | 0, n, h => by rw [dec_one (by simpa using h)]; simp
  | k + 1, n, h => by
    by_cases g : n < 10
    · rw [dec_one g]; simp
    · rw [dec_more (by omega), List.length_append]
      have := dec_len k (n / 10) (by rw [Nat.pow_succ] at h; omega)
      simp only [List.length_cons, List.length_nil]
      omega
theorem dec_len19 {n : Nat} (h : n ≤ 9223372036854775807) : (dec n).length ≤ 19 := dec_len 18 n (Nat.lt_of_le_of_lt h (by decide))
theorem dec_digit : ∀ (n : Nat) (x : UInt8), x ∈ dec n → 48 ≤ x.toNat ∧ x.toNat ≤ 57 := by
  intro n
  induction n using Nat.strongRecOn with
  | _ n ih =>
    intro x hx
    by_cases h : n < 10
    · rw [dec_one h, List.mem_singleton] at hx
      rw [hx, dig_nat h]; omega
    · rw [dec_more (by omega)] at hx
      rcases List.mem_append.1 hx with g | g
      · exact ih (n / 10) (by omega) x g
      · rw [List.mem_singleton] at g
        rw [g, dig_nat (by omega)]; omega
theorem dec_inj : ∀ (n m : Nat), dec n = dec m → n = m := by
  intro n
  induction n using Nat.strongRecOn with
  | _ n ih =>
    intro m h
    by_cases hn : n < 10
    · by_cases hm : m < 10
      · rw [dec_one hn, dec_one hm] at h
        have := congrArg (fun l => (l.headD 0).toNat) h
        simp only [List.headD_cons] at this
        rw [dig_nat hn, dig_nat hm] at this
        omega
      · rw [dec_one hn, dec_more (by omega)] at h
        have l := congrArg List.length h
        rw [List.length_append] at l
        have : 0 < (dec (m / 10)).length := List.length_pos_iff.2 (dec_pos _)
        simp only [List.length_cons, List.length_nil] at l
        omega
    · by_cases hm : m < 10
      · rw [dec_more (by omega), dec_one hm] at h
        have l := congrArg List.length h
        rw [List.length_append] at l
        have : 0 < (dec (n / 10)).length := List.length_pos_iff.2 (dec_pos _)
        simp only [List.length_cons, List.length_nil] at l
        omega
      · rw [dec_more (n := n) (by omega), dec_more (n := m) (by omega)] at h
        have e := List.append_inj' h rfl
        have a := ih (n / 10) (by omega) (m / 10) e.1
        have b := congrArg (fun l => (l.headD 0).toNat) e.2
        simp only [List.headD_cons] at b
        rw [dig_nat (by omega), dig_nat (by omega)] at b
        omega
end Go.Proofs.YtmbfdhekplnoaaaGreatDoor

namespace Go.Proofs.YtmbfdhekplnoaaaGreatDoor
open Go.RowKit

def bs (l : List UInt8) : ByteArray := ⟨l.toArray⟩
theorem bs_append (a b : List UInt8) : bs a ++ bs b = bs (a ++ b) := by
  unfold bs
  ext1
  simp [ByteArray.data_append]
theorem bs_size (l : List UInt8) : (bs l).size = l.length := by simp [bs, ByteArray.size]
theorem byte_conv (k : Nat) (hk : k < 256) (w : World) :
    (convert 296 9 (.slice (some ⟨w.heap.size, 0, none⟩) 1 1)).run Tryz.prog (w.alloc (.cells #[.int .u8 k] 5)) = .ok (.string (bs [UInt8.ofNat k])) (w.alloc (.cells #[.int .u8 k] 5)) :=
  run_convert_bytes_back _ 296 9 5 ⟨w.heap.size, 0, none⟩ 1 [UInt8.ofNat k] Tryz.underlying296 Tryz.underlying5 Tryz.underlying9 (fun j hj => by
    have e : j = 0 := by simp at hj; exact hj
    subst e
    rw [add_plain]
    have : (UInt8.ofNat k).toNat = k := by rw [UInt8.toNat_ofNat']; omega
    simp [this])
set_option maxRecDepth 100000 in
theorem byte_of (k : Nat) (hk : k < 256) (w : World) :
    Calls Tryz.prog 152 #[.int .i64 k] w fun e w' => e = .returned (.string (bs [UInt8.ofNat k])) ∧ Below w.heap.size w w' := by
  have cv := byte_conv k hk w
  go_enter Tryz.func152, Tryz.ntmps152
  go_wp2
  go_ret
  exact ⟨rfl, (Below.refl _ _).alloc (Nat.le_refl _) _⟩
set_option maxRecDepth 100000 in
set_option maxHeartbeats 1000000 in
theorem below_dec (n : Nat) (hn : n ≤ 9223372036854775807) : ∀ w : World,
    Calls Tryz.prog 98 #[.int .i64 (-(n : Int))] w fun e w' => e = .returned (.string (bs (dec n))) ∧ Below w.heap.size w w' := by
  induction n using Nat.strongRecOn with
  | _ n ih =>
    intro w
    by_cases h : n < 10
    · have e := dec_one h
      have Y := byte_of (48 + n) (by omega) w
      generalize UInt8.ofNat (48 + n) = u at *
      have E := hide e
      clear e
      obtain ⟨x, hx⟩ : ∃ x : Int, -(n : Int) = x := ⟨_, rfl⟩
      obtain ⟨y, hy⟩ : ∃ y : Int, ((48 + n : Nat) : Int) = y := ⟨_, rfl⟩
      have k1 : -10 < x := by omega
      have k2 : 48 - x = y := by omega
      have k3 : x ≤ 0 := by omega
      rw [hy] at Y
      rw [hx]
      clear ih hx hy
      go_enter Tryz.func98, Tryz.ntmps98
      go_wp2_with fail
      refine Y.mono ?_
      rintro e w1 ⟨rfl, hB⟩
      go_wp2_with fail
      go_ret
      exact ⟨by rw [E.out]; rfl, hB⟩
    · have e := dec_more (n := n) (by omega)
      have Y := byte_of (48 + n % 10) (by omega)
      generalize UInt8.ofNat (48 + n % 10) = u at *
      have E := hide e
      clear e
      have I := ih (n / 10) (by omega) (by omega)
      have sz : ¬ 9223372036854775807 < (bs (dec (n / 10))).size + (bs [u]).size := by rw [bs_size, bs_size]; have := dec_len19 (n := n / 10) (by omega); simp only [List.length_cons, List.length_nil]; omega
      obtain ⟨x, hx⟩ : ∃ x : Int, -(n : Int) = x := ⟨_, rfl⟩
      obtain ⟨q, hq⟩ : ∃ q : Int, -((n / 10 : Nat) : Int) = q := ⟨_, rfl⟩
      obtain ⟨r, hr⟩ : ∃ r : Int, -((n % 10 : Nat) : Int) = r := ⟨_, rfl⟩
      obtain ⟨y, hy⟩ : ∃ y : Int, ((48 + n % 10 : Nat) : Int) = y := ⟨_, rfl⟩
      have k1 : ¬ -10 < x := by omega
      have k0 : -9223372036854775807 ≤ x := by omega
      have k2 : x.tdiv 10 = q := by rw [← hx, ← hq, Int.neg_tdiv, Int.tdiv_eq_ediv_of_nonneg (by omega)]; omega
      have k3 : x.tmod 10 = r := by rw [← hx, ← hr, Int.neg_tmod, Int.tmod_eq_emod_of_nonneg (by omega)]; omega
      have k4 : 48 - r = y := by omega
      have k5 : -10 < r := by omega
      have k6 : r ≤ 0 := by omega
      have k7 : -9223372036854775807 ≤ q := by omega
      have k8 : q ≤ 0 := by omega
      have k9 : x ≤ 0 := by omega
      rw [hy] at Y
      rw [hq] at I
      rw [hx]
      clear ih hx hq hr hy
      go_enter Tryz.func98, Tryz.ntmps98
      go_wp2_with fail
      refine (I w).mono ?_
      rintro e w1 ⟨rfl, hB1⟩
      go_wp2_with fail
      refine (Y w1).mono ?_
      rintro e w2 ⟨rfl, hB2⟩
      go_wp2_with fail
      go_ret
      exact ⟨by rw [E.out, ← bs_append]; rfl, hB1.trans (hB2.mono hB1.size)⟩
theorem decimal_of (n : Nat) (hn : n ≤ 9223372036854775807) (w : World) :
    Calls Tryz.prog 29 #[.int .i64 n] w fun e w' => e = .returned (.string (bs (dec n))) ∧ Below w.heap.size w w' := by
  have B := below_dec n hn w
  obtain ⟨x, hx⟩ : ∃ x : Int, (n : Int) = x := ⟨_, rfl⟩
  rw [hx] at B ⊢
  have k0 : 0 ≤ x := by omega
  have k1 : x ≤ 9223372036854775807 := by omega
  clear hx
  go_enter Tryz.func29, Tryz.ntmps29
  go_wp2_with fail
  refine B.mono ?_
  rintro e w1 ⟨rfl, hB⟩
  go_wp2_with fail
  go_ret
  exact ⟨rfl, hB⟩
end Go.Proofs.YtmbfdhekplnoaaaGreatDoor

namespace Go.Proofs.YtmbfdhekplnoaaaGreatDoor
open Go.RowKit

def TextV (w : World) (v : Value) (n : Nat) (T : Nat → List UInt8) : Prop := ∃ a cap, v = .slice a n cap ∧ n ≤ cap ∧ ∀ i, i < n → ∃ b off, a = some ⟨b, off, none⟩ ∧ b < w.heap.size ∧ w.cell? ⟨b, off + i, none⟩ = some (.string (bs (T i)))
theorem TextV.below {w w' : World} {v : Value} {n : Nat} {T : Nat → List UInt8} (h : TextV w v n T) (hB : Below w.heap.size w w') : TextV w' v n T := by
  obtain ⟨a, cap, rfl, hc, h⟩ := h
  refine ⟨a, cap, rfl, hc, fun i hi => ?_⟩
  obtain ⟨b, off, rfl, hb, c⟩ := h i hi
  exact ⟨b, off, rfl, Nat.lt_of_lt_of_le hb hB.size, by rw [hB.cell hb]; exact c⟩
theorem TextV.congr {w : World} {v : Value} {n : Nat} {T T' : Nat → List UInt8} (h : TextV w v n T) (e : ∀ i, i < n → T i = T' i) : TextV w v n T' := by
  obtain ⟨a, cap, rfl, hc, h⟩ := h
  refine ⟨a, cap, rfl, hc, fun i hi => ?_⟩
  rw [← e i hi]
  exact h i hi
set_option maxRecDepth 100000 in
theorem sameTexts_of (va vb : Value) (n : Nat) (hn : n ≤ 1000) (T : Nat → List UInt8) (w : World) (hA : TextV w va n T) (hB : TextV w vb n T) :
    Calls Tryz.prog 13 #[va, vb] w fun e w' => e = .returned (.bool true) ∧ ∃ m, w' = w.drewN m := by
  obtain ⟨a, ca, rfl, _, hA⟩ := hA
  obtain ⟨b, cb, rfl, _, hB⟩ := hB
  have dn : ((n : Int) != (n : Int)) = false := by simp
  go_enter Tryz.func13, Tryz.ntmps13
  go_wp2
  go_loopw [5] (fun i wr => ∃ k : Nat, k ≤ n ∧ i = .int .i64 k ∧ ∃ m, wr = w.drewN m) (fun i _ => n - (intOf i).toNat)
  case atStart => exact ⟨0, Nat.zero_le _, rfl, 0, rfl⟩
  case round =>
    obtain ⟨k, hk, rfl, m, hw⟩ := hrel
    clear dn
    by_cases hlt : k < n
    · obtain ⟨b1, o1, rfl, _, c0'⟩ := hA k hlt
      obtain ⟨b2, o2, rfl, _, c1'⟩ := hB k hlt
      have c0 : wr.cell? ⟨b1, o1 + k, none⟩ = some (.string (bs (T k))) := by rw [hw]; exact c0'
      have c1 : wr.cell? ⟨b2, o2 + k, none⟩ = some (.string (bs (T k))) := by rw [hw]; exact c1'
      have HW := hide hw
      generalize bs (T k) = s at *
      have d : (s.toList != s.toList) = false := by simp
      clear hA hB c0' c1' hw
      go_wp2
      go_quiet (fail)
      go_wp2
      go_roundw
      case rel => exact ⟨k + 1, by omega, by go_num, _, by rw [HW.out, drewN_again]⟩
      case measure => simp [intOf]; omega
    · obtain rfl : k = n := by omega
      have HW := hide hw
      clear hw hA hB
      go_wp2
      go_ret
      exact ⟨rfl, m, HW.out⟩
end Go.Proofs.YtmbfdhekplnoaaaGreatDoor

namespace Go.Proofs.YtmbfdhekplnoaaaGreatDoor

structure Pu where
  s : Int → Int
  S : Int
def Pu.sum (x : Pu) : Int := x.s 0 + x.s 1 + x.s 2 + x.s 3 + x.s 4 + x.s 5
def put (f : Int → Int) (o v : Int) : Int → Int := fun i => if i = o then v else f i
theorem put_same (f : Int → Int) (o v : Int) : put f o v o = v := if_pos rfl
theorem put_other (f : Int → Int) (o v i : Int) (h : i ≠ o) : put f o v i = f i := if_neg h
theorem sum_put (x : Pu) (S : Int) (o v : Int) (h : 0 ≤ o ∧ o < 6) : (Pu.mk (put x.s o v) S).sum = x.sum - x.s o + v := by
  have : o = 0 ∨ o = 1 ∨ o = 2 ∨ o = 3 ∨ o = 4 ∨ o = 5 := by omega
  unfold Pu.sum put
  rcases this with rfl | rfl | rfl | rfl | rfl | rfl <;> simp <;> omega
structure Pu.Ok (x : Pu) : Prop where
  pos : ∀ o, 0 ≤ x.s o
  out : ∀ o, ¬ (0 ≤ o ∧ o < 6) → x.s o = 0
  le : x.sum ≤ x.S
  top : x.S ≤ 1125899906842624
theorem Pu.Ok.sum0 {x : Pu} (h : x.Ok) : 0 ≤ x.sum := by
  have h0 := h.pos 0
  have h1 := h.pos 1
  have h2 := h.pos 2
  have h3 := h.pos 3
  have h4 := h.pos 4
  have h5 := h.pos 5
  unfold Pu.sum; omega
theorem Pu.Ok.one {x : Pu} (h : x.Ok) (o : Int) : x.s o ≤ x.sum := by
  have h0 := h.pos 0
  have h1 := h.pos 1
  have h2 := h.pos 2
  have h3 := h.pos 3
  have h4 := h.pos 4
  have h5 := h.pos 5
  by_cases g : 0 ≤ o ∧ o < 6
  · have : o = 0 ∨ o = 1 ∨ o = 2 ∨ o = 3 ∨ o = 4 ∨ o = 5 := by omega
    unfold Pu.sum
    rcases this with rfl | rfl | rfl | rfl | rfl | rfl <;> omega
  · rw [h.out o g]; exact h.sum0
def Amt (n : Int) : Prop := 0 ≤ n ∧ n ≤ 1125899906842624
def Own (o : Int) : Prop := 0 ≤ o ∧ o < 6
instance (n : Int) : Decidable (Amt n) := inferInstanceAs (Decidable (_ ∧ _))
instance (n : Int) : Decidable (Own n) := inferInstanceAs (Decidable (_ ∧ _))
def none' : Pu := ⟨fun _ => 0, 0⟩
theorem none_ok : none'.Ok := ⟨fun _ => Int.le_refl _, fun _ _ => rfl, by decide, by decide⟩

/-! what is done, and its error's number -/
def Pu.growC (x : Pu) (n : Int) : Int := if Amt n ∧ x.S + n ≤ 1125899906842624 then 0 else 2
def Pu.grow (x : Pu) (n : Int) : Pu := if x.growC n = 0 then ⟨x.s, x.S + n⟩ else x
def Pu.mintC (x : Pu) (o n : Int) : Int := if Own o ∧ Amt n ∧ x.S + n ≤ 1125899906842624 then 0 else 2
def Pu.mint (x : Pu) (o n : Int) : Pu := if x.mintC o n = 0 then ⟨put x.s o (x.s o + n), x.S + n⟩ else x
def Pu.burnC (x : Pu) (n : Int) : Int := if ¬ Amt n then 2 else if x.S - x.sum < n then 6 else 0
def Pu.burn (x : Pu) (n : Int) : Pu := if x.burnC n = 0 then ⟨x.s, x.S - n⟩ else x
def Pu.outC (x : Pu) (o n : Int) : Int := if ¬ (Own o ∧ Amt n) then 2 else if x.s o < n then 6 else 0
def Pu.out (x : Pu) (o n : Int) : Pu := if x.outC o n = 0 then ⟨put x.s o (x.s o - n), x.S⟩ else x
def Pu.inC (x : Pu) (o n : Int) : Int := if ¬ (Own o ∧ Amt n) then 2 else if x.S - x.sum < n then 6 else 0
def Pu.in' (x : Pu) (o n : Int) : Pu := if x.inC o n = 0 then ⟨put x.s o (x.s o + n), x.S⟩ else x
def Pu.moveC (x : Pu) (o p n : Int) : Int := if ¬ (Own o ∧ Own p ∧ Amt n) then 2 else if x.s o < n then 6 else 0
def Pu.move (x : Pu) (o p n : Int) : Pu := if x.moveC o p n = 0 then ⟨put (put x.s o (x.s o - n)) p (put x.s o (x.s o - n) p + n), x.S⟩ else x

theorem Pu.Ok.putOk {x : Pu} (h : x.Ok) (o v S : Int) (ho : Own o) (hv : 0 ≤ v) (hS : x.sum - x.s o + v ≤ S) (hT : S ≤ 1125899906842624) : (Pu.mk (put x.s o v) S).Ok where
  pos := fun i => by
    show 0 ≤ put x.s o v i
    unfold put; split
    · exact hv
    · exact h.pos i
  out := fun i hi => by
    show put x.s o v i = 0
    rw [put_other _ _ _ _ (fun e => hi (by rw [e]; exact ho))]; exact h.out i hi
  le := by rw [sum_put x S o v ho]; exact hS
  top := hT
theorem Pu.Ok.grow {x : Pu} (h : x.Ok) (n : Int) : (x.grow n).Ok := by
  unfold Pu.grow Pu.growC
  by_cases g : Amt n ∧ x.S + n ≤ 1125899906842624
  · rw [if_pos g, if_pos rfl]
    exact ⟨h.pos, h.out, by have := h.le; have := g.1.1; show x.sum ≤ x.S + n; omega, g.2⟩
  · rw [if_neg g, if_neg (by decide)]; exact h
theorem Pu.Ok.mint {x : Pu} (h : x.Ok) (o n : Int) : (x.mint o n).Ok := by
  unfold Pu.mint Pu.mintC
  by_cases g : Own o ∧ Amt n ∧ x.S + n ≤ 1125899906842624
  · rw [if_pos g, if_pos rfl]
    have := h.pos o
    have := h.le
    have := g.2.1.1
    exact h.putOk o _ _ g.1 (by omega) (by omega) g.2.2
  · rw [if_neg g, if_neg (by decide)]; exact h
theorem Pu.Ok.burn {x : Pu} (h : x.Ok) (n : Int) : (x.burn n).Ok := by
  unfold Pu.burn Pu.burnC
  by_cases g : Amt n
  · rw [if_neg (show ¬ ¬ Amt n from fun k => k g)]
    by_cases k : x.S - x.sum < n
    · rw [if_pos k, if_neg (by decide)]; exact h
    · rw [if_neg k, if_pos rfl]
      have := h.top
      have := g.1
      exact ⟨h.pos, h.out, by show x.sum ≤ x.S - n; omega, by show x.S - n ≤ _; omega⟩
  · rw [if_pos g, if_neg (by decide)]; exact h
theorem Pu.Ok.out' {x : Pu} (h : x.Ok) (o n : Int) : (x.out o n).Ok := by
  unfold Pu.out Pu.outC
  by_cases g : Own o ∧ Amt n
  · rw [if_neg (show ¬ ¬ (Own o ∧ Amt n) from fun k => k g)]
    by_cases k : x.s o < n
    · rw [if_pos k, if_neg (by decide)]; exact h
    · rw [if_neg k, if_pos rfl]
      have := h.le
      have := g.2.1
      exact h.putOk o _ _ g.1 (by omega) (by omega) h.top
  · rw [if_pos g, if_neg (by decide)]; exact h
theorem Pu.Ok.in' {x : Pu} (h : x.Ok) (o n : Int) : (x.in' o n).Ok := by
  unfold Pu.in' Pu.inC
  by_cases g : Own o ∧ Amt n
  · rw [if_neg (show ¬ ¬ (Own o ∧ Amt n) from fun k => k g)]
    by_cases k : x.S - x.sum < n
    · rw [if_pos k, if_neg (by decide)]; exact h
    · rw [if_neg k, if_pos rfl]
      have := h.pos o
      have := g.2.1
      exact h.putOk o _ _ g.1 (by omega) (by omega) h.top
  · rw [if_pos g, if_neg (by decide)]; exact h
theorem Pu.Ok.move {x : Pu} (h : x.Ok) (o p n : Int) : (x.move o p n).Ok := by
  unfold Pu.move Pu.moveC
  by_cases g : Own o ∧ Own p ∧ Amt n
  · rw [if_neg (show ¬ ¬ (Own o ∧ Own p ∧ Amt n) from fun k => k g)]
    by_cases k : x.s o < n
    · rw [if_pos k, if_neg (by decide)]; exact h
    · rw [if_neg k, if_pos rfl]
      have hle := h.le
      have hn := g.2.2.1
      have h1 : (Pu.mk (put x.s o (x.s o - n)) x.S).Ok := h.putOk o _ _ g.1 (by omega) (by omega) h.top
      have e1 := sum_put x x.S o (x.s o - n) g.1
      have hp := h1.pos p
      exact h1.putOk p _ _ g.2.1 (by show 0 ≤ put x.s o (x.s o - n) p + n; have : 0 ≤ put x.s o (x.s o - n) p := hp; omega) (by rw [e1]; show _ - put x.s o (x.s o - n) p + (put x.s o (x.s o - n) p + n) ≤ _; omega) h.top
  · rw [if_pos g, if_neg (by decide)]; exact h
end Go.Proofs.YtmbfdhekplnoaaaGreatDoor

namespace Go.Proofs.YtmbfdhekplnoaaaGreatDoor

structure St where
  T : Int
  s : Int → Int
def St.A (x : St) : Int := x.s 0 + x.s 1 + x.s 2 + x.s 3 + x.s 4 + x.s 5
structure St.Ok (x : St) : Prop where
  t0 : 0 ≤ x.T
  t1 : x.T ≤ 1125899906842624
  pos : ∀ o, 0 ≤ x.s o
  out : ∀ o, (o < 0 ∨ 6 ≤ o) → x.s o = 0
  a1 : x.A ≤ 1125899906842624
  none : x.A = 0 → x.T = 0
theorem St.Ok.a0 {x : St} (h : x.Ok) : 0 ≤ x.A := by
  have h0 := h.pos 0
  have h1 := h.pos 1
  have h2 := h.pos 2
  have h3 := h.pos 3
  have h4 := h.pos 4
  have h5 := h.pos 5
  unfold St.A; omega
theorem own_cases (o : Int) (h0 : 0 ≤ o) (h6 : o < 6) : o = 0 ∨ o = 1 ∨ o = 2 ∨ o = 3 ∨ o = 4 ∨ o = 5 := by omega
theorem St.Ok.le_all {x : St} (h : x.Ok) (o : Int) : x.s o ≤ x.A := by
  have h0 := h.pos 0
  have h1 := h.pos 1
  have h2 := h.pos 2
  have h3 := h.pos 3
  have h4 := h.pos 4
  have h5 := h.pos 5
  by_cases g : 0 ≤ o ∧ o < 6
  · rcases own_cases o g.1 g.2 with rfl | rfl | rfl | rfl | rfl | rfl <;> (unfold St.A; omega)
  · rw [h.out o (by omega)]; exact h.a0
def St.val (x : St) (o : Int) : Int := if x.A = 0 then 0 else x.s o * x.T / x.A
theorem St.val_none {x : St} (o : Int) (h : x.A = 0) : x.val o = 0 := if_pos h
theorem St.val_some {x : St} (o : Int) (h : 0 < x.A) : x.val o = x.s o * x.T / x.A := if_neg (by omega)
theorem St.Ok.val0 {x : St} (h : x.Ok) (o : Int) : 0 ≤ x.val o := by
  unfold St.val
  split
  · exact Int.le_refl _
  · exact div_nonneg _ _ (Int.mul_nonneg (h.pos o) h.t0) (by have := h.a0; omega)
theorem St.Ok.val1 {x : St} (h : x.Ok) (o : Int) : x.val o ≤ x.T := by
  unfold St.val
  split
  · exact h.t0
  · have := h.a0
    refine div_le _ _ _ (by omega) ?_
    rw [Int.mul_comm x.T]
    exact Int.mul_le_mul_of_nonneg_right (h.le_all o) h.t0

def St.set (x : St) (o v T : Int) : St := ⟨T, fun i => if i = o then v else x.s i⟩
theorem St.set_same (x : St) (o v T : Int) : (x.set o v T).s o = v := if_pos rfl
theorem St.set_other (x : St) (o v T i : Int) (h : i ≠ o) : (x.set o v T).s i = x.s i := if_neg h
theorem St.set_A (x : St) (o v T : Int) (h0 : 0 ≤ o) (h6 : o < 6) : (x.set o v T).A = x.A - x.s o + v := by
  rcases own_cases o h0 h6 with rfl | rfl | rfl | rfl | rfl | rfl <;> (simp [St.A, St.set] <;> omega)
theorem St.Ok.set {x : St} (h : x.Ok) (o v T : Int) (h0 : 0 ≤ o) (h6 : o < 6) (v0 : 0 ≤ v) (T0 : 0 ≤ T) (T1 : T ≤ 1125899906842624) (a1 : x.A - x.s o + v ≤ 1125899906842624) (hn : x.A - x.s o + v = 0 → T = 0) : (x.set o v T).Ok where
  t0 := T0
  t1 := T1
  pos := fun i => by
    by_cases e : i = o
    · subst e; rw [St.set_same]; exact v0
    · rw [St.set_other _ _ _ _ _ e]; exact h.pos i
  out := fun i hi => by rw [St.set_other _ _ _ _ _ (by omega)]; exact h.out i hi
  a1 := by rw [St.set_A _ _ _ _ h0 h6]; exact a1
  none := by rw [St.set_A _ _ _ _ h0 h6]; exact hn

abbrev Act1 (o n : Int) : Prop := 0 ≤ o ∧ o < 6 ∧ 1 ≤ n ∧ n ≤ 1125899906842624

def St.joinK (x : St) (n : Int) : Int := if x.A = 0 then n else n * x.A / x.T
def St.joinC (x : St) (o n : Int) : Int :=
  if ¬ Act1 o n then 2 else if 0 < x.A ∧ x.T = 0 then 8 else if 1125899906842624 < x.joinK n ∨ 1125899906842624 < x.T + n ∨ 1125899906842624 < x.A + x.joinK n then 2 else if x.joinK n = 0 then 7 else 0
def St.join (x : St) (o n : Int) : St := if x.joinC o n = 0 then x.set o (x.s o + x.joinK n) (x.T + n) else x
def St.takeK (x : St) (n : Int) : Int := upQ (n * x.A) x.T
def St.takeC (x : St) (o n : Int) : Int :=
  if ¬ Act1 o n then 2 else if x.val o < n then 6 else if x.takeK n = x.A ∧ n < x.T then 6 else 0
def St.take (x : St) (o n : Int) : St := if x.takeC o n = 0 then x.set o (x.s o - x.takeK n) (x.T - n) else x
def St.leaveC (x : St) (o : Int) : Int := if ¬ (0 ≤ o ∧ o < 6) then 2 else if x.s o = 0 then 4 else 0
def St.leaveN (x : St) (o : Int) : Int := if x.leaveC o = 0 then x.val o else 0
def St.leave (x : St) (o : Int) : St := if x.leaveC o = 0 then x.set o 0 (x.T - x.val o) else x
def St.addC (x : St) (n : Int) : Int := if ¬ (0 ≤ n ∧ n ≤ 1125899906842624) then 2 else if x.A = 0 then 4 else if 1125899906842624 < x.T + n then 2 else 0
def St.add (x : St) (n : Int) : St := if x.addC n = 0 then ⟨x.T + n, x.s⟩ else x
def St.slashC (_ : St) (p : Int) : Int := if ¬ (0 ≤ p ∧ p ≤ 100) then 2 else 0
def St.slashN (x : St) (p : Int) : Int := if 0 ≤ p ∧ p ≤ 100 then x.T * p / 100 else 0
def St.slash (x : St) (p : Int) : St := ⟨x.T - x.slashN p, x.s⟩

/-! joining -/
theorem St.joinC_zero {x : St} {o n : Int} (h : x.joinC o n = 0) : Act1 o n ∧ (0 < x.A → x.T ≠ 0) ∧ x.joinK n ≤ 1125899906842624 ∧ x.T + n ≤ 1125899906842624 ∧ x.A + x.joinK n ≤ 1125899906842624 ∧ x.joinK n ≠ 0 := by
  unfold St.joinC at h
  by_cases h1 : Act1 o n
  · rw [if_neg (not_not_intro h1)] at h
    by_cases h2 : 0 < x.A ∧ x.T = 0
    · rw [if_pos h2] at h; omega
    · rw [if_neg h2] at h
      by_cases h3 : 1125899906842624 < x.joinK n ∨ 1125899906842624 < x.T + n ∨ 1125899906842624 < x.A + x.joinK n
      · rw [if_pos h3] at h; omega
      · rw [if_neg h3] at h
        by_cases h4 : x.joinK n = 0
        · rw [if_pos h4] at h; omega
        · exact ⟨h1, fun g e => h2 ⟨g, e⟩, by omega, by omega, by omega, h4⟩
  · rw [if_pos h1] at h; omega
theorem St.Ok.joinK0 {x : St} (h : x.Ok) {n : Int} (hn : 0 ≤ n) : 0 ≤ x.joinK n := by
  unfold St.joinK
  split
  · exact hn
  · exact Int.ediv_nonneg (Int.mul_nonneg hn h.a0) h.t0
theorem St.Ok.join {x : St} (h : x.Ok) (o n : Int) : (x.join o n).Ok := by
  unfold St.join
  split
  · rename_i hc
    obtain ⟨⟨o0, o6, n1, nM⟩, _, k1, t1, a1, k0⟩ := St.joinC_zero hc
    have hk := h.joinK0 (n := n) (by omega)
    have := h.pos o
    have := h.le_all o
    have := h.t0
    exact h.set o _ _ o0 o6 (by omega) (by omega) t1 (by omega) (by omega)
  · exact h

/-! taking -/
theorem St.takeC_zero {x : St} {o n : Int} (h : x.takeC o n = 0) : Act1 o n ∧ n ≤ x.val o ∧ (x.takeK n = x.A → x.T ≤ n) := by
  unfold St.takeC at h
  by_cases h1 : Act1 o n
  · rw [if_neg (not_not_intro h1)] at h
    by_cases h2 : x.val o < n
    · rw [if_pos h2] at h; omega
    · rw [if_neg h2] at h
      by_cases h3 : x.takeK n = x.A ∧ n < x.T
      · rw [if_pos h3] at h; omega
      · exact ⟨h1, by omega, fun e => by
          rcases Int.lt_or_le n x.T with g | g
          · exact absurd ⟨e, g⟩ h3
          · exact g⟩
  · rw [if_pos h1] at h; omega
theorem St.Ok.take_in {x : St} (h : x.Ok) {o n : Int} (n1 : 1 ≤ n) (hv : n ≤ x.val o) : 0 < x.A ∧ 0 < x.T ∧ n ≤ x.T ∧ 0 ≤ x.takeK n ∧ x.takeK n ≤ x.s o ∧ n * x.A ≤ x.takeK n * x.T := by
  have hv1 := h.val1 o
  have hT : 0 < x.T := by omega
  have hA : 0 < x.A := by
    have := h.a0
    rcases Int.lt_or_eq_of_le this with g | g
    · exact g
    · rw [St.val_none o g.symm] at hv; omega
  rw [St.val_some o hA] at hv
  have g1 : n * x.A ≤ x.s o * x.T := Int.le_trans (Int.mul_le_mul_of_nonneg_right hv (by omega)) (div_mul_le _ _ hA)
  exact ⟨hA, hT, by rw [St.val_some o hA] at hv1; omega, upQ_nonneg _ _ (Int.mul_nonneg (by omega) (by omega)) hT, upQ_le _ _ _ hT g1, upQ_ge _ _ hT⟩
theorem St.Ok.take {x : St} (h : x.Ok) (o n : Int) : (x.take o n).Ok := by
  unfold St.take
  split
  · rename_i hc
    obtain ⟨⟨o0, o6, n1, nM⟩, hv, hall⟩ := St.takeC_zero hc
    obtain ⟨hA, hT, hnT, k0, k1, _⟩ := h.take_in n1 hv
    have := h.t1
    have := h.a1
    have := h.le_all o
    refine h.set o _ _ o0 o6 (by omega) (by omega) (by omega) (by omega) (fun e => ?_)
    have := hall (by omega)
    omega
  · exact h

/-! leaving -/
theorem St.leaveC_zero {x : St} {o : Int} (h : x.leaveC o = 0) : 0 ≤ o ∧ o < 6 ∧ x.s o ≠ 0 := by
  unfold St.leaveC at h
  by_cases h1 : 0 ≤ o ∧ o < 6
  · rw [if_neg (not_not_intro h1)] at h
    by_cases h2 : x.s o = 0
    · rw [if_pos h2] at h; omega
    · exact ⟨h1.1, h1.2, h2⟩
  · rw [if_pos h1] at h; omega
theorem St.Ok.leave {x : St} (h : x.Ok) (o : Int) : (x.leave o).Ok := by
  unfold St.leave
  split
  · rename_i hc
    obtain ⟨o0, o6, hs⟩ := St.leaveC_zero hc
    have v0 := h.val0 o
    have v1 := h.val1 o
    have := h.t1
    have := h.a1
    have hp := h.pos o
    have hl := h.le_all o
    refine h.set o _ _ o0 o6 (by omega) (by omega) (by omega) (by omega) (fun e => ?_)
    have e1 : x.s o = x.A := by omega
    have e2 : x.val o = x.T := by
      rw [St.val_some o (by omega), e1, Int.mul_ediv_cancel_left _ (by omega)]
    omega
  · exact h

/-! adding and slashing -/
theorem St.addC_zero {x : St} {n : Int} (h : x.addC n = 0) : 0 ≤ n ∧ n ≤ 1125899906842624 ∧ x.A ≠ 0 ∧ x.T + n ≤ 1125899906842624 := by
  unfold St.addC at h
  by_cases h1 : 0 ≤ n ∧ n ≤ 1125899906842624
  · rw [if_neg (not_not_intro h1)] at h
    by_cases h2 : x.A = 0
    · rw [if_pos h2] at h; omega
    · rw [if_neg h2] at h
      by_cases h3 : 1125899906842624 < x.T + n
      · rw [if_pos h3] at h; omega
      · exact ⟨h1.1, h1.2, h2, by omega⟩
  · rw [if_pos h1] at h; omega
theorem St.Ok.add {x : St} (h : x.Ok) (n : Int) : (x.add n).Ok := by
  unfold St.add
  split
  · rename_i hc
    obtain ⟨n0, n1, ha, ht⟩ := St.addC_zero hc
    have := h.t0
    exact ⟨by show 0 ≤ x.T + n; omega, ht, h.pos, h.out, h.a1, fun e => absurd e ha⟩
  · exact h
theorem St.Ok.slashN_bd {x : St} (h : x.Ok) (p : Int) : 0 ≤ x.slashN p ∧ x.slashN p ≤ x.T := by
  unfold St.slashN
  split
  · rename_i hp
    refine ⟨div_nonneg _ _ (Int.mul_nonneg h.t0 hp.1) (by omega), div_le _ _ _ (by omega) ?_⟩
    exact Int.mul_le_mul_of_nonneg_left hp.2 h.t0
  · exact ⟨Int.le_refl _, h.t0⟩
theorem St.Ok.slash {x : St} (h : x.Ok) (p : Int) : (x.slash p).Ok := by
  have hb := h.slashN_bd p
  have h1 := h.t1
  refine ⟨by show 0 ≤ x.T - x.slashN p; omega, by show x.T - x.slashN p ≤ _; omega, h.pos, h.out, h.a1, fun e => ?_⟩
  have := h.none e
  show x.T - x.slashN p = 0
  omega

/-! the acts, case by case -/
theorem St.joinC_bad {x : St} {o n : Int} (h : ¬ Act1 o n) : x.joinC o n = 2 := if_pos h
theorem St.joinC_gone {x : St} {o n : Int} (h : Act1 o n) (h1 : 0 < x.A) (h2 : x.T = 0) : x.joinC o n = 8 := by
  unfold St.joinC; rw [if_neg (not_not_intro h), if_pos ⟨h1, h2⟩]
theorem St.joinC_over {x : St} {o n : Int} (h : Act1 o n) (h1 : ¬ (0 < x.A ∧ x.T = 0)) (h2 : 1125899906842624 < x.joinK n ∨ 1125899906842624 < x.T + n ∨ 1125899906842624 < x.A + x.joinK n) : x.joinC o n = 2 := by
  unfold St.joinC; rw [if_neg (not_not_intro h), if_neg h1, if_pos h2]
theorem St.joinC_small {x : St} {o n : Int} (h : Act1 o n) (h1 : ¬ (0 < x.A ∧ x.T = 0)) (h3 : x.T + n ≤ 1125899906842624) (h4 : x.A + x.joinK n ≤ 1125899906842624) (h5 : x.joinK n = 0) : x.joinC o n = 7 := by
  unfold St.joinC; rw [if_neg (not_not_intro h), if_neg h1, if_neg (by omega), if_pos h5]
theorem St.joinC_fine {x : St} {o n : Int} (h : Act1 o n) (h1 : ¬ (0 < x.A ∧ x.T = 0)) (h2 : x.joinK n ≤ 1125899906842624) (h3 : x.T + n ≤ 1125899906842624) (h4 : x.A + x.joinK n ≤ 1125899906842624) (h5 : ¬ x.joinK n = 0) : x.joinC o n = 0 := by
  unfold St.joinC; rw [if_neg (not_not_intro h), if_neg h1, if_neg (by omega), if_neg h5]
theorem St.joinK_none {x : St} {n : Int} (h : x.A = 0) : x.joinK n = n := if_pos h
theorem St.joinK_some {x : St} {n : Int} (h : ¬ x.A = 0) : x.joinK n = n * x.A / x.T := if_neg h
theorem St.join_no {x : St} {o n c : Int} (h : x.joinC o n = c) (hc : c ≠ 0) : x.join o n = x := if_neg (by omega)
theorem St.join_yes {x : St} {o n : Int} (h : x.joinC o n = 0) : x.join o n = x.set o (x.s o + x.joinK n) (x.T + n) := if_pos h
theorem St.takeC_bad {x : St} {o n : Int} (h : ¬ Act1 o n) : x.takeC o n = 2 := if_pos h
theorem St.takeC_short {x : St} {o n : Int} (h : Act1 o n) (h1 : x.val o < n) : x.takeC o n = 6 := by
  unfold St.takeC; rw [if_neg (not_not_intro h), if_pos h1]
theorem St.takeC_all {x : St} {o n : Int} (h : Act1 o n) (h1 : n ≤ x.val o) (h2 : x.takeK n = x.A) (h3 : n < x.T) : x.takeC o n = 6 := by
  unfold St.takeC; rw [if_neg (not_not_intro h), if_neg (by omega), if_pos ⟨h2, h3⟩]
theorem St.takeC_fine {x : St} {o n : Int} (h : Act1 o n) (h1 : n ≤ x.val o) (h2 : ¬ (x.takeK n = x.A ∧ n < x.T)) : x.takeC o n = 0 := by
  unfold St.takeC; rw [if_neg (not_not_intro h), if_neg (by omega), if_neg h2]
theorem St.take_no {x : St} {o n c : Int} (h : x.takeC o n = c) (hc : c ≠ 0) : x.take o n = x := if_neg (by omega)
theorem St.take_yes {x : St} {o n : Int} (h : x.takeC o n = 0) : x.take o n = x.set o (x.s o - x.takeK n) (x.T - n) := if_pos h
theorem St.leaveC_bad {x : St} {o : Int} (h : ¬ (0 ≤ o ∧ o < 6)) : x.leaveC o = 2 := if_pos h
theorem St.leaveC_none {x : St} {o : Int} (h : 0 ≤ o ∧ o < 6) (h1 : x.s o = 0) : x.leaveC o = 4 := by
  unfold St.leaveC; rw [if_neg (not_not_intro h), if_pos h1]
theorem St.leaveC_fine {x : St} {o : Int} (h : 0 ≤ o ∧ o < 6) (h1 : ¬ x.s o = 0) : x.leaveC o = 0 := by
  unfold St.leaveC; rw [if_neg (not_not_intro h), if_neg h1]
theorem St.leave_no {x : St} {o c : Int} (h : x.leaveC o = c) (hc : c ≠ 0) : x.leave o = x ∧ x.leaveN o = 0 := ⟨if_neg (by omega), if_neg (by omega)⟩
theorem St.leave_yes {x : St} {o : Int} (h : x.leaveC o = 0) : x.leave o = x.set o 0 (x.T - x.val o) ∧ x.leaveN o = x.val o := ⟨if_pos h, if_pos h⟩
theorem St.addC_bad {x : St} {n : Int} (h : ¬ (0 ≤ n ∧ n ≤ 1125899906842624)) : x.addC n = 2 := if_pos h
theorem St.addC_none {x : St} {n : Int} (h : 0 ≤ n ∧ n ≤ 1125899906842624) (h1 : x.A = 0) : x.addC n = 4 := by
  unfold St.addC; rw [if_neg (not_not_intro h), if_pos h1]
theorem St.addC_over {x : St} {n : Int} (h : 0 ≤ n ∧ n ≤ 1125899906842624) (h1 : ¬ x.A = 0) (h2 : 1125899906842624 < x.T + n) : x.addC n = 2 := by
  unfold St.addC; rw [if_neg (not_not_intro h), if_neg h1, if_pos h2]
theorem St.addC_fine {x : St} {n : Int} (h : 0 ≤ n ∧ n ≤ 1125899906842624) (h1 : ¬ x.A = 0) (h2 : x.T + n ≤ 1125899906842624) : x.addC n = 0 := by
  unfold St.addC; rw [if_neg (not_not_intro h), if_neg h1, if_neg (by omega)]
theorem St.add_no {x : St} {n c : Int} (h : x.addC n = c) (hc : c ≠ 0) : x.add n = x := if_neg (by omega)
theorem St.add_yes {x : St} {n : Int} (h : x.addC n = 0) : x.add n = ⟨x.T + n, x.s⟩ := if_pos h
theorem St.slash_no {x : St} {p : Int} (h : ¬ (0 ≤ p ∧ p ≤ 100)) : x.slashC p = 2 ∧ x.slashN p = 0 ∧ x.slash p = x := by
  refine ⟨if_pos h, if_neg h, ?_⟩
  unfold St.slash St.slashN
  rw [if_neg h, Int.sub_zero]
theorem St.slash_yes {x : St} {p : Int} (h : 0 ≤ p ∧ p ≤ 100) : x.slashC p = 0 ∧ x.slashN p = x.T * p / 100 ∧ x.slash p = ⟨x.T - x.T * p / 100, x.s⟩ := by
  refine ⟨if_neg (not_not_intro h), if_pos h, ?_⟩
  unfold St.slash St.slashN
  rw [if_pos h]
end Go.Proofs.YtmbfdhekplnoaaaGreatDoor

namespace Go.Proofs.YtmbfdhekplnoaaaGreatDoor

def e0 : St := ⟨0, fun _ => 0⟩
theorem e0_ok : e0.Ok := ⟨by decide, by decide, fun _ => Int.le_refl _, fun _ _ => rfl, by decide, fun _ => rfl⟩
theorem e0_val (o : Int) : e0.val o = 0 := if_pos rfl
theorem St.eta (x : St) (t : Int) (h : t = x.T) : (⟨t, x.s⟩ : St) = x := by subst h; rfl

/-! sums over keys -/
def sumK (K : List (Int × Int)) (f : Int → Int → Int) : Int := match K with
  | [] => 0
  | k :: l => f k.1 k.2 + sumK l f
theorem sumK_cons (k : Int × Int) (l : List (Int × Int)) (f : Int → Int → Int) : sumK (k :: l) f = f k.1 k.2 + sumK l f := rfl
theorem sumK_append (f : Int → Int → Int) : ∀ (K L : List (Int × Int)), sumK (K ++ L) f = sumK K f + sumK L f
  | [], L => by rw [List.nil_append]; exact (Int.zero_add _).symm
  | k :: l, L => by rw [List.cons_append, sumK_cons, sumK_cons, sumK_append f l L]; omega
theorem sumK_congr {f g : Int → Int → Int} : ∀ (K : List (Int × Int)), (∀ k, k ∈ K → f k.1 k.2 = g k.1 k.2) → sumK K f = sumK K g
  | [], _ => rfl
  | k :: l, h => by rw [sumK_cons, sumK_cons, h k (List.mem_cons_self ..), sumK_congr l (fun j hj => h j (List.mem_cons_of_mem _ hj))]
theorem sumK_add (f g : Int → Int → Int) : ∀ (K : List (Int × Int)), sumK K (fun b c => f b c + g b c) = sumK K f + sumK K g
  | [] => rfl
  | k :: l => by rw [sumK_cons, sumK_cons, sumK_cons, sumK_add f g l]; omega
theorem sumK_nonneg {f : Int → Int → Int} : ∀ (K : List (Int × Int)), (∀ k, k ∈ K → 0 ≤ f k.1 k.2) → 0 ≤ sumK K f
  | [], _ => Int.le_refl _
  | k :: l, h => by
    rw [sumK_cons]
    have := h k (List.mem_cons_self ..)
    have := sumK_nonneg l (fun j hj => h j (List.mem_cons_of_mem _ hj))
    omega
theorem sumK_le {f : Int → Int → Int} {M : Int} : ∀ (K : List (Int × Int)), (∀ k, k ∈ K → f k.1 k.2 ≤ M) → sumK K f ≤ K.length * M
  | [], _ => by rw [List.length_nil]; exact Int.le_of_eq (Int.zero_mul M).symm
  | k :: l, h => by
    rw [sumK_cons, List.length_cons]
    have := h k (List.mem_cons_self ..)
    have := sumK_le l (fun j hj => h j (List.mem_cons_of_mem _ hj))
    have e : ((l.length + 1 : Nat) : Int) * M = l.length * M + M := by rw [Int.natCast_add, Int.add_mul]; simp
    omega
theorem sumK_zero {f : Int → Int → Int} (K : List (Int × Int)) (h : ∀ k, k ∈ K → f k.1 k.2 = 0) : sumK K f = 0 := by
  rw [sumK_congr (g := fun _ _ => 0) K h]
  induction K with
  | nil => rfl
  | cons k l ih => rw [sumK_cons, ih (fun j hj => h j (List.mem_cons_of_mem _ hj))]; rfl
theorem sumK_one {f g : Int → Int → Int} (b c : Int) : ∀ (K : List (Int × Int)), K.Nodup → (b, c) ∈ K → (∀ k, k ∈ K → k ≠ (b, c) → g k.1 k.2 = f k.1 k.2) → sumK K g = sumK K f - f b c + g b c
  | [], _, h, _ => by cases h
  | k :: l, hn, h, hg => by
    obtain ⟨hk, hl⟩ := List.nodup_cons.1 hn
    rw [sumK_cons, sumK_cons]
    rcases List.mem_cons.1 h with e | e
    · subst e
      rw [sumK_congr (f := g) (g := f) l (fun j hj => hg j (List.mem_cons_of_mem _ hj) (fun e => hk (e ▸ hj)))]
      show g b c + _ = f b c + _ - f b c + g b c
      omega
    · rw [sumK_one b c l hl e (fun j hj ne => hg j (List.mem_cons_of_mem _ hj) ne), hg k (List.mem_cons_self ..) (fun g => hk (g ▸ e))]
      omega

/-! functions set at one place -/
def set1 {α : Type} (f : Int → α) (b : Int) (v : α) : Int → α := fun i => if i = b then v else f i
theorem set1_same {α : Type} (f : Int → α) (b : Int) (v : α) : set1 f b v b = v := if_pos rfl
theorem set1_other {α : Type} (f : Int → α) (b : Int) (v : α) (i : Int) (h : i ≠ b) : set1 f b v i = f i := if_neg h
theorem set1_id {α : Type} (f : Int → α) (b : Int) (v : α) (h : v = f b) : set1 f b v = f := by
  funext i
  by_cases e : i = b
  · subst e; rw [set1_same, h]
  · rw [set1_other _ _ _ _ e]
def set2 {α : Type} (f : Int → Int → α) (b c : Int) (v : α) : Int → Int → α := fun i j => if i = b ∧ j = c then v else f i j
theorem set2_same {α : Type} (f : Int → Int → α) (b c : Int) (v : α) : set2 f b c v b c = v := if_pos ⟨rfl, rfl⟩
theorem set2_other {α : Type} (f : Int → Int → α) (b c : Int) (v : α) (i j : Int) (h : (i, j) ≠ (b, c)) : set2 f b c v i j = f i j := if_neg fun g => h (by rw [g.1, g.2])

structure Sk where
  R : Int → Bool
  P : Int → St
  K : List (Int × Int)
  W : Int → Int → St
abbrev Bk (b : Int) : Prop := 0 ≤ b ∧ b < 3
abbrev Cy (c : Int) : Prop := 0 ≤ c ∧ c ≤ 1048576
abbrev Ow (o : Int) : Prop := 0 ≤ o ∧ o < 6
structure Sk.Ok (S : Sk) : Prop where
  rin : ∀ b, S.R b = true → Bk b
  pok : ∀ b, (S.P b).Ok
  pout : ∀ b, S.R b = false → S.P b = e0
  wok : ∀ b c, (S.W b c).Ok
  wout : ∀ b c, (b, c) ∉ S.K → S.W b c = e0
  kin : ∀ k, k ∈ S.K → S.R k.1 = true ∧ Cy k.2
  knd : S.K.Nodup
def Sk.none : Sk := ⟨fun _ => false, fun _ => e0, [], fun _ _ => e0⟩
theorem Sk.none_ok : Sk.none.Ok := ⟨fun _ h => (by cases h), fun _ => e0_ok, fun _ _ => rfl, fun _ _ => e0_ok, fun _ _ _ => rfl, fun _ h => (by cases h), List.nodup_nil⟩
def Sk.total (S : Sk) : Int := (S.P 0).T + (S.P 1).T + (S.P 2).T + sumK S.K fun b c => (S.W b c).T
theorem Sk.Ok.total_bd {S : Sk} (h : S.Ok) : 0 ≤ S.total ∧ S.total ≤ (3 + S.K.length) * 1125899906842624 := by
  have a0 := h.pok 0
  have a1 := h.pok 1
  have a2 := h.pok 2
  have := a0.t0
  have := a0.t1
  have := a1.t0
  have := a1.t1
  have := a2.t0
  have := a2.t1
  have s0 := sumK_nonneg (f := fun b c => (S.W b c).T) S.K (fun k _ => (h.wok _ _).t0)
  have s1 := sumK_le (f := fun b c => (S.W b c).T) (M := 1125899906842624) S.K (fun k _ => (h.wok _ _).t1)
  unfold Sk.total
  generalize sumK S.K (fun b c => (S.W b c).T) = x at *
  constructor <;> omega

/-! what each act makes -/
def Sk.regC (S : Sk) (b : Int) : Int := if ¬ Bk b then 2 else if S.R b then 5 else 0
def Sk.reg (S : Sk) (b : Int) : Sk := if S.regC b = 0 then ⟨set1 S.R b true, S.P, S.K, S.W⟩ else S
def Sk.joinC (S : Sk) (o b n : Int) : Int := if S.R b then (S.P b).joinC o n else 4
def Sk.join (S : Sk) (o b n : Int) : Sk := if S.R b then ⟨S.R, set1 S.P b ((S.P b).join o n), S.K, S.W⟩ else S
def Sk.leaveC (S : Sk) (o b n c : Int) : Int := if S.R b then (if ¬ Cy c then 2 else if (S.P b).takeC o n ≠ 0 then (S.P b).takeC o n else (S.W b c).joinC o n) else 4
def keyed2 (K : List (Int × Int)) (b c : Int) : List (Int × Int) := if (b, c) ∈ K then K else K ++ [(b, c)]
def Sk.leave (S : Sk) (o b n c : Int) : Sk := if S.leaveC o b n c = 0 then ⟨S.R, set1 S.P b ((S.P b).take o n), keyed2 S.K b c, set2 S.W b c ((S.W b c).join o n)⟩ else S
def Sk.has (S : Sk) (o c : Int) : Bool := S.K.any fun k => decide (k.2 + 2 < c) && decide ((S.W k.1 k.2).leaveC o = 0)
def Sk.freeC (S : Sk) (o c : Int) : Int := if ¬ (Ow o ∧ Cy c) then 2 else if S.has o c then 0 else 4
def Sk.freeN (S : Sk) (o c : Int) : Int := if ¬ (Ow o ∧ Cy c) then 0 else sumK S.K fun b' c' => if c' + 2 < c then (S.W b' c').leaveN o else 0
def Sk.free (S : Sk) (o c : Int) : Sk := if ¬ (Ow o ∧ Cy c) then S else ⟨S.R, S.P, S.K, fun b' c' => if c' + 2 < c then (S.W b' c').leave o else S.W b' c'⟩
def Sk.addC (S : Sk) (b n : Int) : Int := if S.R b then (S.P b).addC n else 4
def Sk.add (S : Sk) (b n : Int) : Sk := if S.R b then ⟨S.R, set1 S.P b ((S.P b).add n), S.K, S.W⟩ else S
def Sk.slashC (S : Sk) (b p : Int) : Int := if S.R b then (if 0 ≤ p ∧ p ≤ 100 then 0 else 2) else 4
def Sk.slashN (S : Sk) (b f p : Int) : Int := if S.slashC b p = 0 then (S.P b).slashN p + sumK S.K (fun b' c' => if b' = b ∧ f ≤ c' then (S.W b' c').slashN p else 0) else 0
def Sk.slash (S : Sk) (b f p : Int) : Sk := if S.slashC b p = 0 then ⟨S.R, set1 S.P b ((S.P b).slash p), S.K, fun b' c' => if b' = b ∧ f ≤ c' then (S.W b' c').slash p else S.W b' c'⟩ else S

/-! small facts -/
theorem e0_leave (o : Int) : e0.leave o = e0 := by
  refine if_neg ?_
  unfold St.leaveC
  split
  · omega
  · rw [if_pos (show e0.s o = 0 from rfl)]; omega
theorem e0_slash (p : Int) : e0.slash p = e0 := by
  refine St.eta e0 _ ?_
  show (0 : Int) - e0.slashN p = 0
  unfold St.slashN
  split
  · show (0 : Int) - 0 * p / 100 = 0
    rw [Int.zero_mul]; decide
  · rfl
theorem keyed2_mem (K : List (Int × Int)) (b c : Int) : (b, c) ∈ keyed2 K b c := by
  unfold keyed2
  split
  · assumption
  · simp
theorem keyed2_old {K : List (Int × Int)} {b c : Int} {k : Int × Int} (h : k ∈ K) : k ∈ keyed2 K b c := by
  unfold keyed2
  split
  · exact h
  · exact List.mem_append.2 (.inl h)
theorem keyed2_cases {K : List (Int × Int)} {b c : Int} {k : Int × Int} (h : k ∈ keyed2 K b c) : k ∈ K ∨ k = (b, c) := by
  unfold keyed2 at h
  split at h
  · exact .inl h
  · rcases List.mem_append.1 h with g | g
    · exact .inl g
    · exact .inr (by simpa using g)
theorem keyed2_nodup {K : List (Int × Int)} {b c : Int} (h : K.Nodup) : (keyed2 K b c).Nodup := by
  unfold keyed2
  split
  · exact h
  · rename_i hn
    refine List.nodup_append.2 ⟨h, by simp, ?_⟩
    intro a ha x hx e
    have : x = (b, c) := by simpa using hx
    exact hn (by rw [← this, ← e]; exact ha)
theorem keyed2_len (K : List (Int × Int)) (b c : Int) : (keyed2 K b c).length ≤ K.length + 1 := by
  unfold keyed2
  split
  · exact Nat.le_succ _
  · rw [List.length_append]; exact Nat.le_refl _

/-! they stay as they should be -/
theorem Sk.Ok.reg {S : Sk} (h : S.Ok) (b : Int) : (S.reg b).Ok := by
  unfold Sk.reg
  split
  · rename_i hc
    unfold Sk.regC at hc
    have hb : Bk b := by
      by_cases g : Bk b
      · exact g
      · rw [if_pos g] at hc; omega
    refine ⟨fun i hi => ?_, h.pok, fun i hi => ?_, h.wok, h.wout, fun k hk => ⟨?_, (h.kin k hk).2⟩, h.knd⟩
    · by_cases e : i = b
      · subst e; exact hb
      · exact h.rin i ((set1_other S.R b true i e).symm.trans hi)
    · by_cases e : i = b
      · subst e
        rw [show (⟨set1 S.R i true, S.P, S.K, S.W⟩ : Sk).R i = true from set1_same ..] at hi
        cases hi
      · exact h.pout i (by rw [show (⟨set1 S.R b true, S.P, S.K, S.W⟩ : Sk).R i = S.R i from set1_other _ _ _ _ e] at hi; exact hi)
    · by_cases e : k.1 = b
      · rw [e]; exact set1_same ..
      · exact (set1_other _ _ _ _ e).trans (h.kin k hk).1
  · exact h
theorem Sk.Ok.pool {S : Sk} (h : S.Ok) {b : Int} {x : St} (hr : S.R b = true) (hx : x.Ok) : (⟨S.R, set1 S.P b x, S.K, S.W⟩ : Sk).Ok := by
  refine ⟨h.rin, fun i => ?_, fun i hi => ?_, h.wok, h.wout, h.kin, h.knd⟩
  · by_cases e : i = b
    · subst e; rw [show (⟨S.R, set1 S.P i x, S.K, S.W⟩ : Sk).P i = x from set1_same ..]; exact hx
    · rw [show (⟨S.R, set1 S.P b x, S.K, S.W⟩ : Sk).P i = S.P i from set1_other _ _ _ _ e]; exact h.pok i
  · have e : i ≠ b := fun e => by
      subst e
      rw [show (⟨S.R, set1 S.P i x, S.K, S.W⟩ : Sk).R i = true from hr] at hi
      cases hi
    rw [show (⟨S.R, set1 S.P b x, S.K, S.W⟩ : Sk).P i = S.P i from set1_other _ _ _ _ e]; exact h.pout i hi
theorem Sk.Ok.waits {S : Sk} (h : S.Ok) {V : Int → Int → St} (hv : ∀ b c, (V b c).Ok) (h0 : ∀ b c, S.W b c = e0 → V b c = e0) : (⟨S.R, S.P, S.K, V⟩ : Sk).Ok :=
  ⟨h.rin, h.pok, h.pout, hv, fun b c hk => h0 b c (h.wout b c hk), h.kin, h.knd⟩
theorem Sk.Ok.join {S : Sk} (h : S.Ok) (o b n : Int) : (S.join o b n).Ok := by
  unfold Sk.join
  split
  · exact h.pool (by assumption) ((h.pok b).join o n)
  · exact h
theorem Sk.Ok.add {S : Sk} (h : S.Ok) (b n : Int) : (S.add b n).Ok := by
  unfold Sk.add
  split
  · exact h.pool (by assumption) ((h.pok b).add n)
  · exact h
theorem Sk.leaveC_zero {S : Sk} {o b n c : Int} (h : S.leaveC o b n c = 0) : S.R b = true ∧ Cy c ∧ (S.P b).takeC o n = 0 ∧ (S.W b c).joinC o n = 0 := by
  unfold Sk.leaveC at h
  by_cases hr : S.R b
  · rw [if_pos hr] at h
    by_cases hc : Cy c
    · rw [if_neg (not_not_intro hc)] at h
      by_cases ht : (S.P b).takeC o n = 0
      · rw [if_neg (not_not_intro ht)] at h
        exact ⟨hr, hc, ht, h⟩
      · rw [if_pos ht] at h; exact absurd h ht
    · rw [if_pos hc] at h; omega
  · rw [if_neg hr] at h; omega
theorem Sk.Ok.leave {S : Sk} (h : S.Ok) (o b n c : Int) : (S.leave o b n c).Ok := by
  unfold Sk.leave
  split
  · rename_i hc
    obtain ⟨hr, hcy, _, _⟩ := Sk.leaveC_zero hc
    have g := h.pool hr ((h.pok b).take o n)
    refine ⟨g.rin, g.pok, g.pout, fun i j => ?_, fun i j hn => ?_, fun k hk => ?_, keyed2_nodup h.knd⟩
    · by_cases e : (i, j) = (b, c)
      · cases e
        show (set2 S.W b c _ b c).Ok
        rw [set2_same]
        exact (h.wok b c).join o n
      · show (set2 S.W b c _ i j).Ok
        rw [set2_other _ _ _ _ _ _ e]
        exact h.wok i j
    · have e : (i, j) ≠ (b, c) := fun e => hn (e ▸ keyed2_mem ..)
      exact (set2_other S.W b c _ i j e).trans (h.wout i j fun g => hn (keyed2_old g))
    · rcases keyed2_cases hk with e | e
      · exact h.kin k e
      · subst e; exact ⟨hr, hcy⟩
  · exact h
theorem Sk.Ok.free {S : Sk} (h : S.Ok) (o c : Int) : (S.free o c).Ok := by
  unfold Sk.free
  split
  · exact h
  · refine h.waits (fun b' c' => ?_) (fun b' c' e => ?_)
    · split
      · exact (h.wok b' c').leave o
      · exact h.wok b' c'
    · split
      · rw [e]; exact e0_leave o
      · exact e
theorem Sk.Ok.slash {S : Sk} (h : S.Ok) (b f p : Int) : (S.slash b f p).Ok := by
  unfold Sk.slash
  split
  · rename_i hc
    have hr : S.R b = true := by
      unfold Sk.slashC at hc
      by_cases g : S.R b
      · exact g
      · rw [if_neg g] at hc; omega
    refine (h.pool hr ((h.pok b).slash p)).waits (fun b' c' => ?_) (fun b' c' e => ?_)
    · split
      · exact (h.wok b' c').slash p
      · exact h.wok b' c'
    · split
      · rw [show S.W b' c' = e0 from e]; exact e0_slash p
      · exact e
  · exact h
theorem freeN_none (S : Sk) (o c : Int) (h : S.has o c = false) : S.freeN o c = 0 := by
  unfold Sk.freeN
  split
  · rfl
  · refine sumK_zero _ fun k hk => ?_
    split
    · rename_i hc
      unfold Sk.has at h
      have := List.any_eq_false.1 h k hk
      refine if_neg fun e => this ?_
      simp [hc, e]
    · rfl
end Go.Proofs.YtmbfdhekplnoaaaGreatDoor

namespace Go.Proofs.YtmbfdhekplnoaaaGreatDoor

theorem St.join_T {x : St} {o n : Int} (h : x.joinC o n = 0) : (x.join o n).T = x.T + n := by rw [St.join_yes h]; rfl
theorem St.take_T {x : St} {o n : Int} (h : x.takeC o n = 0) : (x.take o n).T = x.T - n := by rw [St.take_yes h]; rfl
theorem St.add_T {x : St} {n : Int} (h : x.addC n = 0) : (x.add n).T = x.T + n := by rw [St.add_yes h]
theorem St.leave_T (x : St) (o : Int) : (x.leave o).T = x.T - x.leaveN o := by
  by_cases h : x.leaveC o = 0
  · rw [(St.leave_yes h).1, (St.leave_yes h).2]; rfl
  · rw [(St.leave_no rfl h).1, (St.leave_no rfl h).2]; omega
theorem St.slash_T (x : St) (p : Int) : (x.slash p).T = x.T - x.slashN p := rfl
theorem Sk.total_pool {S : Sk} {b : Int} (hb : Bk b) (x : St) : (⟨S.R, set1 S.P b x, S.K, S.W⟩ : Sk).total = S.total - (S.P b).T + x.T := by
  have h : b = 0 ∨ b = 1 ∨ b = 2 := by omega
  unfold Sk.total
  rcases h with rfl | rfl | rfl <;> (simp only [set1]; simp; omega)
theorem Sk.Ok.join_total {S : Sk} (h : S.Ok) {o b n : Int} (hc : S.joinC o b n = 0) : (S.join o b n).total = S.total + n := by
  unfold Sk.joinC at hc
  by_cases hr : S.R b
  · rw [if_pos hr] at hc
    unfold Sk.join
    rw [if_pos hr, Sk.total_pool (h.rin b hr), St.join_T hc]; omega
  · rw [if_neg hr] at hc; omega
theorem Sk.join_same {S : Sk} {o b n : Int} (hc : S.joinC o b n ≠ 0) : S.join o b n = S := by
  unfold Sk.joinC at hc
  unfold Sk.join
  by_cases hr : S.R b
  · rw [if_pos hr] at hc ⊢
    rw [St.join_no rfl hc, set1_id S.P b _ rfl]
  · rw [if_neg hr]
theorem Sk.Ok.add_total {S : Sk} (h : S.Ok) {b n : Int} (hc : S.addC b n = 0) : (S.add b n).total = S.total + n := by
  unfold Sk.addC at hc
  by_cases hr : S.R b
  · rw [if_pos hr] at hc
    unfold Sk.add
    rw [if_pos hr, Sk.total_pool (h.rin b hr), St.add_T hc]; omega
  · rw [if_neg hr] at hc; omega
theorem Sk.add_same {S : Sk} {b n : Int} (hc : S.addC b n ≠ 0) : S.add b n = S := by
  unfold Sk.addC at hc
  unfold Sk.add
  by_cases hr : S.R b
  · rw [if_pos hr] at hc ⊢
    rw [St.add_no rfl hc, set1_id S.P b _ rfl]
  · rw [if_neg hr]
theorem sumK_set2 {K : List (Int × Int)} (hn : K.Nodup) (W : Int → Int → St) (b c : Int) (x : St) (h0 : (b, c) ∉ K → W b c = e0) : sumK (keyed2 K b c) (fun i j => (set2 W b c x i j).T) = sumK K (fun i j => (W i j).T) - (W b c).T + x.T := by
  unfold keyed2
  split
  · rename_i h
    have := sumK_one (f := fun i j => (W i j).T) (g := fun i j => (set2 W b c x i j).T) b c K hn h (fun k _ ne => by
      show (set2 W b c x k.1 k.2).T = _
      rw [set2_other _ _ _ _ _ _ ne])
    rw [this]
    show _ - _ + (set2 W b c x b c).T = _
    rw [set2_same]
  · rename_i h
    rw [sumK_append, sumK_congr (f := fun i j => (set2 W b c x i j).T) (g := fun i j => (W i j).T) K (fun k hk => by
      show (set2 W b c x k.1 k.2).T = _
      rw [set2_other _ _ _ _ _ _ (fun e => h (e ▸ hk))])]
    show _ + ((set2 W b c x b c).T + 0) = _
    rw [set2_same, h0 h]
    show _ + (x.T + 0) = _ - (0 : Int) + x.T
    omega
theorem Sk.Ok.leave_total {S : Sk} (h : S.Ok) (o b n c : Int) : (S.leave o b n c).total = S.total := by
  by_cases hc : S.leaveC o b n c = 0
  · obtain ⟨hr, _, ht, hj⟩ := Sk.leaveC_zero hc
    have e : S.leave o b n c = ⟨S.R, set1 S.P b ((S.P b).take o n), keyed2 S.K b c, set2 S.W b c ((S.W b c).join o n)⟩ := if_pos hc
    have t := Sk.total_pool (S := ⟨S.R, S.P, keyed2 S.K b c, set2 S.W b c ((S.W b c).join o n)⟩) (h.rin b hr) ((S.P b).take o n)
    have u := sumK_set2 h.knd S.W b c ((S.W b c).join o n) (h.wout b c)
    rw [e]
    refine t.trans ?_
    have v : (⟨S.R, S.P, keyed2 S.K b c, set2 S.W b c ((S.W b c).join o n)⟩ : Sk).total = (S.P 0).T + (S.P 1).T + (S.P 2).T + sumK (keyed2 S.K b c) (fun i j => (set2 S.W b c ((S.W b c).join o n) i j).T) := rfl
    rw [v, u, St.join_T hj, St.take_T ht]
    unfold Sk.total
    show _ - (S.P b).T + _ = _
    omega
  · have e : S.leave o b n c = S := if_neg hc
    rw [e]
theorem sumK_split (K : List (Int × Int)) (f f' g : Int → Int → Int) (h : ∀ b c, f' b c = f b c - g b c) : sumK K f' = sumK K f - sumK K g := by
  have := sumK_add f' g K
  rw [sumK_congr (f := fun b c => f' b c + g b c) (g := f) K (fun k _ => by show f' k.1 k.2 + g k.1 k.2 = f k.1 k.2; rw [h]; omega)] at this
  omega
theorem Sk.free_total (S : Sk) (o c : Int) : (S.free o c).total = S.total - S.freeN o c := by
  unfold Sk.free Sk.freeN
  split
  · omega
  · have := sumK_split S.K (fun b' c' => (S.W b' c').T) (fun b' c' => (if c' + 2 < c then (S.W b' c').leave o else S.W b' c').T) (fun b' c' => if c' + 2 < c then (S.W b' c').leaveN o else 0) (fun b' c' => by
      split
      · exact St.leave_T _ _
      · omega)
    unfold Sk.total
    simp only []
    omega
theorem Sk.Ok.freeN_nn {S : Sk} (h : S.Ok) (o c : Int) : 0 ≤ S.freeN o c := by
  unfold Sk.freeN
  split
  · exact Int.le_refl _
  · refine sumK_nonneg _ fun k _ => ?_
    split
    · unfold St.leaveN
      split
      · exact (h.wok _ _).val0 o
      · exact Int.le_refl _
    · exact Int.le_refl _
theorem Sk.Ok.slash_total {S : Sk} (h : S.Ok) (b f p : Int) : (S.slash b f p).total = S.total - S.slashN b f p := by
  unfold Sk.slash Sk.slashN
  by_cases hc : S.slashC b p = 0
  · rw [if_pos hc, if_pos hc]
    have hr : S.R b = true := by
      unfold Sk.slashC at hc
      by_cases g : S.R b
      · exact g
      · rw [if_neg g] at hc; omega
    have t := Sk.total_pool (S := ⟨S.R, S.P, S.K, fun b' c' => if b' = b ∧ f ≤ c' then (S.W b' c').slash p else S.W b' c'⟩) (h.rin b hr) ((S.P b).slash p)
    refine t.trans ?_
    have u := sumK_split S.K (fun b' c' => (S.W b' c').T) (fun b' c' => (if b' = b ∧ f ≤ c' then (S.W b' c').slash p else S.W b' c').T) (fun b' c' => if b' = b ∧ f ≤ c' then (S.W b' c').slashN p else 0) (fun b' c' => by
      split
      · exact St.slash_T _ _
      · omega)
    have v : (⟨S.R, S.P, S.K, fun b' c' => if b' = b ∧ f ≤ c' then (S.W b' c').slash p else S.W b' c'⟩ : Sk).total = (S.P 0).T + (S.P 1).T + (S.P 2).T + sumK S.K (fun b' c' => (if b' = b ∧ f ≤ c' then (S.W b' c').slash p else S.W b' c').T) := rfl
    rw [v, u, St.slash_T]
    unfold Sk.total
    show _ - (S.P b).T + _ = _
    omega
  · rw [if_neg hc, if_neg hc]; omega
theorem Sk.Ok.slashN_nn {S : Sk} (h : S.Ok) (b f p : Int) : 0 ≤ S.slashN b f p := by
  unfold Sk.slashN
  split
  · have := ((h.pok b).slashN_bd p).1
    have := sumK_nonneg (f := fun b' c' => if b' = b ∧ f ≤ c' then (S.W b' c').slashN p else 0) S.K (fun k _ => by
      show 0 ≤ ite _ _ _
      split
      · exact ((h.wok _ _).slashN_bd p).1
      · exact Int.le_refl _)
    omega
  · exact Int.le_refl _
end Go.Proofs.YtmbfdhekplnoaaaGreatDoor

namespace Go.Proofs.YtmbfdhekplnoaaaGreatDoor

theorem leave_len (S : Sk) (o b n c : Int) : (S.leave o b n c).K.length ≤ S.K.length + 1 := by
  unfold Sk.leave
  split
  · exact keyed2_len S.K b c
  · exact Nat.le_succ _
end Go.Proofs.YtmbfdhekplnoaaaGreatDoor

namespace Go.Proofs.YtmbfdhekplnoaaaGreatDoor

def wtOf (n : Int) : Int := if n < 100 then 0 else if 1073741824 < n then 1073741824 else n
def Sk.pic (S : Sk) (i : Nat) : Int := wtOf (S.P i).T
end Go.Proofs.YtmbfdhekplnoaaaGreatDoor

namespace Go.Proofs.YtmbfdhekplnoaaaGreatDoor

abbrev Ev : Type := Int × Int × Int
abbrev Cs : Type := Int × Ev
structure Ct where
  L : List Cs
  done : Nat
abbrev AccIn (o : Int) (e : Ev) (c : Int) : Prop := (0 ≤ o ∧ o < 6) ∧ (0 ≤ e.1 ∧ e.1 < 3) ∧ 0 ≤ e.2.2 ∧ 0 ≤ c ∧ c ≤ 1048576
abbrev AccNow (e : Ev) (c : Int) : Prop := 0 ≤ e.2.1 ∧ e.2.1 ≤ c ∧ c - 2 ≤ e.2.1
def Ct.seen (x : Ct) (e : Ev) : Bool := x.L.any fun t => decide (t.2 = e)
def Ct.accC (x : Ct) (o : Int) (e : Ev) (c : Int) : Int := if ¬ AccIn o e c then 2 else if ¬ AccNow e c then 10 else if x.seen e then 5 else 0
def Ct.acc (x : Ct) (o : Int) (e : Ev) (c : Int) : Ct := if x.accC o e c = 0 then ⟨x.L ++ [(o, e)], x.done⟩ else x
def Ct.due (x : Ct) : List Cs := x.L.drop x.done
def Ct.asked (x : Ct) : Ct := ⟨x.L, x.L.length⟩
structure Ct.Ok (x : Ct) : Prop where
  le : x.done ≤ x.L.length
  once : (x.L.map (·.2)).Nodup
theorem ct0_ok : (⟨[], 0⟩ : Ct).Ok := ⟨Nat.le_refl _, List.nodup_nil⟩
theorem Ct.seen_iff (x : Ct) (e : Ev) : x.seen e = true ↔ e ∈ x.L.map (·.2) := by
  unfold Ct.seen
  rw [List.any_eq_true, List.mem_map]
  exact ⟨fun ⟨t, h, g⟩ => ⟨t, h, of_decide_eq_true g⟩, fun ⟨t, h, g⟩ => ⟨t, h, decide_eq_true g⟩⟩
theorem Ct.accC_zero {x : Ct} {o : Int} {e : Ev} {c : Int} (h : x.accC o e c = 0) : AccIn o e c ∧ AccNow e c ∧ x.seen e = false := by
  unfold Ct.accC at h
  by_cases h1 : AccIn o e c
  · rw [if_neg (not_not_intro h1)] at h
    by_cases h2 : AccNow e c
    · rw [if_neg (not_not_intro h2)] at h
      cases h3 : x.seen e with
      | false => exact ⟨h1, h2, rfl⟩
      | true => rw [h3] at h; simp at h
    · rw [if_pos h2] at h; omega
  · rw [if_pos h1] at h; omega
theorem Ct.Ok.acc {x : Ct} (h : x.Ok) (o : Int) (e : Ev) (c : Int) : (x.acc o e c).Ok := by
  unfold Ct.acc
  split
  · rename_i hc
    obtain ⟨_, _, hs⟩ := Ct.accC_zero hc
    refine ⟨by show x.done ≤ (x.L ++ [(o, e)]).length; rw [List.length_append]; have := h.le; omega, ?_⟩
    show ((x.L ++ [(o, e)]).map (·.2)).Nodup
    rw [List.map_append]
    refine List.nodup_append.2 ⟨h.once, by simp, fun a ha b hb g => ?_⟩
    have : b = e := by simpa using hb
    subst this
    subst g
    have := (Ct.seen_iff x a).2 ha
    rw [hs] at this
    cases this
  · exact h
theorem Ct.Ok.asked {x : Ct} (h : x.Ok) : x.asked.Ok := ⟨Nat.le_refl _, h.once⟩
end Go.Proofs.YtmbfdhekplnoaaaGreatDoor

namespace Go.Proofs.YtmbfdhekplnoaaaGreatDoor

abbrev isAmt (n : Int) : Prop := 0 ≤ n ∧ n ≤ 1125899906842624
abbrev RatioOk (s t : Int) : Prop := isAmt s ∧ 1 ≤ t ∧ t ≤ 1125899906842624 ∧ s ≤ t
def ratioC (s t : Int) : Int := if RatioOk s t then 0 else 2
def ratioN (s t : Int) : Int := if RatioOk s t then s * 1000000 / t else 0
abbrev RateOk (r b : Int) : Prop := (0 ≤ r ∧ r ≤ 1000000) ∧ 0 ≤ b ∧ b ≤ 5000
def rateC (r b : Int) : Int := if RateOk r b then 0 else 2
def bendR (r : Int) : Int := if r < 250000 then 40000 + -20000 * r / 250000 else if r < 500000 then 20000 + -10000 * (r - 250000) / 250000 else if r < 1000000 then 10000 + -5000 * (r - 500000) / 500000 else 5000
def rateN (r b : Int) : Int := if RateOk r b then bendR r + b else 0
def bonusV (b r : Int) : Int := if r < 480000 then (if b + 100 < 5000 then b + 100 else 5000) else if 520000 < r then (if 0 < b - 100 then b - 100 else 0) else b
def bonusN (b r : Int) : Int := if RateOk r b then bonusV b r else 0
abbrev RewardOk (s r : Int) : Prop := isAmt s ∧ 0 ≤ r ∧ r ≤ 1000000
def rewardC (s r : Int) : Int := if RewardOk s r then 0 else 2
def rewardN (s r : Int) : Int := if RewardOk s r then s * r / 1000000 / 4 else 0

theorem bendR_bd {r : Int} (h0 : 0 ≤ r) (h1 : r ≤ 1000000) : 5000 ≤ bendR r ∧ bendR r ≤ 40000 := by
  unfold bendR
  split
  · omega
  · split
    · omega
    · split <;> omega
theorem bonusV_bd {b r : Int} (h0 : 0 ≤ b) (h1 : b ≤ 5000) : 0 ≤ bonusV b r ∧ bonusV b r ≤ 5000 := by
  unfold bonusV
  split
  · split <;> omega
  · split
    · split <;> omega
    · omega
theorem ratio_bd {s t : Int} (h : RatioOk s t) : 0 ≤ s * 1000000 / t ∧ s * 1000000 / t ≤ 1000000 := by
  obtain ⟨⟨s0, _⟩, t1, _, st⟩ := h
  refine ⟨Int.ediv_nonneg (by omega) (by omega), ?_⟩
  have : s * 1000000 / t ≤ t * 1000000 / t := Int.ediv_le_ediv (by omega) (by omega)
  rw [Int.mul_comm t, Int.mul_ediv_cancel _ (by omega)] at this
  exact this
theorem reward_bd {s r : Int} (h : RewardOk s r) : 0 ≤ s * r / 1000000 ∧ s * r / 1000000 ≤ s := by
  obtain ⟨⟨s0, _⟩, r0, r1⟩ := h
  have g0 : 0 ≤ s * r := Int.mul_nonneg s0 r0
  have g1 : s * r ≤ s * 1000000 := Int.mul_le_mul_of_nonneg_left r1 s0
  omega
theorem reward_part {s r : Int} (s0 : 0 ≤ s) (r0 : 0 ≤ r) (r1 : r ≤ 45000) : s * r / 1000000 / 4 * 4 ≤ s / 20 := by
  have g0 : 0 ≤ s * r := Int.mul_nonneg s0 r0
  have g1 : s * r ≤ s * 45000 := Int.mul_le_mul_of_nonneg_left r1 s0
  omega
end Go.Proofs.YtmbfdhekplnoaaaGreatDoor
