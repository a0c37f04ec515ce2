/-
  What my texts lean on: the program, and the library's walk.
  The rows, and what the library has for them.
  Small facts on worlds.
  Worlds that are alike but for some blocks.
  Numbers laid one behind another.
  A slice of numbers that came in: what its reading gives a walk.
  Lots, plainly (after STEELE): a word that grows by an odd number, mixed so that no two are alike; how long it takes till it is 0.
  A uint64 that came in, as a natural number.
-/
import Derived.Test.YtmbfdhekplnoaaaDoorProg
import Derived.WalkKit
import Derived.OwnWalk
import Derived.Outline
import Derived.Deep.QuietTactic
import Derived.BigQuiet
import Derived.Below
import Derived.Test.YtmbfdhekplnoaaaDoorRows
import Derived.ChangeSame
import Derived.ChangeVars
import Derived.JoinedOf
import Derived.RowKit
import Derived.RowKitTokens
import Derived.LaidLaws
import Derived.LaidHandle
import Derived.Stop.Joined
import Derived.Stop.LaidErr
import Derived.ProofKit
import Derived.LaidMore
import Derived.OpenShut
import Derived.Carry
import Derived.ChangeSlices




namespace Go.Proofs.YtmbfdhekplnoaaaDoor
open Go.RowKit

theorem below_drewN {B : Nat} {a w : World} (h : Below B a w) (n : Nat) : Below B a (w.drewN n) := ⟨h.os, h.tape, h.output, h.size, h.block⟩
theorem hide {p : Prop} (h : p) : Hid p := h
theorem cell_new (W : World) (cs : Array Value) (t : TypeId) (n i : Nat) (v : Value) (h : n = W.heap.size) (hv : cs[i]? = some v) : (W.alloc (.cells cs t)).cell? ⟨n, i, none⟩ = some v := by
  subst h
  rw [World.cell?_alloc_at _ _ _ _ rfl]
  exact hv
theorem cell_lt {W : World} {a : Addr} {v : Value} (h : W.cell? a = some v) : a.block < W.heap.size := by
  rcases Nat.lt_or_ge a.block W.heap.size with g | g
  · exact g
  · simp [World.cell?, Array.getElem?_eq_none g] at h
theorem add_plain (b off n : Nat) : (⟨b, off, none⟩ : Addr).add n = ⟨b, off + n, none⟩ := by
  rcases Nat.eq_zero_or_pos n with h | h
  · subst h; simp [Addr.add]
  · have : ¬ n = 0 := by omega
    simp [Addr.add, this]
def Bare (w : World) (a : Addr) : Prop := ∃ c t, w.heap[a.block]? = some (.cells c t (0, 0))
def Plain (w : World) (a : Addr) : Prop := ∃ c t f, w.heap[a.block]? = some (.cells c t f) ∧ (f = (0, 0) ∨ (0 < c.size ∧ f = (0, c.size)))
def Mates (w : World) (a b : Addr) : Prop := Bare w a ∨ Bare w b ∨ a.block = b.block
theorem Bare.plain {w : World} {a : Addr} (h : Bare w a) : Plain w a := by
  obtain ⟨c, t, h⟩ := h
  exact ⟨c, t, _, h, .inl rfl⟩
theorem Plain.lt {w : World} {a : Addr} (h : Plain w a) : a.block < w.heap.size := by
  obtain ⟨c, t, f, h, _⟩ := h
  rcases Nat.lt_or_ge a.block w.heap.size with g | g
  · exact g
  · simp [Array.getElem?_eq_none g] at h
theorem Plain.below {w w' : World} {a : Addr} (h : Plain w a) (hB : Below w.heap.size w w') : Plain w' a := by
  have l := h.lt
  obtain ⟨c, t, f, h, q⟩ := h
  exact ⟨c, t, f, by rw [hB.block _ l]; exact h, q⟩
theorem Bare.below {w w' : World} {a : Addr} (h : Bare w a) (hB : Below w.heap.size w w') : Bare w' a := by
  have l := h.plain.lt
  obtain ⟨c, t, h⟩ := h
  exact ⟨c, t, by rw [hB.block _ l]; exact h⟩
theorem Mates.below {w w' : World} {a b : Addr} (h : Mates w a b) (hB : Below w.heap.size w w') : Mates w' a b :=
  h.imp (·.below hB) fun q => q.imp (·.below hB) id
theorem run_apart {P : Program} (w : World) {a b : Addr} (hne : a ≠ b) (ha : Plain w a) (hb : Plain w b) (hm : Mates w a b) : (sameAddr a b).run P w = .ok false w := by
  by_cases hbl : a.block = b.block
  · simp [sameAddr, hbl, hne]
  · obtain ⟨ca, ta, fa, ha, qa⟩ := ha
    obtain ⟨cb, tb, fb, hb, qb⟩ := hb
    have one : fa = (0, 0) ∨ fb = (0, 0) := by
      rcases hm with ⟨c, t, h⟩ | ⟨c, t, h⟩ | h
      · rw [ha] at h; exact .inl (Obj.cells.inj (Option.some.inj h)).2.2
      · rw [hb] at h; exact .inr (Obj.cells.inj (Option.some.inj h)).2.2
      · exact absurd h hbl
    rcases one with rfl | rfl
    · rcases qb with rfl | ⟨n, rfl⟩
      · simp [sameAddr, hbl, World.frozen?, ha, hb, noView, viewAt, World.shape?, mayBeOne, stringish]
      · have nz : cb.size ≠ 0 := by omega
        by_cases l : b.off < cb.size <;> simp [sameAddr, hbl, World.frozen?, ha, hb, noView, viewAt, World.shape?, mayBeOne, stringish, l, nz]
    · rcases qa with rfl | ⟨n, rfl⟩
      · simp [sameAddr, hbl, World.frozen?, ha, hb, noView, viewAt, World.shape?, mayBeOne, stringish]
      · have nz : ca.size ≠ 0 := by omega
        by_cases l : a.off < ca.size <;> simp [sameAddr, hbl, World.frozen?, ha, hb, noView, viewAt, World.shape?, mayBeOne, stringish, l, nz]
theorem old_cell {w w' : World} (hB : Below w.heap.size w w') {a : Addr} {v : Value} (h : w.cell? a = some v) : w'.cell? a = some v := by
  rw [hB.cell (cell_lt h)]; exact h
end Go.Proofs.YtmbfdhekplnoaaaDoor

namespace Go.Proofs.YtmbfdhekplnoaaaDoor
open Go.RowKit

structure Kept (X : List Nat) (w w' : World) : Prop where
  os : w'.os = w.os
  tape : w'.tape = w.tape
  output : w'.output = w.output
  size : w.heap.size ≤ w'.heap.size
  block : ∀ k, k < w.heap.size → k ∉ X → w'.heap[k]? = w.heap[k]?
theorem Kept.refl (X : List Nat) (w : World) : Kept X w w := ⟨rfl, rfl, rfl, Nat.le_refl _, fun _ _ _ => rfl⟩
theorem Kept.trans {X : List Nat} {a b c : World} (h : Kept X a b) (k : Kept X b c) : Kept X a c :=
  ⟨k.os.trans h.os, k.tape.trans h.tape, k.output.trans h.output, Nat.le_trans h.size k.size, fun i hi hx => (k.block i (Nat.lt_of_lt_of_le hi h.size) hx).trans (h.block i hi hx)⟩
theorem Kept.setCell {X : List Nat} {a w : World} (h : Kept X a w) {p : Addr} (hp : p.block ∈ X) (u : Value) : Kept X a (w.setCell p u) :=
  h.trans ⟨rfl, rfl, rfl, by simp [World.setCell], fun k _ hk => Below.heap_setCell _ _ _ _ (fun e => hk (by rw [e]; exact hp))⟩
theorem Kept.below {X : List Nat} {B : Nat} {w w' : World} (h : Kept X w w') (hB : B ≤ w.heap.size) (hX : ∀ k, k ∈ X → B ≤ k) : Below B w w' :=
  ⟨h.os, h.tape, h.output, h.size, fun k hk => h.block k (by omega) (fun g => by have := hX k g; omega)⟩
theorem Kept.cell {X : List Nat} {w w' : World} (h : Kept X w w') {p : Addr} (hp : p.block < w.heap.size) (hx : p.block ∉ X) : w'.cell? p = w.cell? p := World.cell?_of_block (w := w) (h.block p.block hp hx)
theorem Kept.frozen {X : List Nat} {w w' : World} (h : Kept X w w') {p : Addr} (hp : p.block < w.heap.size) (hx : p.block ∉ X) : w'.frozen? p = w.frozen? p := World.frozen?_of_block (w := w) (h.block p.block hp hx)
theorem Kept.old {X : List Nat} {w w' : World} (h : Kept X w w') {p : Addr} {v : Value} (hc : w.cell? p = some v) (hx : p.block ∉ X) : w'.cell? p = some v := by rw [h.cell (cell_lt hc) hx]; exact hc
theorem ret_int {k : IntKind} {a b : Int} (h : a = b) : Ending.returned (.int k a) = .returned (.int k b) := by rw [h]
theorem ret_pair {k : IntKind} {a b : Int} (h : a = b) (v : Value) : Ending.returned (.tuple #[.int k a, v]) = .returned (.tuple #[.int k b, v]) := by rw [h]
end Go.Proofs.YtmbfdhekplnoaaaDoor

namespace Go.Proofs.YtmbfdhekplnoaaaDoor
open Go.RowKit

def Ints (w : World) (b off n : Nat) (W : Nat → Int) : Prop := ∀ i, i < n → w.cell? ⟨b, off + i, none⟩ = some (.int .i64 (W i))
theorem Ints.below {w w' : World} {b off n B : Nat} {W : Nat → Int} (h : Ints w b off n W) (hB : Below B w w') (hb : b < B) : Ints w' b off n W := fun i hi => by rw [hB.cell (p := ⟨b, off + i, none⟩) hb]; exact h i hi
end Go.Proofs.YtmbfdhekplnoaaaDoor

namespace Go.Proofs.YtmbfdhekplnoaaaDoor
open Go.ChangeShapes Go.WideShapes Go.ChangeAt Go.RowKit

theorem Tryd.cellsOfInt : Tryd.prog.cellsOf 3 = 1 := by kernel_rfl
def IsInts (W : World) (a : Option Addr) (len cap : Nat) : Prop :=
  (len = 0) ∨ ∃ (b off : Nat) (X : Nat → Int), a = some ⟨b, off, none⟩ ∧ b < W.heap.size ∧ len ≤ cap ∧ cap ≤ 9223372036854775807 ∧ Ints W b off len X ∧ ∀ i, i < len → (Lit.int .i64 (X i)).wf = true
set_option maxRecDepth 100000 in
theorem ints_of {H : Type} {enc : TypeId × Value → H} {W : World} {a : Option Addr} {len cap : Nat} {d : DataW H} {p : List MemPlace}
    (h : DataW.Trod enc Tryd.prog W 0 (fun _ => true) true 22 (.slice a len cap) d p) : IsInts W a len cap := by
  obtain ⟨fuel, hf⟩ := h
  rcases Nat.eq_zero_or_pos len with h0 | h0
  · exact .inl h0
  rcases open_ints Tryd.underlying22 Tryd.underlying3 Tryd.cellsOfInt hf with ⟨hcs, _⟩ | ⟨x, l, c, zs, hcs, _, hl, hm, hz, _, hx, hw⟩
  · simp [Value.cells] at hcs
    omega
  · simp [Value.cells] at hcs
    obtain ⟨rfl, rfl, rfl⟩ := hcs
    have hz' : zs.length = cap := by simpa using hz
    obtain ⟨b, off, spot⟩ := x
    have hc0 := hx 0 (by omega)
    have hspot : spot = none := by simpa [Addr.add] using World.cell?_spot hc0
    subst hspot
    refine .inr ⟨b, off, fun i => zs.getD i 0, rfl, cell_lt hc0, hl, hm, fun i hi => ?_, fun i hi => ?_⟩
    · have := hx i (by omega)
      rw [add_plain] at this
      exact this
    · refine hw _ ?_
      show zs.getD i 0 ∈ zs
      rw [List.getD_eq_getElem?_getD, List.getElem?_eq_getElem (by omega), Option.getD_some]
      exact List.getElem_mem _
end Go.Proofs.YtmbfdhekplnoaaaDoor

namespace Go.Proofs.YtmbfdhekplnoaaaDoor

abbrev W64 : Nat := 18446744073709551616
def xs (k z : Nat) : Nat := z ^^^ (z >>> k)
theorem xs_lt (k z : Nat) (hz : z < W64) : xs k z < W64 := by
  unfold xs
  refine Nat.xor_lt_two_pow (n := 64) hz ?_
  rw [Nat.shiftRight_eq_div_pow]
  exact Nat.lt_of_le_of_lt (Nat.div_le_self _ _) hz
theorem mul_inj (c c' a b : Nat) (hc : c * c' % W64 = 1) (ha : a < W64) (hb : b < W64) (h : a * c % W64 = b * c % W64) : a = b := by
  have back : ∀ z, z < W64 → z * c % W64 * c' % W64 = z := fun z hz => by
    rw [Nat.mod_mul_mod, Nat.mul_assoc, ← Nat.mul_mod_mod, hc, Nat.mul_one, Nat.mod_eq_of_lt hz]
  rw [← back a ha, h, back b hb]

def mixN (z : Nat) : Nat := xs 31 (xs 27 (xs 30 z * 13787848793156543929 % W64) * 10723151780598845931 % W64)
theorem mixN_lt (z : Nat) : mixN z < W64 := xs_lt _ _ (Nat.mod_lt _ (by decide))
theorem mixN_zero : mixN 0 = 0 := by decide

theorem mod_cancel (s x y : Nat) (h : (s + x) % W64 = (s + y) % W64) : x % W64 = y % W64 := by
  have h' : (s + x) % 18446744073709551616 = (s + y) % 18446744073709551616 := h
  show x % 18446744073709551616 = y % 18446744073709551616
  omega

def stN (seed i : Nat) : Nat := (seed + i * 11400714819323198485) % W64
theorem stN_inj (seed i j : Nat) (hi : i < W64) (hj : j < W64) (h : stN seed i = stN seed j) : i = j := by
  refine mul_inj 11400714819323198485 17428512612931826493 i j (by decide) hi hj ?_
  exact mod_cancel seed _ _ h
def toZero (s : Nat) : Nat := if s = 0 then W64 else (W64 - s) * 17428512612931826493 % W64
theorem toZero_hits (s : Nat) (hs : s < W64) : (s + toZero s * 11400714819323198485) % W64 = 0 ∧ 1 ≤ toZero s ∧ toZero s ≤ W64 := by
  unfold toZero
  by_cases h : s = 0
  · rw [if_pos h, h]
    refine ⟨?_, by decide, Nat.le_refl _⟩
    rw [Nat.zero_add, Nat.mul_comm, Nat.mul_mod_left]
  · rw [if_neg h]
    have e : (W64 - s) * 17428512612931826493 % W64 * 11400714819323198485 % W64 = W64 - s := by
      rw [Nat.mod_mul_mod, Nat.mul_assoc, ← Nat.mul_mod_mod, show 17428512612931826493 * 11400714819323198485 % W64 = 1 by decide, Nat.mul_one, Nat.mod_eq_of_lt (by omega)]
    refine ⟨?_, ?_, Nat.le_of_lt (Nat.mod_lt _ (by decide))⟩
    · rw [← Nat.add_mod_mod, e, Nat.add_sub_cancel' (by omega), Nat.mod_self]
    · rcases Nat.eq_zero_or_pos ((W64 - s) * 17428512612931826493 % W64) with g | g
      · rw [g, Nat.zero_mul, Nat.zero_mod] at e; omega
      · exact g
theorem toZero_falls (s : Nat) (hs : s < W64) (hn : (s + 11400714819323198485) % W64 ≠ 0) : toZero ((s + 11400714819323198485) % W64) < toZero s := by
  obtain ⟨h1, h2, h3⟩ := toZero_hits s hs
  have hs' : (s + 11400714819323198485) % W64 < W64 := Nat.mod_lt _ (by decide)
  obtain ⟨g1, g2, g3⟩ := toZero_hits _ hs'
  have gne : toZero ((s + 11400714819323198485) % W64) < W64 := by
    unfold toZero
    rw [if_neg hn]
    exact Nat.mod_lt _ (by decide)
  generalize toZero s = k at *
  generalize toZero ((s + 11400714819323198485) % W64) = k' at *
  obtain ⟨m, rfl⟩ : ∃ m, k = m + 1 := ⟨k - 1, by omega⟩
  have e : stN ((s + 11400714819323198485) % W64) m = 0 := by
    unfold stN
    rw [Nat.mod_add_mod, Nat.add_assoc, Nat.add_comm 11400714819323198485, ← h1, Nat.add_mul, Nat.one_mul]
  have e' : stN ((s + 11400714819323198485) % W64) k' = 0 := g1
  have := stN_inj _ k' m gne (by omega) (e'.trans e.symm)
  omega
end Go.Proofs.YtmbfdhekplnoaaaDoor

namespace Go.Proofs.YtmbfdhekplnoaaaDoor

theorem u64_nat {x : Int} (h : (Lit.int .u64 x).wf = true) : ∃ s : Nat, x = s ∧ s < W64 := by
  have h' : 0 ≤ x ∧ x ≤ 18446744073709551615 := by
    simpa [Lit.wf, IntKind.min, IntKind.max, IntKind.signed, IntKind.bits] using h
  exact ⟨x.toNat, by omega, by show x.toNat < 18446744073709551616; omega⟩
end Go.Proofs.YtmbfdhekplnoaaaDoor
