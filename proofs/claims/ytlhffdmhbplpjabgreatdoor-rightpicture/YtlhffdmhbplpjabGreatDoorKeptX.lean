/-
  A slice of acts on stakes that came in: what its reading gives a walk.
  Worlds that are alike but for some blocks.
-/
import Derived.Test.YtlhffdmhbplpjabGreatDoorRowLibX
import Derived.Deep.SlicePairs
namespace Go.Proofs.YtlhffdmhbplpjabGreatDoor
open Go.ChangeShapes Go.WideShapes Go.ChangeAt Go.RowKit

theorem Tryz.cellsAct2 : Tryz.prog.cellsOf 30 = 5 := by kernel_rfl
theorem Tryz.cellsInt5 : Tryz.prog.cellsOf 3 = 1 := by kernel_rfl
theorem Tryz.cellsString5 : Tryz.prog.cellsOf 9 = 1 := by kernel_rfl
/-- one act, as it lies -/
structure ActAt (w : World) (b off : Nat) (K : ByteArray) (O C N Y : Int) : Prop where
  c0 : w.cell? ⟨b, off, none⟩ = some (.string K)
  c1 : w.cell? ⟨b, off + 1, none⟩ = some (.int .i64 O)
  c2 : w.cell? ⟨b, off + 2, none⟩ = some (.int .i64 C)
  c3 : w.cell? ⟨b, off + 3, none⟩ = some (.int .i64 N)
  c4 : w.cell? ⟨b, off + 4, none⟩ = some (.int .i64 Y)
  wO : (Lit.int .i64 O).wf = true
  wC : (Lit.int .i64 C).wf = true
  wN : (Lit.int .i64 N).wf = true
  wY : (Lit.int .i64 Y).wf = true
/-- so many acts laid one behind another -/
def Acts2 (w : World) (b off len : Nat) : Prop := ∀ i, i < len → ∃ K O C N Y, ActAt w b (off + i * 5) K O C N Y
theorem Acts2.below {w w' : World} {b off len B : Nat} (h : Acts2 w b off len) (hB : Below B w w') (hb : b < B) : Acts2 w' b off len := fun i hi => by
  obtain ⟨K, O, C, N, Y, a⟩ := h i hi
  have e : ∀ k, w'.cell? ⟨b, k, none⟩ = w.cell? ⟨b, k, none⟩ := fun k => hB.cell (p := ⟨b, k, none⟩) hb
  exact ⟨K, O, C, N, Y, (e _).trans a.c0, (e _).trans a.c1, (e _).trans a.c2, (e _).trans a.c3, (e _).trans a.c4, a.wO, a.wC, a.wN, a.wY⟩
/-- empty, or so many acts one behind another -/
def IsActs2 (W : World) (a : Option Addr) (len cap : Nat) : Prop :=
  (len = 0) ∨ ∃ (b off : Nat), a = some ⟨b, off, none⟩ ∧ b < W.heap.size ∧ len ≤ cap ∧ cap ≤ 9223372036854775807 ∧ Acts2 W b off len
set_option maxRecDepth 100000 in
theorem acts2_of {H : Type} {enc : TypeId × Value → H} {W : World} {a : Option Addr} {len cap : Nat} {d : DataW H} {p : List MemPlace}
    (h : DataW.Trod enc Tryz.prog W 0 (fun _ => true) true 22 (.slice a len cap) d p) : IsActs2 W a len cap := by
  obtain ⟨fuel, hf⟩ := h
  rcases Nat.eq_zero_or_pos len with h0 | h0
  · exact .inl h0
  rcases Deep.open_slice Tryz.underlying22 hf with ⟨hcs, _⟩ | ⟨x, l, c, m, n, D, Pl, hcs, _, hl, hm, hmm, _, hx⟩
  · simp [Value.cells] at hcs
    omega
  · simp [Value.cells] at hcs
    obtain ⟨rfl, rfl, rfl⟩ := hcs
    have hm' : m = cap := by simpa using hmm
    subst hm'
    have each : ∀ i, i < m → ∃ (s : ByteArray) (o k u v : Int), W.cell? (x.add (i * 5)) = some (.string s) ∧ W.cell? (x.add (i * 5 + 1)) = some (.int .i64 o) ∧ W.cell? (x.add (i * 5 + 2)) = some (.int .i64 k) ∧ W.cell? (x.add (i * 5 + 3)) = some (.int .i64 u) ∧ W.cell? (x.add (i * 5 + 4)) = some (.int .i64 v) ∧ (Lit.int .i64 o).wf = true ∧ (Lit.int .i64 k).wf = true ∧ (Lit.int .i64 u).wf = true ∧ (Lit.int .i64 v).wf = true := by
      intro i hi
      obtain ⟨cs', h1, h2⟩ := hx i hi
      rw [Tryz.cellsAct2] at h1
      obtain ⟨_, hlen, hcell⟩ := World.cells?_some h1
      obtain ⟨xs, k, hk, hxy, _, hxl, hf'⟩ := DataW.trod_struct Tryz.underlying30 h2
      match xs, hxl, cs', hlen with
      | [y0, y1, y2, y3, y4], _, [v0, v1, v2, v3, v4], _ =>
        have g0 := hf' 0 _ rfl
        have g1 := hf' 1 _ rfl
        have g2 := hf' 2 _ rfl
        have g3 := hf' 3 _ rfl
        have g4 := hf' 4 _ rfl
        simp [Tryz.cellsInt5, Tryz.cellsString5] at g0 g1 g2 g3 g4
        obtain ⟨s, e0, _, _⟩ := DataW.trod_string Tryz.underlying9 g0
        obtain ⟨u1, e1, _, w1⟩ := DataW.trod_int Tryz.underlying3 g1
        obtain ⟨u2, e2, _, w2⟩ := DataW.trod_int Tryz.underlying3 g2
        obtain ⟨u3, e3, _, w3⟩ := DataW.trod_int Tryz.underlying3 g3
        obtain ⟨u4, e4, _, w4⟩ := DataW.trod_int Tryz.underlying3 g4
        have c0 := hcell 0 (by omega)
        have c1 := hcell 1 (by omega)
        have c2 := hcell 2 (by omega)
        have c3 := hcell 3 (by omega)
        have c4 := hcell 4 (by omega)
        rw [Deep.add_add] at c0 c1 c2 c3 c4
        simp at e0 e1 e2 e3 e4
        subst e0 e1 e2 e3 e4
        exact ⟨s, u1, u2, u3, u4, by simpa using c0, by simpa using c1, by simpa using c2, by simpa using c3, by simpa using c4, w1, w2, w3, w4⟩
    obtain ⟨b, off, spot⟩ := x
    have hc0 := (each 0 (by omega)).choose_spec.choose_spec.choose_spec.choose_spec.choose_spec.1
    have hspot : spot = none := by simpa [Addr.add] using World.cell?_spot hc0
    subst hspot
    refine .inr ⟨b, off, rfl, cell_lt hc0, hl, hm, fun i hi => ?_⟩
    obtain ⟨s, u1, u2, u3, u4, c0, c1, c2, c3, c4, w1, w2, w3, w4⟩ := each i (by omega)
    rw [add_plain] at c0 c1 c2 c3 c4
    rw [← Nat.add_assoc] at c1 c2 c3 c4
    exact ⟨s, u1, u2, u3, u4, c0, c1, c2, c3, c4, w1, w2, w3, w4⟩
end Go.Proofs.YtlhffdmhbplpjabGreatDoor

namespace Go.Proofs.YtlhffdmhbplpjabGreatDoor
open Go.RowKit

/-- of what was there only these blocks may have turned -/
structure Kept (X : List Nat) (w w' : World) : Prop where
  os : w'.os = w.os
  tape : w'.tape = w.tape
  output : w'.output = w.output
  size : w.heap.size ≤ w'.heap.size
  block : ∀ k, k < w.heap.size → k ∉ X → w'.heap[k]? = w.heap[k]?
theorem Kept.refl (X : List Nat) (w : World) : Kept X w w := ⟨rfl, rfl, rfl, Nat.le_refl _, fun _ _ _ => rfl⟩
theorem Kept.trans {X : List Nat} {a b c : World} (h : Kept X a b) (k : Kept X b c) : Kept X a c :=
  ⟨k.os.trans h.os, k.tape.trans h.tape, k.output.trans h.output, Nat.le_trans h.size k.size, fun i hi hx => (k.block i (Nat.lt_of_lt_of_le hi h.size) hx).trans (h.block i hi hx)⟩
theorem Kept.mono {X Y : List Nat} {a b : World} (h : Kept X a b) (hs : ∀ k, k ∈ X → k ∈ Y) : Kept Y a b :=
  ⟨h.os, h.tape, h.output, h.size, fun i hi hx => h.block i hi (fun g => hx (hs i g))⟩
theorem Kept.drewN {X : List Nat} {a w : World} (h : Kept X a w) (n : Nat) : Kept X a (w.drewN n) := ⟨h.os, h.tape, h.output, h.size, h.block⟩
theorem Kept.drew {X : List Nat} {a w : World} (h : Kept X a w) : Kept X a w.drew := ⟨h.os, h.tape, h.output, h.size, h.block⟩
theorem Kept.setCell {X : List Nat} {a w : World} (h : Kept X a w) {p : Addr} (hp : p.block ∈ X) (u : Value) : Kept X a (w.setCell p u) :=
  h.trans ⟨rfl, rfl, rfl, by simp [World.setCell], fun k _ hk => Below.heap_setCell _ _ _ _ (fun e => hk (by rw [e]; exact hp))⟩
theorem Kept.grown {X : List Nat} {a w w' : World} {b : Nat} (h : Kept X a w) (hg : w.grownBy w' (some b)) (hb : b ∈ X) : Kept X a w' :=
  h.trans ⟨hg.os, hg.tape, hg.output, hg.size, fun k hk hx => hg.block k hk (fun e => hx (by cases e; exact hb))⟩
theorem Kept.of_below {X : List Nat} {w w' : World} (h : Below w.heap.size w w') : Kept X w w' := ⟨h.os, h.tape, h.output, h.size, fun k hk _ => h.block k hk⟩
theorem Kept.below {X : List Nat} {B : Nat} {w w' : World} (h : Kept X w w') (hB : B ≤ w.heap.size) (hX : ∀ k, k ∈ X → B ≤ k) : Below B w w' :=
  ⟨h.os, h.tape, h.output, h.size, fun k hk => h.block k (by omega) (fun g => by have := hX k g; omega)⟩
theorem Kept.cell {X : List Nat} {w w' : World} (h : Kept X w w') {p : Addr} (hp : p.block < w.heap.size) (hx : p.block ∉ X) : w'.cell? p = w.cell? p := World.cell?_of_block (w := w) (h.block p.block hp hx)
theorem Kept.frozen {X : List Nat} {w w' : World} (h : Kept X w w') {p : Addr} (hp : p.block < w.heap.size) (hx : p.block ∉ X) : w'.frozen? p = w.frozen? p := World.frozen?_of_block (w := w) (h.block p.block hp hx)
theorem Kept.old {X : List Nat} {w w' : World} (h : Kept X w w') {p : Addr} {v : Value} (hc : w.cell? p = some v) (hx : p.block ∉ X) : w'.cell? p = some v := by rw [h.cell (cell_lt hc) hx]; exact hc
theorem ret_int {k : IntKind} {a b : Int} (h : a = b) : Ending.returned (.int k a) = .returned (.int k b) := by rw [h]
theorem ret_pair {k : IntKind} {a b : Int} (h : a = b) (v : Value) : Ending.returned (.tuple #[.int k a, v]) = .returned (.tuple #[.int k b, v]) := by rw [h]
theorem ret_int2 {k : IntKind} {a b c d : Int} (h : a = b) (g : c = d) : Ending.returned (.tuple #[.int k a, .int k c]) = .returned (.tuple #[.int k b, .int k d]) := by rw [h, g]
end Go.Proofs.YtlhffdmhbplpjabGreatDoor
