/-
  A slice of evidence that came in: what its reading gives a walk.
-/
import Derived.Test.YtamjnkjgdaojiaaDoorAid
import Derived.Test.YtamjnkjgdaojiaaDoorRowLib
import Derived.Deep.SlicePairs
namespace Go.Proofs.YtamjnkjgdaojiaaDoor
open Go.ChangeShapes Go.WideShapes Go.ChangeAt Go.RowKit

theorem Tryd.cellsBrought : Tryd.prog.cellsOf 55 = 6 := by kernel_rfl
theorem Tryd.cellsEv6 : Tryd.prog.cellsOf 53 = 3 := by kernel_rfl
theorem Tryd.cellsInt6 : Tryd.prog.cellsOf 3 = 1 := by kernel_rfl
theorem Tryd.cellsBool6 : Tryd.prog.cellsOf 4 = 1 := by kernel_rfl
/-- one piece that was brought -/
structure Br where
  o : Int
  b : Int
  y : Int
  m : Int
  c : Int
  d : Bool
/-- as it lies -/
structure BrAt (w : World) (b off : Nat) (t : Br) : Prop where
  c0 : w.cell? ⟨b, off, none⟩ = some (.int .i64 t.o)
  c1 : w.cell? ⟨b, off + 1, none⟩ = some (.int .i64 t.b)
  c2 : w.cell? ⟨b, off + 2, none⟩ = some (.int .i64 t.y)
  c3 : w.cell? ⟨b, off + 3, none⟩ = some (.int .i64 t.m)
  c4 : w.cell? ⟨b, off + 4, none⟩ = some (.int .i64 t.c)
  c5 : w.cell? ⟨b, off + 5, none⟩ = some (.bool t.d)
structure Br.Wf (t : Br) : Prop where
  o : (Lit.int .i64 t.o).wf = true
  b : (Lit.int .i64 t.b).wf = true
  y : (Lit.int .i64 t.y).wf = true
  m : (Lit.int .i64 t.m).wf = true
  c : (Lit.int .i64 t.c).wf = true
/-- so many laid one behind another -/
def Broughts (w : World) (b off len : Nat) : Prop := ∀ i, i < len → ∃ t, BrAt w b (off + i * 6) t ∧ t.Wf
theorem Broughts.below {w w' : World} {b off len B : Nat} (h : Broughts w b off len) (hB : Below B w w') (hb : b < B) : Broughts w' b off len := fun i hi => by
  obtain ⟨t, a, f⟩ := h i hi
  have e : ∀ k, w'.cell? ⟨b, k, none⟩ = w.cell? ⟨b, k, none⟩ := fun k => hB.cell (p := ⟨b, k, none⟩) hb
  exact ⟨t, ⟨(e _).trans a.c0, (e _).trans a.c1, (e _).trans a.c2, (e _).trans a.c3, (e _).trans a.c4, (e _).trans a.c5⟩, f⟩
/-- empty, or so many one behind another -/
def IsBrought (W : World) (a : Option Addr) (len cap : Nat) : Prop :=
  (len = 0) ∨ ∃ (b off : Nat), a = some ⟨b, off, none⟩ ∧ b < W.heap.size ∧ len ≤ cap ∧ cap ≤ 9223372036854775807 ∧ Broughts W b off len
set_option maxRecDepth 100000 in
theorem brought_of {H : Type} {enc : TypeId × Value → H} {W : World} {a : Option Addr} {len cap : Nat} {d : DataW H} {p : List MemPlace}
    (h : DataW.Trod enc Tryd.prog W 0 (fun _ => true) true 45 (.slice a len cap) d p) : IsBrought W a len cap := by
  obtain ⟨fuel, hf⟩ := h
  rcases Nat.eq_zero_or_pos len with h0 | h0
  · exact .inl h0
  rcases Deep.open_slice Tryd.underlying45 hf with ⟨hcs, _⟩ | ⟨x, l, c, m, n, D, Pl, hcs, _, hl, hm, hmm, _, hx⟩
  · simp [Value.cells] at hcs
    omega
  · simp [Value.cells] at hcs
    obtain ⟨rfl, rfl, rfl⟩ := hcs
    have hm' : m = cap := by simpa using hmm
    subst hm'
    have each : ∀ i, i < m → ∃ t : Br, (W.cell? (x.add (i * 6)) = some (.int .i64 t.o) ∧ W.cell? (x.add (i * 6 + 1)) = some (.int .i64 t.b) ∧ W.cell? (x.add (i * 6 + 2)) = some (.int .i64 t.y) ∧ W.cell? (x.add (i * 6 + 3)) = some (.int .i64 t.m) ∧ W.cell? (x.add (i * 6 + 4)) = some (.int .i64 t.c) ∧ W.cell? (x.add (i * 6 + 5)) = some (.bool t.d)) ∧ t.Wf := by
      intro i hi
      obtain ⟨cs', h1, h2⟩ := hx i hi
      rw [Tryd.cellsBrought] at h1
      obtain ⟨_, hlen, hcell⟩ := World.cells?_some h1
      obtain ⟨xs, k, hk, hxy, _, hxl, hf'⟩ := DataW.trod_struct Tryd.underlying55 h2
      match xs, hxl, cs', hlen with
      | [y0, y1, y2, y3], _, [v0, v1, v2, v3, v4, v5], _ =>
        have g0 := hf' 0 _ rfl
        have g1 := hf' 1 _ rfl
        have g2 := hf' 2 _ rfl
        have g3 := hf' 3 _ rfl
        simp [Tryd.cellsInt6, Tryd.cellsEv6, Tryd.cellsBool6] at g0 g1 g2 g3
        obtain ⟨u0, e0, _, w0⟩ := DataW.trod_int Tryd.underlying3 g0
        obtain ⟨u4, e4, _, w4⟩ := DataW.trod_int Tryd.underlying3 g2
        obtain ⟨u5, e5, _⟩ := DataW.trod_bool Tryd.underlying4 g3
        obtain ⟨zs, k', _, _, _, hzl, hz⟩ := DataW.trod_struct Tryd.underlying53 g1
        match zs, hzl with
        | [z0, z1, z2], _ =>
          have i0 := hz 0 _ rfl
          have i1 := hz 1 _ rfl
          have i2 := hz 2 _ rfl
          simp [Tryd.cellsInt6] at i0 i1 i2
          obtain ⟨u1, e1, _, w1⟩ := DataW.trod_int Tryd.underlying3 i0
          obtain ⟨u2, e2, _, w2⟩ := DataW.trod_int Tryd.underlying3 i1
          obtain ⟨u3, e3, _, w3⟩ := DataW.trod_int Tryd.underlying3 i2
          have c0 := hcell 0 (by omega)
          have c1 := hcell 1 (by omega)
          have c2 := hcell 2 (by omega)
          have c3 := hcell 3 (by omega)
          have c4 := hcell 4 (by omega)
          have c5 := hcell 5 (by omega)
          rw [Deep.add_add] at c0 c1 c2 c3 c4 c5
          simp at e0 e1 e2 e3 e4 e5
          subst e0 e1 e2 e3 e4 e5
          exact ⟨⟨u0, u1, u2, u3, u4, u5⟩, ⟨by simpa using c0, by simpa using c1, by simpa using c2, by simpa using c3, by simpa using c4, by simpa using c5⟩, w0, w1, w2, w3, w4⟩
    obtain ⟨b, off, spot⟩ := x
    have hc0 := (each 0 (by omega)).choose_spec.1.1
    have hspot : spot = none := by simpa [Addr.add] using World.cell?_spot hc0
    subst hspot
    refine .inr ⟨b, off, rfl, cell_lt hc0, hl, hm, fun i hi => ?_⟩
    obtain ⟨t, ⟨c0, c1, c2, c3, c4, c5⟩, f⟩ := each i (by omega)
    rw [add_plain] at c0 c1 c2 c3 c4 c5
    rw [← Nat.add_assoc] at c1 c2 c3 c4 c5
    exact ⟨t, ⟨c0, c1, c2, c3, c4, c5⟩, f⟩
end Go.Proofs.YtamjnkjgdaojiaaDoor
