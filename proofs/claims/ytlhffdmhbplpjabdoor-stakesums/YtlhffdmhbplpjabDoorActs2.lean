/-
  A slice of acts on stakes that came in: what its reading gives a walk.
-/
import Derived.Test.YtlhffdmhbplpjabDoorAid
import Derived.Test.YtlhffdmhbplpjabDoorRowLib
import Derived.Deep.SlicePairs
namespace Go.Proofs.YtlhffdmhbplpjabDoor
open Go.ChangeShapes Go.WideShapes Go.ChangeAt Go.RowKit

theorem Tryd.cellsAct2 : Tryd.prog.cellsOf 49 = 5 := by kernel_rfl
theorem Tryd.cellsInt5 : Tryd.prog.cellsOf 3 = 1 := by kernel_rfl
theorem Tryd.cellsString5 : Tryd.prog.cellsOf 9 = 1 := by kernel_rfl
/-- one act, as it lies -/
structure ActAt (w : World) (b off : Nat) (K : ByteArray) (O C N Y : Int) : Prop where
  c0 : w.cell? ⟨b, off, none⟩ = some (.string K)
  c1 : w.cell? ⟨b, off + 1, none⟩ = some (.int .i64 O)
  c2 : w.cell? ⟨b, off + 2, none⟩ = some (.int .i64 C)
  c3 : w.cell? ⟨b, off + 3, none⟩ = some (.int .i64 N)
  c4 : w.cell? ⟨b, off + 4, none⟩ = some (.int .i64 Y)
  wO : (Lit.int .i64 O).wf = true
  wC : (Lit.int .i64 C).wf = true
  wN : (Lit.int .i64 N).wf = true
  wY : (Lit.int .i64 Y).wf = true
/-- so many acts laid one behind another -/
def Acts2 (w : World) (b off len : Nat) : Prop := ∀ i, i < len → ∃ K O C N Y, ActAt w b (off + i * 5) K O C N Y
theorem Acts2.below {w w' : World} {b off len B : Nat} (h : Acts2 w b off len) (hB : Below B w w') (hb : b < B) : Acts2 w' b off len := fun i hi => by
  obtain ⟨K, O, C, N, Y, a⟩ := h i hi
  have e : ∀ k, w'.cell? ⟨b, k, none⟩ = w.cell? ⟨b, k, none⟩ := fun k => hB.cell (p := ⟨b, k, none⟩) hb
  exact ⟨K, O, C, N, Y, (e _).trans a.c0, (e _).trans a.c1, (e _).trans a.c2, (e _).trans a.c3, (e _).trans a.c4, a.wO, a.wC, a.wN, a.wY⟩
/-- empty, or so many acts one behind another -/
def IsActs2 (W : World) (a : Option Addr) (len cap : Nat) : Prop :=
  (len = 0) ∨ ∃ (b off : Nat), a = some ⟨b, off, none⟩ ∧ b < W.heap.size ∧ len ≤ cap ∧ cap ≤ 9223372036854775807 ∧ Acts2 W b off len
set_option maxRecDepth 100000 in
theorem acts2_of {H : Type} {enc : TypeId × Value → H} {W : World} {a : Option Addr} {len cap : Nat} {d : DataW H} {p : List MemPlace}
    (h : DataW.Trod enc Tryd.prog W 0 (fun _ => true) true 45 (.slice a len cap) d p) : IsActs2 W a len cap := by
  obtain ⟨fuel, hf⟩ := h
  rcases Nat.eq_zero_or_pos len with h0 | h0
  · exact .inl h0
  rcases Deep.open_slice Tryd.underlying45 hf with ⟨hcs, _⟩ | ⟨x, l, c, m, n, D, Pl, hcs, _, hl, hm, hmm, _, hx⟩
  · simp [Value.cells] at hcs
    omega
  · simp [Value.cells] at hcs
    obtain ⟨rfl, rfl, rfl⟩ := hcs
    have hm' : m = cap := by simpa using hmm
    subst hm'
    have each : ∀ i, i < m → ∃ (s : ByteArray) (o k u v : Int), W.cell? (x.add (i * 5)) = some (.string s) ∧ W.cell? (x.add (i * 5 + 1)) = some (.int .i64 o) ∧ W.cell? (x.add (i * 5 + 2)) = some (.int .i64 k) ∧ W.cell? (x.add (i * 5 + 3)) = some (.int .i64 u) ∧ W.cell? (x.add (i * 5 + 4)) = some (.int .i64 v) ∧ (Lit.int .i64 o).wf = true ∧ (Lit.int .i64 k).wf = true ∧ (Lit.int .i64 u).wf = true ∧ (Lit.int .i64 v).wf = true := by
      intro i hi
      obtain ⟨cs', h1, h2⟩ := hx i hi
      rw [Tryd.cellsAct2] at h1
      obtain ⟨_, hlen, hcell⟩ := World.cells?_some h1
      obtain ⟨xs, k, hk, hxy, _, hxl, hf'⟩ := DataW.trod_struct Tryd.underlying49 h2
      match xs, hxl, cs', hlen with
      | [y0, y1, y2, y3, y4], _, [v0, v1, v2, v3, v4], _ =>
        have g0 := hf' 0 _ rfl
        have g1 := hf' 1 _ rfl
        have g2 := hf' 2 _ rfl
        have g3 := hf' 3 _ rfl
        have g4 := hf' 4 _ rfl
        simp [Tryd.cellsInt5, Tryd.cellsString5] at g0 g1 g2 g3 g4
        obtain ⟨s, e0, _, _⟩ := DataW.trod_string Tryd.underlying9 g0
        obtain ⟨u1, e1, _, w1⟩ := DataW.trod_int Tryd.underlying3 g1
        obtain ⟨u2, e2, _, w2⟩ := DataW.trod_int Tryd.underlying3 g2
        obtain ⟨u3, e3, _, w3⟩ := DataW.trod_int Tryd.underlying3 g3
        obtain ⟨u4, e4, _, w4⟩ := DataW.trod_int Tryd.underlying3 g4
        have c0 := hcell 0 (by omega)
        have c1 := hcell 1 (by omega)
        have c2 := hcell 2 (by omega)
        have c3 := hcell 3 (by omega)
        have c4 := hcell 4 (by omega)
        rw [Deep.add_add] at c0 c1 c2 c3 c4
        simp at e0 e1 e2 e3 e4
        subst e0 e1 e2 e3 e4
        exact ⟨s, u1, u2, u3, u4, by simpa using c0, by simpa using c1, by simpa using c2, by simpa using c3, by simpa using c4, w1, w2, w3, w4⟩
    obtain ⟨b, off, spot⟩ := x
    have hc0 := (each 0 (by omega)).choose_spec.choose_spec.choose_spec.choose_spec.choose_spec.1
    have hspot : spot = none := by simpa [Addr.add] using World.cell?_spot hc0
    subst hspot
    refine .inr ⟨b, off, rfl, cell_lt hc0, hl, hm, fun i hi => ?_⟩
    obtain ⟨s, u1, u2, u3, u4, c0, c1, c2, c3, c4, w1, w2, w3, w4⟩ := each i (by omega)
    rw [add_plain] at c0 c1 c2 c3 c4
    rw [← Nat.add_assoc] at c1 c2 c3 c4
    exact ⟨s, u1, u2, u3, u4, c0, c1, c2, c3, c4, w1, w2, w3, w4⟩
end Go.Proofs.YtlhffdmhbplpjabDoor
