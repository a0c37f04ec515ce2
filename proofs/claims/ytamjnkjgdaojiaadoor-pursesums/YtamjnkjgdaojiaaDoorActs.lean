/-
  A slice of acts that came in: what its reading gives a walk.
-/
import Derived.Test.YtamjnkjgdaojiaaDoorSent
import Derived.Test.YtamjnkjgdaojiaaDoorAid
import Derived.Deep.SlicePairs
namespace Go.Proofs.YtamjnkjgdaojiaaDoor
open Go.ChangeShapes Go.WideShapes Go.ChangeAt Go.RowKit

theorem Tryd.cellsAct : Tryd.prog.cellsOf 28 = 3 := by kernel_rfl
theorem Tryd.cellsInt3 : Tryd.prog.cellsOf 3 = 1 := by kernel_rfl
theorem Tryd.cellsString : Tryd.prog.cellsOf 9 = 1 := by kernel_rfl

/-- so many acts laid one behind another -/
def Acts (w : World) (b off len : Nat) (K : Nat → ByteArray) (O N : Nat → Int) : Prop :=
  ∀ i, i < len → w.cell? ⟨b, off + i * 3, none⟩ = some (.string (K i)) ∧ w.cell? ⟨b, off + i * 3 + 1, none⟩ = some (.int .i64 (O i)) ∧ w.cell? ⟨b, off + i * 3 + 2, none⟩ = some (.int .i64 (N i)) ∧ (Lit.int .i64 (O i)).wf = true ∧ (Lit.int .i64 (N i)).wf = true
theorem Acts.below {w w' : World} {b off len : Nat} {K : Nat → ByteArray} {O N : Nat → Int} {B : Nat} (h : Acts w b off len K O N) (hB : Below B w w') (hb : b < B) : Acts w' b off len K O N := fun i hi =>
  ⟨by rw [hB.cell (p := ⟨b, off + i * 3, none⟩) hb]; exact (h i hi).1, by rw [hB.cell (p := ⟨b, off + i * 3 + 1, none⟩) hb]; exact (h i hi).2.1, by rw [hB.cell (p := ⟨b, off + i * 3 + 2, none⟩) hb]; exact (h i hi).2.2.1, (h i hi).2.2.2⟩

/-- empty, or so many acts one behind another -/
def IsActs (W : World) (a : Option Addr) (len cap : Nat) : Prop :=
  (len = 0) ∨ ∃ (b off : Nat) (K : Nat → ByteArray) (O N : Nat → Int), a = some ⟨b, off, none⟩ ∧ b < W.heap.size ∧ len ≤ cap ∧ cap ≤ 9223372036854775807 ∧ Acts W b off len K O N

def strOf : Value → ByteArray | .string s => s | _ => ByteArray.empty

set_option maxRecDepth 100000 in
theorem acts_of {H : Type} {enc : TypeId × Value → H} {W : World} {a : Option Addr} {len cap : Nat} {d : DataW H} {p : List MemPlace}
    (h : DataW.Trod enc Tryd.prog W 0 (fun _ => true) true 22 (.slice a len cap) d p) : IsActs W a len cap := by
  obtain ⟨fuel, hf⟩ := h
  rcases Nat.eq_zero_or_pos len with h0 | h0
  · exact .inl h0
  rcases Deep.open_slice Tryd.underlying22 hf with ⟨hcs, _⟩ | ⟨x, l, c, m, n, D, Pl, hcs, _, hl, hm, hmm, _, hx⟩
  · simp [Value.cells] at hcs
    omega
  · simp [Value.cells] at hcs
    obtain ⟨rfl, rfl, rfl⟩ := hcs
    have hm' : m = cap := by simpa using hmm
    subst hm'
    have each : ∀ i, i < m → ∃ (s : ByteArray) (o k : Int), W.cell? (x.add (i * 3)) = some (.string s) ∧ W.cell? (x.add (i * 3 + 1)) = some (.int .i64 o) ∧ W.cell? (x.add (i * 3 + 2)) = some (.int .i64 k) ∧ (Lit.int .i64 o).wf = true ∧ (Lit.int .i64 k).wf = true := by
      intro i hi
      obtain ⟨cs', h1, h2⟩ := hx i hi
      rw [Tryd.cellsAct] at h1
      obtain ⟨_, hlen, hcell⟩ := World.cells?_some h1
      obtain ⟨xs, k, hk, hxy, _, hxl, hf'⟩ := DataW.trod_struct Tryd.underlying28 h2
      match xs, hxl, cs', hlen with
      | [y0, y1, y2], _, [v0, v1, v2], _ =>
        have g0 := hf' 0 _ rfl
        have g1 := hf' 1 _ rfl
        have g2 := hf' 2 _ rfl
        simp [Tryd.cellsInt3, Tryd.cellsString] at g0 g1 g2
        obtain ⟨s, e0, _, _⟩ := DataW.trod_string Tryd.underlying9 g0
        obtain ⟨u, e1, _, wu⟩ := DataW.trod_int Tryd.underlying3 g1
        obtain ⟨v, e2, _, wv⟩ := DataW.trod_int Tryd.underlying3 g2
        have c0 := hcell 0 (by omega)
        have c1 := hcell 1 (by omega)
        have c2 := hcell 2 (by omega)
        rw [Deep.add_add] at c0 c1 c2
        simp at e0 e1 e2
        subst e0 e1 e2
        exact ⟨s, u, v, by simpa using c0, by simpa using c1, by simpa using c2, wu, wv⟩
    obtain ⟨b, off, spot⟩ := x
    have hc0 := (each 0 (by omega)).choose_spec.choose_spec.choose_spec.1
    have hspot : spot = none := by simpa [Addr.add] using World.cell?_spot hc0
    subst hspot
    refine .inr ⟨b, off, fun i => strOf ((W.cell? ⟨b, off + i * 3, none⟩).getD undef), fun i => intOf ((W.cell? ⟨b, off + i * 3 + 1, none⟩).getD undef), fun i => intOf ((W.cell? ⟨b, off + i * 3 + 2, none⟩).getD undef), rfl, ?_, hl, hm, fun i hi => ?_⟩
    · exact cell_lt hc0
    · obtain ⟨s, u, v, c0, c1, c2, wu, wv⟩ := each i (by omega)
      rw [add_plain] at c0 c1 c2
      rw [← Nat.add_assoc] at c1 c2
      exact ⟨by simp only [c0]; rfl, by simp only [c1]; rfl, by simp only [c2]; rfl, by simp only [c1]; exact wu, by simp only [c2]; exact wv⟩
end Go.Proofs.YtamjnkjgdaojiaaDoor
