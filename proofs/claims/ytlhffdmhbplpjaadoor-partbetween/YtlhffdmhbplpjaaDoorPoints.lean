/-
  A slice of points that came in: what its reading gives a walk.
-/
import Derived.Test.YtlhffdmhbplpjaaDoorSent
import Derived.Test.YtlhffdmhbplpjaaDoorBends
namespace Go.Proofs.YtlhffdmhbplpjaaDoor
open Go.ChangeShapes Go.WideShapes Go.ChangeAt Go.RowKit

theorem Tryd.cellsPoint : Tryd.prog.cellsOf 49 = 2 := by kernel_rfl
theorem Tryd.cellsInt : Tryd.prog.cellsOf 3 = 1 := by kernel_rfl

/-- empty, or so many points one behind another -/
def IsPoints (W : World) (a : Option Addr) (len cap : Nat) : Prop :=
  (len = 0) ∨ ∃ (b off : Nat) (X Y : Nat → Int), a = some ⟨b, off, none⟩ ∧ b < W.heap.size ∧ len ≤ cap ∧ cap ≤ 9223372036854775807 ∧ Pts W b off len X Y

set_option maxRecDepth 100000 in
theorem points_of {H : Type} {enc : TypeId × Value → H} {W : World} {a : Option Addr} {len cap : Nat} {d : DataW H} {p : List MemPlace}
    (h : DataW.Trod enc Tryd.prog W 0 (fun _ => true) true 38 (.slice a len cap) d p) : IsPoints W a len cap := by
  obtain ⟨fuel, hf⟩ := h
  rcases Nat.eq_zero_or_pos len with h0 | h0
  · exact .inl h0
  rcases Deep.open_slice_pairs Tryd.underlying38 Tryd.underlying49 Tryd.cellsPoint rfl rfl Tryd.cellsInt Tryd.cellsInt hf with ⟨hcs, _⟩ | ⟨x, l, c, m, n, V0, V1, D0, D1, P0, P1, hcs, _, hl, hm, hmm, _, hx⟩
  · simp [Value.cells] at hcs
    omega
  · simp [Value.cells] at hcs
    obtain ⟨rfl, rfl, rfl⟩ := hcs
    have hm' : m = cap := by simpa using hmm
    subst hm'
    obtain ⟨b, off, spot⟩ := x
    have hc0 := (hx 0 (by omega)).1
    have hspot : spot = none := by simpa [Addr.add] using World.cell?_spot hc0
    subst hspot
    refine .inr ⟨b, off, fun i => intOf (V0 i), fun i => intOf (V1 i), rfl, ?_, hl, hm, fun i hi => ?_⟩
    · exact cell_lt hc0
    · obtain ⟨c0, c1, t0, t1⟩ := hx i (by omega)
      obtain ⟨u, e0, _, _⟩ := DataW.trod_int Tryd.underlying3 t0
      obtain ⟨v, e1, _, _⟩ := DataW.trod_int Tryd.underlying3 t1
      simp at e0 e1
      refine ⟨?_, ?_⟩
      · show W.cell? ⟨b, off + i * 2, none⟩ = some (.int .i64 (intOf (V0 i)))
        rw [e0] at c0 ⊢
        rw [add_plain] at c0
        exact c0
      · show W.cell? ⟨b, off + i * 2 + 1, none⟩ = some (.int .i64 (intOf (V1 i)))
        rw [e1] at c1 ⊢
        rw [add_plain, ← Nat.add_assoc] at c1
        exact c1
end Go.Proofs.YtlhffdmhbplpjaaDoor
