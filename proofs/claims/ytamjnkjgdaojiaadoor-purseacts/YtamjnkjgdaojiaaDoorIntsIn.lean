/-
  A slice of numbers that came in: what its reading gives a walk.
-/
import Derived.Test.YtamjnkjgdaojiaaDoorRowLib
import Derived.Test.YtamjnkjgdaojiaaDoorIntsAt
import Derived.ChangeSlices
namespace Go.Proofs.YtamjnkjgdaojiaaDoor
open Go.ChangeShapes Go.WideShapes Go.ChangeAt Go.RowKit

theorem Tryd.cellsOfInt : Tryd.prog.cellsOf 3 = 1 := by kernel_rfl
/-- empty, or so many numbers one behind another -/
def IsInts (W : World) (a : Option Addr) (len cap : Nat) : Prop :=
  (len = 0) ∨ ∃ (b off : Nat) (X : Nat → Int), a = some ⟨b, off, none⟩ ∧ b < W.heap.size ∧ len ≤ cap ∧ cap ≤ 9223372036854775807 ∧ Ints W b off len X ∧ ∀ i, i < len → (Lit.int .i64 (X i)).wf = true
set_option maxRecDepth 100000 in
theorem ints_of {H : Type} {enc : TypeId × Value → H} {W : World} {a : Option Addr} {len cap : Nat} {d : DataW H} {p : List MemPlace}
    (h : DataW.Trod enc Tryd.prog W 0 (fun _ => true) true 23 (.slice a len cap) d p) : IsInts W a len cap := by
  obtain ⟨fuel, hf⟩ := h
  rcases Nat.eq_zero_or_pos len with h0 | h0
  · exact .inl h0
  rcases open_ints Tryd.underlying23 Tryd.underlying3 Tryd.cellsOfInt hf with ⟨hcs, _⟩ | ⟨x, l, c, zs, hcs, _, hl, hm, hz, _, hx, hw⟩
  · simp [Value.cells] at hcs
    omega
  · simp [Value.cells] at hcs
    obtain ⟨rfl, rfl, rfl⟩ := hcs
    have hz' : zs.length = cap := by simpa using hz
    obtain ⟨b, off, spot⟩ := x
    have hc0 := hx 0 (by omega)
    have hspot : spot = none := by simpa [Addr.add] using World.cell?_spot hc0
    subst hspot
    refine .inr ⟨b, off, fun i => zs.getD i 0, rfl, cell_lt hc0, hl, hm, fun i hi => ?_, fun i hi => ?_⟩
    · have := hx i (by omega)
      rw [add_plain] at this
      exact this
    · refine hw _ ?_
      show zs.getD i 0 ∈ zs
      rw [List.getD_eq_getElem?_getD, List.getElem?_eq_getElem (by omega), Option.getD_some]
      exact List.getElem_mem _
end Go.Proofs.YtamjnkjgdaojiaaDoor
