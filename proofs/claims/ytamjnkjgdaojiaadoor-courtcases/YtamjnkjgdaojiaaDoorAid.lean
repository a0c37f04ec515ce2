/-
  Small facts on worlds.
-/
import Derived.Test.YtamjnkjgdaojiaaDoorBase
namespace Go.Proofs.YtamjnkjgdaojiaaDoor
open Go.RowKit

theorem below_drewN {B : Nat} {a w : World} (h : Below B a w) (n : Nat) : Below B a (w.drewN n) := ⟨h.os, h.tape, h.output, h.size, h.block⟩
theorem below_from {w w' : World} {n : Nat} (h : Below (w.drewN n).heap.size (w.drewN n) w') : Below w.heap.size w w' := ⟨h.os, h.tape, h.output, h.size, h.block⟩
theorem hide {p : Prop} (h : p) : Hid p := h
theorem cell_new (W : World) (cs : Array Value) (t : TypeId) (n i : Nat) (v : Value) (h : n = W.heap.size) (hv : cs[i]? = some v) : (W.alloc (.cells cs t)).cell? ⟨n, i, none⟩ = some v := by
  subst h
  rw [World.cell?_alloc_at _ _ _ _ rfl]
  exact hv
theorem cell_lt {W : World} {a : Addr} {v : Value} (h : W.cell? a = some v) : a.block < W.heap.size := by
  rcases Nat.lt_or_ge a.block W.heap.size with g | g
  · exact g
  · simp [World.cell?, Array.getElem?_eq_none g] at h
theorem add_plain (b off n : Nat) : (⟨b, off, none⟩ : Addr).add n = ⟨b, off + n, none⟩ := by
  rcases Nat.eq_zero_or_pos n with h | h
  · subst h; simp [Addr.add]
  · have : ¬ n = 0 := by omega
    simp [Addr.add, this]
/-- a block without a mark -/
def Bare (w : World) (a : Addr) : Prop := ∃ c t, w.heap[a.block]? = some (.cells c t (0, 0))
/-- .. or one that is marked all over -/
def Plain (w : World) (a : Addr) : Prop := ∃ c t f, w.heap[a.block]? = some (.cells c t f) ∧ (f = (0, 0) ∨ (0 < c.size ∧ f = (0, c.size)))
/-- of two one at most is marked -/
def Mates (w : World) (a b : Addr) : Prop := Bare w a ∨ Bare w b ∨ a.block = b.block
theorem Bare.plain {w : World} {a : Addr} (h : Bare w a) : Plain w a := by
  obtain ⟨c, t, h⟩ := h
  exact ⟨c, t, _, h, .inl rfl⟩
theorem Plain.lt {w : World} {a : Addr} (h : Plain w a) : a.block < w.heap.size := by
  obtain ⟨c, t, f, h, _⟩ := h
  rcases Nat.lt_or_ge a.block w.heap.size with g | g
  · exact g
  · simp [Array.getElem?_eq_none g] at h
theorem Plain.below {w w' : World} {a : Addr} (h : Plain w a) (hB : Below w.heap.size w w') : Plain w' a := by
  have l := h.lt
  obtain ⟨c, t, f, h, q⟩ := h
  exact ⟨c, t, f, by rw [hB.block _ l]; exact h, q⟩
theorem Bare.below {w w' : World} {a : Addr} (h : Bare w a) (hB : Below w.heap.size w w') : Bare w' a := by
  have l := h.plain.lt
  obtain ⟨c, t, h⟩ := h
  exact ⟨c, t, by rw [hB.block _ l]; exact h⟩
theorem Mates.below {w w' : World} {a b : Addr} (h : Mates w a b) (hB : Below w.heap.size w w') : Mates w' a b :=
  h.imp (·.below hB) fun q => q.imp (·.below hB) id
theorem Bare.new (w : World) (cs : Array Value) (t : TypeId) (i : Nat) : Bare (w.alloc (.cells cs t)) ⟨w.heap.size, i, none⟩ := ⟨cs, t, by show (w.heap.push _)[w.heap.size]? = _; simp⟩
theorem run_apart {P : Program} (w : World) {a b : Addr} (hne : a ≠ b) (ha : Plain w a) (hb : Plain w b) (hm : Mates w a b) : (sameAddr a b).run P w = .ok false w := by
  by_cases hbl : a.block = b.block
  · simp [sameAddr, hbl, hne]
  · obtain ⟨ca, ta, fa, ha, qa⟩ := ha
    obtain ⟨cb, tb, fb, hb, qb⟩ := hb
    have one : fa = (0, 0) ∨ fb = (0, 0) := by
      rcases hm with ⟨c, t, h⟩ | ⟨c, t, h⟩ | h
      · rw [ha] at h; exact .inl (Obj.cells.inj (Option.some.inj h)).2.2
      · rw [hb] at h; exact .inr (Obj.cells.inj (Option.some.inj h)).2.2
      · exact absurd h hbl
    rcases one with rfl | rfl
    · rcases qb with rfl | ⟨n, rfl⟩
      · simp [sameAddr, hbl, World.frozen?, ha, hb, noView, viewAt, World.shape?, mayBeOne, stringish]
      · have nz : cb.size ≠ 0 := by omega
        by_cases l : b.off < cb.size <;> simp [sameAddr, hbl, World.frozen?, ha, hb, noView, viewAt, World.shape?, mayBeOne, stringish, l, nz]
    · rcases qa with rfl | ⟨n, rfl⟩
      · simp [sameAddr, hbl, World.frozen?, ha, hb, noView, viewAt, World.shape?, mayBeOne, stringish]
      · have nz : ca.size ≠ 0 := by omega
        by_cases l : a.off < ca.size <;> simp [sameAddr, hbl, World.frozen?, ha, hb, noView, viewAt, World.shape?, mayBeOne, stringish, l, nz]
theorem old_cell {w w' : World} (hB : Below w.heap.size w w') {a : Addr} {v : Value} (h : w.cell? a = some v) : w'.cell? a = some v := by
  rw [hB.cell (cell_lt h)]; exact h
end Go.Proofs.YtamjnkjgdaojiaaDoor
