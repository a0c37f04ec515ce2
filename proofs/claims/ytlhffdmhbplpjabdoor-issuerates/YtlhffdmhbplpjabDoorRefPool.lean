/-
  The document's pool (bakehouseref1.Pool) by its contracts: what it tells.
-/
import Derived.Test.YtlhffdmhbplpjabDoorKept
import Derived.Test.YtlhffdmhbplpjabDoorRefIs
import Derived.Test.YtlhffdmhbplpjabDoorProduct
import Derived.Test.YtlhffdmhbplpjabDoorPoolMath
import Derived.Deep.QuietTactic
import Derived.BigQuiet
namespace Go.Proofs.YtlhffdmhbplpjabDoor
open Go.RowKit

/-- the document's pool, as it lies in memory -/
structure RefAt (w : World) (b q : Nat) (x : St) : Prop where
  c0 : w.cell? ⟨b, 0, none⟩ = some (.int .i64 x.T)
  c1 : ∃ cap, w.cell? ⟨b, 1, none⟩ = some (.slice (some ⟨q, 0, none⟩) 6 cap)
  s : ∀ i : Nat, i < 6 → w.cell? ⟨q, i, none⟩ = some (.int .i64 (x.s i))
  f0 : w.frozen? ⟨b, 0, none⟩ = false
  fs : ∀ i : Nat, i < 6 → w.frozen? ⟨q, i, none⟩ = false
  ne : b ≠ q
theorem RefAt.drewN {w : World} {b q : Nat} {x : St} (h : RefAt w b q x) (n : Nat) : RefAt (w.drewN n) b q x := ⟨h.c0, h.c1, h.s, h.f0, h.fs, h.ne⟩

theorem RefAt.kept {w w' : World} {b q : Nat} {x : St} {X : List Nat} (h : RefAt w b q x) (hK : Kept X w w') (hb : b ∉ X) (hq : q ∉ X) : RefAt w' b q x where
  c0 := hK.old h.c0 hb
  c1 := h.c1.imp fun _ g => hK.old g hb
  s := fun i hi => hK.old (h.s i hi) hq
  f0 := by rw [hK.frozen (cell_lt h.c0) hb]; exact h.f0
  fs := fun i hi => by rw [hK.frozen (cell_lt (h.s i hi)) hq]; exact h.fs i hi
  ne := h.ne
theorem RefAt.lt {w : World} {b q : Nat} {x : St} (h : RefAt w b q x) : b < w.heap.size ∧ q < w.heap.size := ⟨cell_lt h.c0, cell_lt (h.s 0 (by omega))⟩

/-- the first so many owners' shares -/
def pre (x : St) : Nat → Int
  | 0 => 0
  | k + 1 => pre x k + x.s k
theorem pre_six (x : St) : pre x 6 = x.A := by simp [pre, St.A]
theorem pre_bd {x : St} (h : x.Ok) : ∀ k, k ≤ 6 → 0 ≤ pre x k ∧ pre x k ≤ x.A
  | 0, _ => ⟨Int.le_refl _, h.a0⟩
  | k + 1, hk => by
    have h0 := h.pos 0
    have h1 := h.pos 1
    have h2 := h.pos 2
    have h3 := h.pos 3
    have h4 := h.pos 4
    have h5 := h.pos 5
    have : k = 0 ∨ k = 1 ∨ k = 2 ∨ k = 3 ∨ k = 4 ∨ k = 5 := by omega
    rcases this with rfl | rfl | rfl | rfl | rfl | rfl <;> (simp [pre, St.A]; omega)

/-- what a value's product asks -/
theorem val_amounts {x : St} (hx : x.Ok) (hA : 0 < x.A) (o : Int) : Amounts (x.s o) x.T x.A ∧ x.s o * x.T / x.A ≤ 1125899906842624 := by
  have h1 := hx.le_all o
  have h2 := hx.a1
  refine ⟨⟨hx.pos o, by omega, hx.t0, hx.t1, by omega, h2⟩, ?_⟩
  have h3 := hx.val1 o
  rw [St.val_some o hA] at h3
  have := hx.t1
  omega

end Go.Proofs.YtlhffdmhbplpjabDoor
