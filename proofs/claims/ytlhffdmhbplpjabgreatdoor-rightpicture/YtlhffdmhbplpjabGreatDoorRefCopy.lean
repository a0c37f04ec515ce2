/-
  The document's pool (bakehouseref1.Pool) by its contracts: a copy.
-/
import Derived.Test.YtlhffdmhbplpjabGreatDoorRefNew
import Derived.Test.YtlhffdmhbplpjabGreatDoorIntsOwn
import Derived.Test.YtlhffdmhbplpjabGreatDoorProgStkX
import Derived.Deep.RegionLaw
namespace Go.Proofs.YtlhffdmhbplpjabGreatDoor
open Go.RowKit

/-- a copy of a pool, and the row of its shares -/
theorem ref_copied (w w2 : World) (x n : Nat) (y : St) (c : Nat) (t : TypeId) (hn : n = w2.heap.size) (hx : x < w2.heap.size) (h0 : w2.cell? ⟨x, 0, none⟩ = some (.int .i64 y.T)) (h1 : ∃ u, w2.cell? ⟨x, 1, none⟩ = some u) (f0 : w2.frozen? ⟨x, 0, none⟩ = false) :
    RefAt ((w2.setCell ⟨x, 1, none⟩ (.slice (some ⟨n, 0, none⟩) 6 c)).alloc (.cells (copyCellsI w 6 (fun i => y.s i)) t)) x n y where
  c0 := by
    rw [World.cell?_alloc_lt _ _ _ (by simp [World.setCell]; exact hx), World.cell?_setCell_other _ _ _ _ (by simp)]
    exact h0
  c1 := by
    obtain ⟨u, hu⟩ := h1
    exact ⟨c, (World.cell?_alloc_lt _ _ ⟨x, 1, none⟩ (by simp [World.setCell]; exact hx)).trans (World.cell?_setCell_same _ _ _ hu)⟩
  s := fun i hi => cell_new _ _ _ _ _ _ (by simp [World.setCell]; exact hn) (copyCells_ints w 6 _ i hi)
  f0 := by
    rw [World.frozen?_alloc_past _ _ _ (by simp [World.setCell]; exact hx), World.frozen?_setCell]
    exact f0
  fs := fun i _ => World.frozen?_alloc_at _ _ _ _ (by simp [World.setCell]; exact hn)
  ne := by omega
set_option maxRecDepth 100000 in
set_option maxHeartbeats 1000000 in
theorem ref_copy (b q : Nat) (x : St) (w : World) (h : RefAt w b q x) :
    Calls Tryz.prog 53 #[.pointer (some ⟨b, 0, none⟩)] w fun e w' => ∃ b' q', e = .returned (.pointer (some ⟨b', 0, none⟩)) ∧ w.heap.size ≤ b' ∧ w.heap.size ≤ q' ∧ b' < w'.heap.size ∧ q' < w'.heap.size ∧ RefAt w' b' q' x ∧ Below w.heap.size w w' := by
  have c0 := h.c0
  obtain ⟨cap, c1⟩ := h.c1
  have lb := h.lt
  have hI : Ints w q 0 6 (fun i => x.s i) := fun i hi => by rw [Nat.zero_add]; exact h.s i hi
  go_enter Tryz.func53, Tryz.ntmps53
  go_wp2_with fail
  have s0 : (w.alloc (.cells #[.int .i64 x.T, .slice none 0 0] 70)).cell? ⟨w.heap.size, 0, none⟩ = some (.int .i64 x.T) := by simp
  have s1 : (w.alloc (.cells #[.int .i64 x.T, .slice none 0 0] 70)).cell? ⟨w.heap.size, 1, none⟩ = some (.slice none 0 0) := by simp
  have d1 : (w.alloc (.cells #[.int .i64 x.T, .slice none 0 0] 70)).cell? ⟨b, 1, none⟩ = some (.slice (some ⟨q, 0, none⟩) 6 cap) := by rw [World.cell?_alloc_lt _ _ ⟨b, 1, none⟩ lb.1]; exact c1
  have hI' : Ints (w.alloc (.cells #[.int .i64 x.T, .slice none 0 0] 70)) q 0 6 (fun i => x.s i) := hI.below ((Below.refl _ _).alloc (Nat.le_refl _) _) lb.2
  have f0 : (w.alloc (.cells #[.int .i64 x.T, .slice none 0 0] 70)).frozen? ⟨w.heap.size, 0, none⟩ = false := World.frozen?_alloc_at _ _ _ _ rfl
  have f1 : (w.alloc (.cells #[.int .i64 x.T, .slice none 0 0] 70)).frozen? ⟨w.heap.size, 1, none⟩ = false := World.frozen?_alloc_at _ _ _ _ rfl
  have hB1 : Below w.heap.size w (w.alloc (.cells #[.int .i64 x.T, .slice none 0 0] 70)) := (Below.refl _ _).alloc (Nat.le_refl _) _
  have l1 : w.heap.size < (w.alloc (.cells #[.int .i64 x.T, .slice none 0 0] 70)).heap.size := by simp
  have nb : b ≠ w.heap.size := by omega
  clear c0 c1 hI
  have HS : Hid (w.heap.size ≤ w.heap.size) := Nat.le_refl _
  generalize hz : w.heap.size = z at s0 s1 d1 f0 f1 l1 nb ⊢
  generalize w.alloc (.cells #[.int .i64 x.T, .slice none 0 0] 70) = w1 at *
  go_region_law ((refine step_append_by rfl (.tmp 14) (.tmp 18) 38 rfl (.slice none 0 0) (.slice (some ⟨q, 0, none⟩) 6 cap) (by simp [Act.eval]) (by simp [Act.eval]) _ _ (append_run_ints _ q 0 6 cap _ _ hI' (by omega) (by omega)) ?_))
  all_goals
    go_wp2_with fail
    go_ret
    refine ⟨z, w1.heap.size, rfl, by omega, by omega, by simp [World.setCell]; omega, by simp [World.setCell], ?_, ?_⟩
    · exact (ref_copied w1.drew w1 z _ x _ _ rfl l1 s0 ⟨_, s1⟩ f0).drewN 2
    · have := (hB1.setCell (p := ⟨z, 1, none⟩) (by show _ ≤ z; omega) (.slice (some ⟨w1.heap.size, 0, none⟩) 6 (copyCapI w1.drew 6))).alloc (by simp [World.setCell]; omega) (.cells (copyCellsI w1.drew 6 fun i => x.s ↑i) 3)
      exact below_drewN this 2
end Go.Proofs.YtlhffdmhbplpjabGreatDoor
