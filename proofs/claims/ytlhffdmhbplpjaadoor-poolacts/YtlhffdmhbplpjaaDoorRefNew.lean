/-
  The document's pool (bakehouseref1.Pool) by its contracts: a new one.
-/
import Derived.Test.YtlhffdmhbplpjaaDoorRefActs
import Derived.Deep.OwnRows
namespace Go.Proofs.YtlhffdmhbplpjaaDoor
open Go.RowKit Go.Deep

theorem Tryd.infoInt : (Tryd.prog.info? 3).map (fun i => (i.zero, i.size, i.bytes)) = some (some (.int .i64 0), 1, 8) := by kernel_rfl
/-- six noughts -/
abbrev six : Array Value := #[.int .i64 0, .int .i64 0, .int .i64 0, .int .i64 0, .int .i64 0, .int .i64 0]
theorem made_six : madeCells #[.int .i64 0] 6 = six := by kernel_rfl
theorem make_six (w : World) : (Instr.makeSlice 22 (.int .i64 6) (.int .i64 6)).run Tryd.prog w = .ok (.slice (some ⟨w.heap.size, 0, none⟩) 6 6) (w.alloc (.cells six 3)) := by
  have h := run_make_row' (P := Tryd.prog) 22 3 (.int .i64 0) 8 Tryd.underlying22 Tryd.infoInt rfl .i64 .i64 6 (by omega) (by omega) w
  rw [made_six] at h
  exact h
theorem six_cell (i : Nat) (h : i < 6) : six[i]? = some (.int .i64 0) := by
  have : i = 0 ∨ i = 1 ∨ i = 2 ∨ i = 3 ∨ i = 4 ∨ i = 5 := by omega
  rcases this with rfl | rfl | rfl | rfl | rfl | rfl <;> rfl
theorem ref_fresh (w : World) (t u : TypeId) : RefAt ((w.alloc (.cells six t)).alloc (.cells #[.int .i64 0, .slice (some ⟨w.heap.size, 0, none⟩) 6 6] u)) (w.heap.size + 1) w.heap.size ⟨0, fun _ => 0⟩ where
  c0 := cell_new _ _ _ _ _ _ (by simp) rfl
  c1 := ⟨6, cell_new _ _ _ _ _ _ (by simp) rfl⟩
  s := fun i hi => by
    rw [World.cell?_alloc_lt _ _ _ (by simp)]
    exact cell_new _ _ _ _ _ _ rfl (six_cell i hi)
  f0 := World.frozen?_alloc_at _ _ _ _ (by simp)
  fs := fun i _ => by
    rw [World.frozen?_alloc_past _ _ _ (by simp)]
    exact World.frozen?_alloc_at _ _ _ _ rfl
  ne := by omega

set_option maxRecDepth 100000 in
theorem ref_new (w : World) :
    Calls Tryd.prog 40 #[] w fun e w' => ∃ b q, e = .returned (.pointer (some ⟨b, 0, none⟩)) ∧ w.heap.size ≤ b ∧ w.heap.size ≤ q ∧ b < w'.heap.size ∧ q < w'.heap.size ∧ RefAt w' b q ⟨0, fun _ => 0⟩ ∧ Below w.heap.size w w' := by
  have hm := make_six
  go_enter Tryd.func40, Tryd.ntmps40
  go_wp2
  go_ret
  exact ⟨w.heap.size + 1, w.heap.size, rfl, by omega, by omega, by simp, by simp; omega, ref_fresh w _ _, ((Below.refl _ _).alloc (Nat.le_refl _) _).alloc (by simp) _⟩
end Go.Proofs.YtlhffdmhbplpjaaDoor
