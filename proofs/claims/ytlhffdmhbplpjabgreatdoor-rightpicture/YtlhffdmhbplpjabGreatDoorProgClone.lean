/-
  The program's pool copied (pool.Clone).
-/
import Derived.Test.YtlhffdmhbplpjabGreatDoorProgActs
import Derived.Shelf.SlMaps.Clone
import Derived.Deep.RegionHeld3
namespace Go.Proofs.YtlhffdmhbplpjabGreatDoor
open Go.RowKit Go.Maps

set_option maxRecDepth 100000 in
set_option maxHeartbeats 2000000 in
theorem map_clone (b : Nat) (es : Array MapEntry) (clock : Nat) (w : World) (hb : w.heap[b]? = some (.map es clock)) :
    Calls Tryz.prog 92 #[.map (some b)] w fun e w' => e = .returned (.map (some w.heap.size)) ∧ w' = w.alloc (.map es clock) := by
  have hq := fun w => run_eql_map_nil_sl (P := Tryz.prog) w 84 _ _ (some b) Tryz.underlying84
  go_enter Tryz.func92, Tryz.ntmps92
  go_wp2
  rw [run_callFunc_extern Tryz.func105 (by kernel_rfl) (by kernel_rfl) (by kernel_rfl) (e := Extern.MapsClone.clone) (by kernel_rfl), run_maps_clone_sl w 84 hb]
  simp only [Result.andThen]
  rw [Oper.upon_value]
  go_wp2
  rw [run_typeAssert_map_sl _ 84 _ _ _ _ Tryz.underlying84]
  simp only [Result.andThen]
  rw [Oper.upon_value]
  go_wp2
  go_ret
  exact ⟨rfl, rfl⟩
theorem own_clone (m g : Nat) (s : Int → Int) (w : World) (h : OwnS w m s g) :
    Calls Tryz.prog 92 #[.map (some m)] w fun e w' => ∃ m', e = .returned (.map (some m')) ∧ w.heap.size ≤ m' ∧ OwnS w' m' s g ∧ Below w.heap.size w w' := by
  obtain ⟨n, D, ⟨es, clock, hes, F, hs, hD⟩, hn, hat⟩ := h
  refine (map_clone m es clock w hes).mono ?_
  rintro e w' ⟨rfl, rfl⟩
  exact ⟨_, rfl, Nat.le_refl _, ⟨n, D, ⟨es, clock, (MapKept.heap_alloc w _).1, F, hs, hD⟩, hn, hat⟩, (Below.refl _ _).alloc (Nat.le_refl _) _⟩
theorem pool_made {w : World} {m g : Nat} {x : St} (h : OwnS w m x.s g) (t : TypeId) : PoolAt (w.alloc (.cells #[.int .i64 x.T, .int .i64 x.A, .map (some m)] t)) w.heap.size m x g where
  c0 := cell_new _ _ _ _ _ _ rfl rfl
  c1 := cell_new _ _ _ _ _ _ rfl rfl
  c2 := cell_new _ _ _ _ _ _ rfl rfl
  f0 := World.frozen?_alloc_at _ _ _ _ rfl
  f1 := World.frozen?_alloc_at _ _ _ _ rfl
  own := by
    obtain ⟨n, D, ho, hn, hat⟩ := h
    exact ⟨n, D, ho.alloc _, hn, hat⟩
  ne := by
    obtain ⟨n, D, ho, _⟩ := h
    have := ho.lt
    omega
theorem below_of_drew {w w' : World} (h : Below w.drew.heap.size w.drew w') : Below w.heap.size w w' := ⟨h.os, h.tape, h.output, h.size, h.block⟩
set_option maxRecDepth 100000 in
set_option maxHeartbeats 2000000 in
theorem prog_clone (b m g : Nat) (x : St) (w : World) (h : PoolAt w b m x g) :
    Calls Tryz.prog 76 #[.pointer (some ⟨b, 0, none⟩)] w fun e w' => ∃ b' m', e = .returned (.pointer (some ⟨b', 0, none⟩)) ∧ w.heap.size ≤ b' ∧ w.heap.size ≤ m' ∧ PoolAt w' b' m' x g ∧ Below w.heap.size w w' := by
  have c0 := h.c0
  have c1 := h.c1
  have c2 := h.c2
  go_enter Tryz.func76, Tryz.ntmps76
  go_wp2
  go_region_held3 (fun w' => w'.cell? ⟨b, 0, none⟩ = some (.int .i64 x.T) ∧ w'.cell? ⟨b, 1, none⟩ = some (.int .i64 x.A) ∧ w'.cell? ⟨b, 2, none⟩ = some (.map (some m))) (first | exact ⟨by assumption, by assumption, by assumption⟩ | exact ⟨old_cell ((Below.refl _ _).alloc (Nat.le_refl _) _) d0, old_cell ((Below.refl _ _).alloc (Nat.le_refl _) _) d1, old_cell ((Below.refl _ _).alloc (Nat.le_refl _) _) d2⟩)
    ((go_at_call 92; refine (own_clone m g x.s _ (by exact h.own)).mono ?_; rintro e w2 ⟨m2, rfl, hm2, hO2, hB2⟩; have d0 : w2.cell? ⟨b, 0, none⟩ = some (.int .i64 x.T) := old_cell hB2 c0; have d1 : w2.cell? ⟨b, 1, none⟩ = some (.int .i64 x.A) := old_cell hB2 c1; have d2 : w2.cell? ⟨b, 2, none⟩ = some (.map (some m)) := old_cell hB2 c2))
  go_wp2
  go_ret
  exact ⟨_, m2, rfl, hB2.size, hm2, pool_made hO2 _, (below_of_drew hB2).alloc hB2.size _⟩
end Go.Proofs.YtlhffdmhbplpjabGreatDoor
