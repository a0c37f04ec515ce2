/-
  The document's chain by its contracts: whose turn it is.
-/
import Derived.Test.YtaihcceobnfmhaaGreatDoorRefFillAtX
import Derived.Test.YtaihcceobnfmhaaGreatDoorRefBakerX
import Derived.Deep.RegionWith
namespace Go.Proofs.YtaihcceobnfmhaaGreatDoor
open Go.RowKit

theorem was_cell {w w' : World} (hB : Below w.heap.size w w') {a : Addr} {v : Value} (h : w.cell? a = some v) : w'.cell? a = some v := by rw [hB.cell (cell_lt h)]; exact h
/-- this cycle's picture, as it lies -/
theorem RChAt.picture {tag : Nat → Nat} {w : World} {cb pb pq sb kb : Nat} {v : Value} {M : List (Nat × Nat)} {C : Ch} (h : RChAt tag w cb pb pq sb kb v M C) (i : Nat) (hi : i < C.pics.length) : ∃ g m cap, v = .slice (some ⟨g, 0, none⟩) C.pics.length cap ∧ w.cell? ⟨g, i, none⟩ = some (.slice (some ⟨m.1, 0, none⟩) 3 m.2) ∧ m.1 < w.heap.size ∧ M[i]? = some m ∧ Ints w m.1 0 3 (C.pics.getD i (fun _ => 0)) := by
  have hl := h.lenM
  obtain ⟨m, hm⟩ : ∃ m, M[i]? = some m := ⟨M[i]'(by omega), List.getElem?_eq_getElem _⟩
  have hW : C.pics[i]? = some (C.pics.getD i (fun _ => 0)) := by rw [List.getD_eq_getElem?_getD, List.getElem?_eq_getElem hi]; rfl
  have I := h.pic i m _ hm hW
  rcases h.own.2 with ⟨_, h0⟩ | ⟨g, cap, cur, e, _⟩
  · omega
  · refine ⟨g, m, cap, e, ?_, h.lt m.1 (by rw [h.tm m (List.mem_of_getElem? hm)]; decide), hm, I⟩
    have := h.own
    rw [e] at this
    refine (this.cellAt i (by omega)).trans ?_
    show (M.map _)[i]? = _
    rw [List.getElem?_map, hm]
    rfl
set_option maxRecDepth 100000 in
set_option maxHeartbeats 1000000 in
theorem rch_turn (F : Nat → Prop) (cb : Nat) (C : Ch) (hC : C.Ok) (r : Int) (hr : TurnOk C.cyc C.lev r) (w : World) (h : RCh F w cb C) :
    Calls Tryz.prog 78 #[.pointer (some ⟨cb, 0, none⟩), .int .i64 r] w fun e w' => ∃ k, e = .returned (.tuple #[.int .i64 k, .agg #[.int .i64 0, .int .i64 (-1)]]) ∧ Turn 3 C.pic C.seed C.cyc C.lev r k ∧ Below w.heap.size w w' := by
  obtain ⟨tag, pb, pq, sb, kb, v, M, hF, h⟩ := h
  have hlen := hC.len
  obtain ⟨g, m, cap, rfl, cg, lm, _, I⟩ := h.picture C.cyc (by omega)
  have c3 := h.c3
  have c4 := h.c4
  have c5 := h.c5
  have c7 := h.c7
  have hT := hC.turn
  have hl2 : (C.cyc : Int) < (C.pics.length : Int) := by omega
  have hl3 : (0 : Int) ≤ (C.cyc : Int) := by omega
  clear hlen
  have hB4 : Below w.heap.size w (w.alloc (.cells #[.int .i64 0, .int .i64 0] 114)) := (Below.refl _ _).alloc (Nat.le_refl _) _
  have h4 := h.nextB hB4
  have q0 : (w.alloc (.cells #[.int .i64 0, .int .i64 0] 114)).cell? ⟨w.heap.size, 0, none⟩ = some (.int .i64 0) := by simp
  have q1 : (w.alloc (.cells #[.int .i64 0, .int .i64 0] 114)).cell? ⟨w.heap.size, 1, none⟩ = some (.int .i64 0) := by simp
  have z0 : (w.alloc (.cells #[.int .i64 0, .int .i64 0] 114)).frozen? ⟨w.heap.size, 0, none⟩ = false := World.frozen?_alloc_at _ _ _ _ rfl
  have z1 : (w.alloc (.cells #[.int .i64 0, .int .i64 0] 114)).frozen? ⟨w.heap.size, 1, none⟩ = false := World.frozen?_alloc_at _ _ _ _ rfl
  have cg4 := was_cell hB4 cg
  have I4 : Ints (w.alloc (.cells #[.int .i64 0, .int .i64 0] 114)) m.1 0 3 C.pic := fun i hi => was_cell hB4 (I i hi)
  have lm4 : m.1 < (w.alloc (.cells #[.int .i64 0, .int .i64 0] 114)).heap.size := Nat.lt_of_lt_of_le lm hB4.size
  have c3 := h4.c3
  have c4 := h4.c4
  have c5 := h4.c5
  have c7 := h4.c7
  have lw : w.heap.size < (w.alloc (.cells #[.int .i64 0, .int .i64 0] 114)).heap.size := by simp
  go_enter Tryz.func78, Tryz.ntmps78
  go_wp2_with fail
  have c3' := h.c3
  have cg' := cg
  clear h cg I lm
  generalize hnr : w.heap.size = nr at *
  generalize w.alloc (.cells #[.int .i64 0, .int .i64 0] 114) = w4 at *
  have BB := ref_baker_fine m.1 0 3 m.2 C.seed C.pic C.cyc C.lev r hr hC.seed w4.drew I4 lm4 hT.1 hT.2
  have FF : ∀ w5, Below w4.drew.heap.size w4.drew w5 → w5.cell? ⟨nr, 0, none⟩ = some (.int .i64 0) ∧ w5.cell? ⟨nr, 1, none⟩ = some (.int .i64 0) ∧ w5.frozen? ⟨nr, 0, none⟩ = false ∧ w5.frozen? ⟨nr, 1, none⟩ = false := fun w5 hB5 => ⟨(hB5.cell (p := ⟨nr, 0, none⟩) lw).trans q0, (hB5.cell (p := ⟨nr, 1, none⟩) lw).trans q1, (hB5.frozen (p := ⟨nr, 0, none⟩) lw).trans z0, (hB5.frozen (p := ⟨nr, 1, none⟩) lw).trans z1⟩
  have n1 : cb ≠ nr := fun e => by have h1 : cb < w.heap.size := cell_lt c3'; omega
  have n2 : g ≠ nr := fun e => by have h1 : g < w.heap.size := cell_lt cg'; omega
  have n3 : nr ≠ cb := n1.symm
  have n4 : nr ≠ g := n2.symm
  have KC : ∀ w5, Below w4.drew.heap.size w4.drew w5 → w5.cell? ⟨cb, 3, none⟩ = some (.int .u64 C.seed) ∧ w5.cell? ⟨cb, 4, none⟩ = some (.int .i64 C.cyc) ∧ w5.cell? ⟨cb, 5, none⟩ = some (.int .i64 C.lev) ∧ w5.cell? ⟨cb, 7, none⟩ = some (.slice (some ⟨g, 0, none⟩) C.pics.length cap) ∧ w5.cell? ⟨g, C.cyc, none⟩ = some (.slice (some ⟨m.1, 0, none⟩) 3 m.2) := fun w5 hB5 => ⟨was_cell hB5 c3, was_cell hB5 c4, was_cell hB5 c5, was_cell hB5 c7, was_cell hB5 cg4⟩
  clear c3' cg' q0 q1 z0 z1
  go_region_held3 (fun w' => w'.cell? ⟨cb, 3, none⟩ = some (.int .u64 C.seed) ∧ w'.cell? ⟨cb, 4, none⟩ = some (.int .i64 C.cyc) ∧ w'.cell? ⟨cb, 5, none⟩ = some (.int .i64 C.lev) ∧ w'.cell? ⟨cb, 7, none⟩ = some (.slice (some ⟨g, 0, none⟩) C.pics.length cap) ∧ w'.cell? ⟨g, C.cyc, none⟩ = some (.slice (some ⟨m.1, 0, none⟩) 3 m.2)) (first | exact ⟨by assumption, by assumption, by assumption, by assumption, by assumption⟩ | (refine ⟨?_, ?_, ?_, ?_, ?_⟩ <;> (rw [World.cell?_setCell_other _ _ _ _ (by first | (simp; done) | (simp [n3]; done) | (simp [n4]; done)), World.cell?_setCell_other _ _ _ _ (by first | (simp; done) | (simp [n3]; done) | (simp [n4]; done))]; assumption)))
    (first | (go_at_call 137; refine BB.mono ?_; rintro e w5 ⟨k, rfl, hk, hB5⟩; obtain ⟨q0', q1', z0', z1'⟩ := FF w5 hB5; obtain ⟨s3, s4, s5, s7, sg⟩ := KC w5 hB5))
  go_wp2_with fail
  have B5 : Below nr w w5 := hB4.trans ((below_from (n := 1) hB5).mono (Nat.le_of_lt lw))
  refine bodyPost_ret (v := .tuple #[.int .i64 k, .agg #[.int .i64 0, .int .i64 (-1)]]) ?_ rfl ⟨k, rfl, hk, ?_⟩
  · simp [results, Tryz.results78, go_sem, q0', q1']
  · rw [hnr]
    exact (B5.setCell (p := ⟨nr, 0, none⟩) (Nat.le_refl _) _).setCell (p := ⟨nr, 1, none⟩) (Nat.le_refl _) _
set_option maxRecDepth 100000 in
set_option maxHeartbeats 1000000 in
theorem rch_turn_bad (F : Nat → Prop) (cb : Nat) (C : Ch) (hC : C.Ok) (r : Int) (hr : ¬ TurnOk C.cyc C.lev r) (w : World) (h : RCh F w cb C) :
    Calls Tryz.prog 78 #[.pointer (some ⟨cb, 0, none⟩), .int .i64 r] w fun e w' => e = .returned (.tuple #[.int .i64 0, .agg #[.int .i64 2, .int .i64 (-1)]]) ∧ Below w.heap.size w w' := by
  obtain ⟨tag, pb, pq, sb, kb, v, M, hF, h⟩ := h
  have hlen := hC.len
  obtain ⟨g, m, cap, rfl, cg, lm, _, I⟩ := h.picture C.cyc (by omega)
  have c3 := h.c3
  have c4 := h.c4
  have c5 := h.c5
  have c7 := h.c7
  have hT := hC.turn
  have hl2 : (C.cyc : Int) < (C.pics.length : Int) := by omega
  have hl3 : (0 : Int) ≤ (C.cyc : Int) := by omega
  clear hlen
  have hB4 : Below w.heap.size w (w.alloc (.cells #[.int .i64 0, .int .i64 0] 114)) := (Below.refl _ _).alloc (Nat.le_refl _) _
  have h4 := h.nextB hB4
  have q0 : (w.alloc (.cells #[.int .i64 0, .int .i64 0] 114)).cell? ⟨w.heap.size, 0, none⟩ = some (.int .i64 0) := by simp
  have q1 : (w.alloc (.cells #[.int .i64 0, .int .i64 0] 114)).cell? ⟨w.heap.size, 1, none⟩ = some (.int .i64 0) := by simp
  have z0 : (w.alloc (.cells #[.int .i64 0, .int .i64 0] 114)).frozen? ⟨w.heap.size, 0, none⟩ = false := World.frozen?_alloc_at _ _ _ _ rfl
  have z1 : (w.alloc (.cells #[.int .i64 0, .int .i64 0] 114)).frozen? ⟨w.heap.size, 1, none⟩ = false := World.frozen?_alloc_at _ _ _ _ rfl
  have cg4 := was_cell hB4 cg
  have I4 : Ints (w.alloc (.cells #[.int .i64 0, .int .i64 0] 114)) m.1 0 3 C.pic := fun i hi => was_cell hB4 (I i hi)
  have lm4 : m.1 < (w.alloc (.cells #[.int .i64 0, .int .i64 0] 114)).heap.size := Nat.lt_of_lt_of_le lm hB4.size
  have c3 := h4.c3
  have c4 := h4.c4
  have c5 := h4.c5
  have c7 := h4.c7
  have lw : w.heap.size < (w.alloc (.cells #[.int .i64 0, .int .i64 0] 114)).heap.size := by simp
  go_enter Tryz.func78, Tryz.ntmps78
  go_wp2_with fail
  have c3' := h.c3
  have cg' := cg
  clear h cg I lm
  generalize hnr : w.heap.size = nr at *
  generalize w.alloc (.cells #[.int .i64 0, .int .i64 0] 114) = w4 at *
  have BB := ref_baker_bad (some ⟨m.1, 0, none⟩) 3 m.2 C.seed C.cyc C.lev r hr w4.drew
  have FF : ∀ w5, Below w4.drew.heap.size w4.drew w5 → w5.cell? ⟨nr, 0, none⟩ = some (.int .i64 0) ∧ w5.cell? ⟨nr, 1, none⟩ = some (.int .i64 0) ∧ w5.frozen? ⟨nr, 0, none⟩ = false ∧ w5.frozen? ⟨nr, 1, none⟩ = false := fun w5 hB5 => ⟨(hB5.cell (p := ⟨nr, 0, none⟩) lw).trans q0, (hB5.cell (p := ⟨nr, 1, none⟩) lw).trans q1, (hB5.frozen (p := ⟨nr, 0, none⟩) lw).trans z0, (hB5.frozen (p := ⟨nr, 1, none⟩) lw).trans z1⟩
  have n1 : cb ≠ nr := fun e => by have h1 : cb < w.heap.size := cell_lt c3'; omega
  have n2 : g ≠ nr := fun e => by have h1 : g < w.heap.size := cell_lt cg'; omega
  have n3 : nr ≠ cb := n1.symm
  have n4 : nr ≠ g := n2.symm
  have KC : ∀ w5, Below w4.drew.heap.size w4.drew w5 → w5.cell? ⟨cb, 3, none⟩ = some (.int .u64 C.seed) ∧ w5.cell? ⟨cb, 4, none⟩ = some (.int .i64 C.cyc) ∧ w5.cell? ⟨cb, 5, none⟩ = some (.int .i64 C.lev) ∧ w5.cell? ⟨cb, 7, none⟩ = some (.slice (some ⟨g, 0, none⟩) C.pics.length cap) ∧ w5.cell? ⟨g, C.cyc, none⟩ = some (.slice (some ⟨m.1, 0, none⟩) 3 m.2) := fun w5 hB5 => ⟨was_cell hB5 c3, was_cell hB5 c4, was_cell hB5 c5, was_cell hB5 c7, was_cell hB5 cg4⟩
  clear c3' cg' q0 q1 z0 z1
  go_region_held3 (fun w' => w'.cell? ⟨cb, 3, none⟩ = some (.int .u64 C.seed) ∧ w'.cell? ⟨cb, 4, none⟩ = some (.int .i64 C.cyc) ∧ w'.cell? ⟨cb, 5, none⟩ = some (.int .i64 C.lev) ∧ w'.cell? ⟨cb, 7, none⟩ = some (.slice (some ⟨g, 0, none⟩) C.pics.length cap) ∧ w'.cell? ⟨g, C.cyc, none⟩ = some (.slice (some ⟨m.1, 0, none⟩) 3 m.2)) (first | exact ⟨by assumption, by assumption, by assumption, by assumption, by assumption⟩ | (refine ⟨?_, ?_, ?_, ?_, ?_⟩ <;> (rw [World.cell?_setCell_other _ _ _ _ (by first | (simp; done) | (simp [n3]; done) | (simp [n4]; done)), World.cell?_setCell_other _ _ _ _ (by first | (simp; done) | (simp [n3]; done) | (simp [n4]; done))]; assumption)))
    (first | (go_at_call 137; refine BB.mono ?_; rintro e w5 ⟨rfl, hB5⟩; obtain ⟨q0', q1', z0', z1'⟩ := FF w5 hB5; obtain ⟨s3, s4, s5, s7, sg⟩ := KC w5 hB5))
  go_wp2_with fail
  have B5 : Below nr w w5 := hB4.trans ((below_from (n := 1) hB5).mono (Nat.le_of_lt lw))
  refine bodyPost_ret (v := .tuple #[.int .i64 0, .agg #[.int .i64 2, .int .i64 (-1)]]) ?_ rfl ⟨rfl, ?_⟩
  · simp [results, Tryz.results78, go_sem, q0', q1']
  · rw [hnr]
    exact (B5.setCell (p := ⟨nr, 0, none⟩) (Nat.le_refl _) _).setCell (p := ⟨nr, 1, none⟩) (Nat.le_refl _) _
end Go.Proofs.YtaihcceobnfmhaaGreatDoor
