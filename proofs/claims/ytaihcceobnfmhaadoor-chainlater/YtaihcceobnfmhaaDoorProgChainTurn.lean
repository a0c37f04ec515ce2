/-
  The program's chain by its contracts: whose turn it is.
-/
import Derived.Test.YtaihcceobnfmhaaDoorProgChainTellsX
import Derived.Test.YtaihcceobnfmhaaDoorProgRight
import Derived.Deep.RegionHeld3
namespace Go.Proofs.YtaihcceobnfmhaaDoor
open Go.RowKit

set_option maxRecDepth 100000 in
set_option maxHeartbeats 1000000 in
theorem rb_bad1 (a : Option Addr) (n cap seed : Nat) (c l r : Int) (h : ¬ TurnOk c l r) (A : Nat → Addr) (w : World) (v1 : w.cell? ⟨0, 0, none⟩ = some (sent (A 1))) :
    Calls Tryd.prog 17 #[.slice a n cap, .int .u64 seed, .int .i64 c, .int .i64 l, .int .i64 r] w fun e w' => e = .returned (.tuple #[.int .i64 0, sent (A 1)]) ∧ Below w.heap.size w w' := by
  by_cases ht : (0 ≤ c ∧ c ≤ 1048576) ∧ 0 ≤ l ∧ l ≤ 4194304
  · have T := time_yes c l ht.1.1 ht.1.2 ht.2.1 ht.2.2
    have R := round_no r (fun g => h ⟨ht.1, ht.2, g⟩)
    clear h ht
    go_enter Tryd.func17, Tryd.ntmps17
    go_wp2_with (first | (go_at_call 30; refine (T _).mono ?_; rintro e w' ⟨rfl, rfl⟩) | (go_at_call 31; refine (R _).mono ?_; rintro e w' ⟨rfl, rfl⟩))
    go_quiet (fail)
    go_wp2
    go_ret2
    exact ⟨rfl, below_drewN (Below.refl _ _) _⟩
  · have T := time_no c l ht
    clear h ht
    go_enter Tryd.func17, Tryd.ntmps17
    go_wp2_with (go_at_call 30; refine (T _).mono ?_; rintro e w' ⟨rfl, rfl⟩)
    go_quiet (fail)
    go_wp2
    go_ret2
    exact ⟨rfl, below_drewN (Below.refl _ _) _⟩
theorem drew_below {w w' : World} (h : Below w.drew.heap.size w.drew w') : Below w.heap.size w w' := ⟨h.os, h.tape, h.output, h.size, h.block⟩
theorem was_cellP {w w' : World} (hB : Below w.heap.size w w') {a : Addr} {v : Value} (h : w.cell? a = some v) : w'.cell? a = some v := by rw [hB.cell (cell_lt h)]; exact h
/-- this cycle's picture, as it lies -/
theorem PChAt.now {tag : Nat → Nat} {w : World} {cb pb sb kb g : Nat} {xs : Nat → Value} {C : Ch} (hC : C.Ok) (h : PChAt tag w cb pb sb kb xs C g) : ∃ m cap', w.cell? ⟨cb, 7, none⟩ = some (.slice (some ⟨m, 0, none⟩) 3 cap') ∧ m < w.heap.size ∧ Ints w m 0 3 C.pic := by
  have hl := hC.len
  have hW : (C.pics.drop C.cyc)[0]? = some C.pic := by
    rw [List.getElem?_drop, Nat.add_zero]
    unfold Ch.pic
    rw [List.getD_eq_getElem?_getD, List.getElem?_eq_getElem (by omega)]
    rfl
  obtain ⟨m, cap', e, tm, I⟩ := h.pics.one 0 _ (by omega) hW
  exact ⟨m, cap', by rw [h.c7, e], h.lt m (by rw [tm]; decide), I⟩
set_option maxRecDepth 100000 in
set_option maxHeartbeats 1000000 in
theorem pcb_turn {sb : Nat} (F : Nat → Prop) (cb : Nat) (C : Ch) (hC : C.Ok) (_hb : C.Few) (g : Nat) (r : Int) (hr : TurnOk C.cyc C.lev r) (A : Nat → Addr) (w : World) (_hL : ChLaid8 w A) (h : PCb sb F w cb C g) :
    Calls Tryd.prog 7 #[.pointer (some ⟨cb, 0, none⟩), .int .i64 r] w fun e w' => ∃ k, e = .returned (.tuple #[.int .i64 k, .nilIface]) ∧ Turn 3 C.pic C.seed C.cyc C.lev r k ∧ Below w.heap.size w w' := by
  obtain ⟨tag, pb, kb, xs, hf, h⟩ := h
  obtain ⟨m, cap', c7, lm, I⟩ := h.now hC
  have c3 := h.c3
  have c4 := h.c4
  have c5 := h.c5
  have hT := hide hC.turn
  have sd := hide hC.seed
  clear h
  go_enter Tryd.func7, Tryd.ntmps7
  go_wp2_with fail
  go_region_held3 (fun w' => w'.cell? ⟨cb, 7, none⟩ = some (.slice (some ⟨m, 0, none⟩) 3 cap') ∧ w'.cell? ⟨cb, 3, none⟩ = some (.int .u64 C.seed) ∧ w'.cell? ⟨cb, 4, none⟩ = some (.int .i64 C.cyc) ∧ w'.cell? ⟨cb, 5, none⟩ = some (.int .i64 C.lev)) (exact ⟨by assumption, by assumption, by assumption, by assumption⟩)
    (first
      | (go_at_call 17; refine (rb_fine m 0 3 cap' C.seed C.pic C.cyc C.lev r hr sd.out _ (by first | exact I | exact fun i hi => I i hi) (by first | exact lm | (simp; exact lm)) hT.out.1 hT.out.2).mono ?_; rintro e w5 ⟨k, rfl, T, hB5⟩; have d7 := was_cellP hB5 c7; have d3 := was_cellP hB5 c3; have d4 := was_cellP hB5 c4; have d5 := was_cellP hB5 c5))
  go_wp2_with fail
  go_ret2
  exact ⟨_, rfl, T, drew_below hB5⟩
set_option maxRecDepth 100000 in
set_option maxHeartbeats 1000000 in
theorem pcb_turn_bad {sb : Nat} (F : Nat → Prop) (cb : Nat) (C : Ch) (hC : C.Ok) (_hb : C.Few) (g : Nat) (r : Int) (hr : ¬ TurnOk C.cyc C.lev r) (A : Nat → Addr) (w : World) (hL : ChLaid8 w A) (h : PCb sb F w cb C g) :
    Calls Tryd.prog 7 #[.pointer (some ⟨cb, 0, none⟩), .int .i64 r] w fun e w' => ∃ ev, e = .returned (.tuple #[.int .i64 0, ev]) ∧ ErrIs A ev 2 ∧ Below w.heap.size w w' := by
  obtain ⟨tag, pb, kb, xs, hf, h⟩ := h
  obtain ⟨m, cap', c7, lm, I⟩ := h.now hC
  have c3 := h.c3
  have c4 := h.c4
  have c5 := h.c5
  have v1 := hL.v1
  clear h I
  go_enter Tryd.func7, Tryd.ntmps7
  go_wp2_with fail
  go_region_held3 (fun w' => w'.cell? ⟨cb, 7, none⟩ = some (.slice (some ⟨m, 0, none⟩) 3 cap') ∧ w'.cell? ⟨cb, 3, none⟩ = some (.int .u64 C.seed) ∧ w'.cell? ⟨cb, 4, none⟩ = some (.int .i64 C.cyc) ∧ w'.cell? ⟨cb, 5, none⟩ = some (.int .i64 C.lev)) (exact ⟨by assumption, by assumption, by assumption, by assumption⟩)
    (first
      | (go_at_call 17; refine (rb_bad1 _ 3 cap' C.seed C.cyc C.lev r hr A _ (by first | exact v1 | simpa using v1)).mono ?_; rintro e w5 ⟨rfl, hB5⟩; have d7 := was_cellP hB5 c7; have d3 := was_cellP hB5 c3; have d4 := was_cellP hB5 c4; have d5 := was_cellP hB5 c5))
  go_wp2_with fail
  go_ret2
  exact ⟨_, rfl, .inr ⟨1, by omega, rfl, rfl⟩, drew_below hB5⟩
end Go.Proofs.YtaihcceobnfmhaaDoor
