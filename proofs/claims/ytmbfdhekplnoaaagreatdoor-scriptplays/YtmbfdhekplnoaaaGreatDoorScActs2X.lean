/-
  What each command of a script does: its function, by the chain's contracts.
  Evidence brought, blocks baked, a cycle's end, whose turn it is: the functions of these commands.
-/
import Derived.Test.YtmbfdhekplnoaaaGreatDoorScNumsX
import Derived.Test.YtmbfdhekplnoaaaGreatDoorScShelf
namespace Go.Proofs.YtmbfdhekplnoaaaGreatDoor
open Go.RowKit

abbrev NumRow (w : World) (b k : Nat) (N : Nat → Nat) : Prop := w.rowIs b 3 k fun i => .int .i64 (N i)
theorem small_nat (n : Nat) (h : n ≤ 9999999) : (Lit.int .i64 (n : Int)).wf = true := small_wf _ (by omega) (by omega)
theorem drew_b (w : World) : Below w.heap.size w w.drew := below_drewN (Below.refl _ _) 1

set_option maxRecDepth 100000 in
set_option maxHeartbeats 1000000 in
theorem c_pay {sb : Nat} (F : Nat → Prop) (cb : Nat) (C : Ch) (hC : C.Ok) (hb : C.Few) (g : Nat) (hg : g ≤ 850000) (pl b : Nat) (N : Nat → Nat) (hN : ∀ i, i < 3 → N i ≤ 9999999) (A : Nat → Addr) (w : World) (hL : ChLaid w A) (h : PCb sb F w cb C g) (hpl : w.cell? ⟨pl, 0, none⟩ = some (.pointer (some ⟨cb, 0, none⟩))) (npl : ¬ F pl) (R : NumRow w b 3 N) (nb : ¬ F b) :
    Calls Tryz.prog 60 #[.slice (some ⟨b, 0, none⟩) 3 3, .pointer (some ⟨pl, 0, none⟩)] w (CbEnd sb F cb g (C.pay (N 0) (N 1) (N 2)) (C.p.moveC (N 0) (N 1) (N 2)) A w) := by
  have c0 : w.cell? ⟨b, 0, none⟩ = some (.int .i64 (N 0 : Int)) := R.cell (i := 0) (by omega)
  have c1 : w.cell? ⟨b, 1, none⟩ = some (.int .i64 (N 1 : Int)) := R.cell (i := 1) (by omega)
  have c2 : w.cell? ⟨b, 2, none⟩ = some (.int .i64 (N 2 : Int)) := R.cell (i := 2) (by omega)
  have P := pcb_pay F cb C hC hb g hg (N 0) (N 1) (N 2) (small_nat _ (hN 0 (by omega))) (small_nat _ (hN 1 (by omega))) A w.drew (hL.e.below (drew_b w)) (h.below (drew_b w))
  have n0 := hN 0 (by omega)
  have n1 := hN 1 (by omega)
  have n2 := hN 2 (by omega)
  clear h R hN
  go_enter Tryz.func60, Tryz.ntmps60
  go_wp2_with fail
  go_region_held3 (fun w' => w'.cell? ⟨pl, 0, none⟩ = some (.pointer (some ⟨cb, 0, none⟩)) ∧ w'.cell? ⟨b, 0, none⟩ = some (.int .i64 (N 0 : Int)) ∧ w'.cell? ⟨b, 1, none⟩ = some (.int .i64 (N 1 : Int)) ∧ w'.cell? ⟨b, 2, none⟩ = some (.int .i64 (N 2 : Int))) (exact ⟨by assumption, by assumption, by assumption, by assumption⟩)
    (first
      | (go_at_call 61; refine P.mono ?_; rintro e w5 ⟨ev, F5, rfl, hE, hP, hM⟩; have dp : w5.cell? ⟨pl, 0, none⟩ = some (.pointer (some ⟨cb, 0, none⟩)) := hM.kept.old hpl npl; have d0 : w5.cell? ⟨b, 0, none⟩ = some (.int .i64 (N 0 : Int)) := hM.kept.old c0 nb; have d1 : w5.cell? ⟨b, 1, none⟩ = some (.int .i64 (N 1 : Int)) := hM.kept.old c1 nb; have d2 : w5.cell? ⟨b, 2, none⟩ = some (.int .i64 (N 2 : Int)) := hM.kept.old c2 nb))
  go_wp2_with fail
  go_ret
  exact ⟨ev, F5, rfl, hE, hP, moved_drew hM⟩
set_option maxRecDepth 100000 in
set_option maxHeartbeats 1000000 in
theorem c_stake {sb : Nat} (F : Nat → Prop) (cb : Nat) (C : Ch) (hC : C.Ok) (hb : C.Few) (g : Nat) (hg : g ≤ 850000) (pl b : Nat) (N : Nat → Nat) (hN : ∀ i, i < 3 → N i ≤ 9999999) (A : Nat → Addr) (w : World) (hL : ChLaid w A) (h : PCb sb F w cb C g) (hpl : w.cell? ⟨pl, 0, none⟩ = some (.pointer (some ⟨cb, 0, none⟩))) (npl : ¬ F pl) (R : NumRow w b 3 N) (nb : ¬ F b) :
    Calls Tryz.prog 62 #[.slice (some ⟨b, 0, none⟩) 3 3, .pointer (some ⟨pl, 0, none⟩)] w (CbEnd sb F cb g (C.stake (N 0) (N 1) (N 2)) (C.stakeC (N 0) (N 1) (N 2)) A w) := by
  have c0 : w.cell? ⟨b, 0, none⟩ = some (.int .i64 (N 0 : Int)) := R.cell (i := 0) (by omega)
  have c1 : w.cell? ⟨b, 1, none⟩ = some (.int .i64 (N 1 : Int)) := R.cell (i := 1) (by omega)
  have c2 : w.cell? ⟨b, 2, none⟩ = some (.int .i64 (N 2 : Int)) := R.cell (i := 2) (by omega)
  have P := pcb_stake F cb C hC hb g hg (N 0) (N 1) (N 2) (small_nat _ (hN 0 (by omega))) A w.drew (hL.e.below (drew_b w)) (h.below (drew_b w))
  have n0 := hN 0 (by omega)
  have n1 := hN 1 (by omega)
  have n2 := hN 2 (by omega)
  clear h R hN
  go_enter Tryz.func62, Tryz.ntmps62
  go_wp2_with fail
  go_region_held3 (fun w' => w'.cell? ⟨pl, 0, none⟩ = some (.pointer (some ⟨cb, 0, none⟩)) ∧ w'.cell? ⟨b, 0, none⟩ = some (.int .i64 (N 0 : Int)) ∧ w'.cell? ⟨b, 1, none⟩ = some (.int .i64 (N 1 : Int)) ∧ w'.cell? ⟨b, 2, none⟩ = some (.int .i64 (N 2 : Int))) (exact ⟨by assumption, by assumption, by assumption, by assumption⟩)
    (first
      | (go_at_call 63; refine P.mono ?_; rintro e w5 ⟨ev, F5, rfl, hE, hP, hM⟩; have dp : w5.cell? ⟨pl, 0, none⟩ = some (.pointer (some ⟨cb, 0, none⟩)) := hM.kept.old hpl npl; have d0 : w5.cell? ⟨b, 0, none⟩ = some (.int .i64 (N 0 : Int)) := hM.kept.old c0 nb; have d1 : w5.cell? ⟨b, 1, none⟩ = some (.int .i64 (N 1 : Int)) := hM.kept.old c1 nb; have d2 : w5.cell? ⟨b, 2, none⟩ = some (.int .i64 (N 2 : Int)) := hM.kept.old c2 nb))
  go_wp2_with fail
  go_ret
  exact ⟨ev, F5, rfl, hE, hP, moved_drew hM⟩
set_option maxRecDepth 100000 in
set_option maxHeartbeats 1000000 in
theorem c_unstake {sb : Nat} (F : Nat → Prop) (cb : Nat) (C : Ch) (hC : C.Ok) (hb : C.Few) (g : Nat) (hg : g ≤ 850000) (pl b : Nat) (N : Nat → Nat) (hN : ∀ i, i < 3 → N i ≤ 9999999) (A : Nat → Addr) (w : World) (hL : ChLaid w A) (h : PCb sb F w cb C g) (hpl : w.cell? ⟨pl, 0, none⟩ = some (.pointer (some ⟨cb, 0, none⟩))) (npl : ¬ F pl) (R : NumRow w b 3 N) (nb : ¬ F b) :
    Calls Tryz.prog 64 #[.slice (some ⟨b, 0, none⟩) 3 3, .pointer (some ⟨pl, 0, none⟩)] w (CbEnd sb F cb g (C.unstake (N 0) (N 1) (N 2)) (C.s.leaveC (N 0) (N 1) (N 2) C.cyc) A w) := by
  have c0 : w.cell? ⟨b, 0, none⟩ = some (.int .i64 (N 0 : Int)) := R.cell (i := 0) (by omega)
  have c1 : w.cell? ⟨b, 1, none⟩ = some (.int .i64 (N 1 : Int)) := R.cell (i := 1) (by omega)
  have c2 : w.cell? ⟨b, 2, none⟩ = some (.int .i64 (N 2 : Int)) := R.cell (i := 2) (by omega)
  have P := pcb_unstake F cb C hC hb g hg (N 0) (N 1) (N 2) (small_nat _ (hN 0 (by omega))) A w.drew (hL.e.below (drew_b w)) (h.below (drew_b w))
  have n0 := hN 0 (by omega)
  have n1 := hN 1 (by omega)
  have n2 := hN 2 (by omega)
  clear h R hN
  go_enter Tryz.func64, Tryz.ntmps64
  go_wp2_with fail
  go_region_held3 (fun w' => w'.cell? ⟨pl, 0, none⟩ = some (.pointer (some ⟨cb, 0, none⟩)) ∧ w'.cell? ⟨b, 0, none⟩ = some (.int .i64 (N 0 : Int)) ∧ w'.cell? ⟨b, 1, none⟩ = some (.int .i64 (N 1 : Int)) ∧ w'.cell? ⟨b, 2, none⟩ = some (.int .i64 (N 2 : Int))) (exact ⟨by assumption, by assumption, by assumption, by assumption⟩)
    (first
      | (go_at_call 65; refine P.mono ?_; rintro e w5 ⟨ev, F5, rfl, hE, hP, hM⟩; have dp : w5.cell? ⟨pl, 0, none⟩ = some (.pointer (some ⟨cb, 0, none⟩)) := hM.kept.old hpl npl; have d0 : w5.cell? ⟨b, 0, none⟩ = some (.int .i64 (N 0 : Int)) := hM.kept.old c0 nb; have d1 : w5.cell? ⟨b, 1, none⟩ = some (.int .i64 (N 1 : Int)) := hM.kept.old c1 nb; have d2 : w5.cell? ⟨b, 2, none⟩ = some (.int .i64 (N 2 : Int)) := hM.kept.old c2 nb))
  go_wp2_with fail
  go_ret
  exact ⟨ev, F5, rfl, hE, hP, moved_drew hM⟩
set_option maxRecDepth 100000 in
set_option maxHeartbeats 1000000 in
theorem c_free {sb : Nat} (F : Nat → Prop) (cb : Nat) (C : Ch) (hC : C.Ok) (hb : C.Few) (g : Nat) (hg : g ≤ 850000) (pl b : Nat) (N : Nat → Nat) (hN : ∀ i, i < 1 → N i ≤ 9999999) (A : Nat → Addr) (w : World) (hL : ChLaid w A) (h : PCb sb F w cb C g) (hpl : w.cell? ⟨pl, 0, none⟩ = some (.pointer (some ⟨cb, 0, none⟩))) (npl : ¬ F pl) (R : NumRow w b 1 N) (nb : ¬ F b) :
    Calls Tryz.prog 70 #[.slice (some ⟨b, 0, none⟩) 1 1, .pointer (some ⟨pl, 0, none⟩)] w (CbEndN sb F cb g (C.free (N 0)) (C.s.freeN (N 0) C.cyc) (C.s.freeC (N 0) C.cyc) A w) := by
  have c0 : w.cell? ⟨b, 0, none⟩ = some (.int .i64 (N 0 : Int)) := R.cell (i := 0) (by omega)
  have P := pcb_free F cb C hC hb g hg (N 0) (small_nat _ (hN 0 (by omega))) A w.drew (hL.e.below (drew_b w)) (h.below (drew_b w))
  have n0 := hN 0 (by omega)
  clear h R hN
  go_enter Tryz.func70, Tryz.ntmps70
  go_wp2_with fail
  go_region_held3 (fun w' => w'.cell? ⟨pl, 0, none⟩ = some (.pointer (some ⟨cb, 0, none⟩)) ∧ w'.cell? ⟨b, 0, none⟩ = some (.int .i64 (N 0 : Int))) (exact ⟨by assumption, by assumption⟩)
    (first
      | (go_at_call 71; refine P.mono ?_; rintro e w5 ⟨ev, F5, rfl, hE, hP, hM⟩; have dp : w5.cell? ⟨pl, 0, none⟩ = some (.pointer (some ⟨cb, 0, none⟩)) := hM.kept.old hpl npl; have d0 : w5.cell? ⟨b, 0, none⟩ = some (.int .i64 (N 0 : Int)) := hM.kept.old c0 nb))
  go_wp2_with fail
  go_ret2
  exact ⟨ev, F5, rfl, hE, hP, moved_drew hM⟩
set_option maxRecDepth 100000 in
set_option maxHeartbeats 1000000 in
theorem c_has {sb : Nat} (F : Nat → Prop) (cb : Nat) (C : Ch) (hC : C.Ok) (g : Nat) (pl : Nat) (b : Nat) (N : Nat → Nat) (hN : ∀ i, i < 1 → N i ≤ 9999999) (w : World) (h : PCb sb F w cb C g) (hpl : w.cell? ⟨pl, 0, none⟩ = some (.pointer (some ⟨cb, 0, none⟩))) (R : NumRow w b 1 N) :
    Calls Tryz.prog 80 #[.slice (some ⟨b, 0, none⟩) 1 1, .pointer (some ⟨pl, 0, none⟩)] w fun e w' => e = .returned (.int .i64 (C.p.s (N 0))) ∧ Below w.heap.size w w' := by
  have c0 : w.cell? ⟨b, 0, none⟩ = some (.int .i64 (N 0 : Int)) := R.cell (i := 0) (by omega)
  have P := pcb_has F cb C hC g (N 0) w.drew (h.below (drew_b w))
  have n0 := hN 0 (by omega)
  clear h R hN
  go_enter Tryz.func80, Tryz.ntmps80
  go_wp2_with fail
  go_region_held3 (fun w' => w'.cell? ⟨pl, 0, none⟩ = some (.pointer (some ⟨cb, 0, none⟩)) ∧ w'.cell? ⟨b, 0, none⟩ = some (.int .i64 (N 0 : Int))) (exact ⟨by assumption, by assumption⟩)
    (first
      | (go_at_call 81; refine P.mono ?_; rintro e w5 ⟨rfl, hB5⟩; have dp : w5.cell? ⟨pl, 0, none⟩ = some (.pointer (some ⟨cb, 0, none⟩)) := was_cellP hB5 hpl; have d0 : w5.cell? ⟨b, 0, none⟩ = some (.int .i64 (N 0 : Int)) := was_cellP hB5 c0))
  go_wp2_with fail
  go_ret
  exact ⟨rfl, (drew_b w).trans (hB5.mono (Nat.le_refl _))⟩
set_option maxRecDepth 100000 in
set_option maxHeartbeats 1000000 in
theorem c_staked {sb : Nat} (F : Nat → Prop) (cb : Nat) (C : Ch) (hC : C.Ok) (g : Nat) (ss : Nat) (b : Nat) (N : Nat → Nat) (hN : ∀ i, i < 1 → N i ≤ 9999999) (w : World) (h : PCb sb F w cb C g) (hss : w.cell? ⟨ss, 0, none⟩ = some (.pointer (some ⟨sb, 0, none⟩))) (R : NumRow w b 1 N) :
    Calls Tryz.prog 82 #[.slice (some ⟨b, 0, none⟩) 1 1, .pointer (some ⟨ss, 0, none⟩)] w fun e w' => e = .returned (.int .i64 ((C.s.P (N 0)).T)) ∧ Below w.heap.size w w' := by
  have c0 : w.cell? ⟨b, 0, none⟩ = some (.int .i64 (N 0 : Int)) := R.cell (i := 0) (by omega)
  obtain ⟨Fs, hs, _⟩ := (h.below (drew_b w)).stk
  have P : Calls Tryz.prog 83 #[.pointer (some ⟨sb, 0, none⟩), .int .i64 (N 0 : Int)] w.drew fun e w' => e = .returned (.int .i64 ((C.s.P (N 0)).T)) ∧ Below w.drew.heap.size w.drew w' := (ps_staked Fs sb C.s hC.s g (N 0) w.drew hs).mono fun e w' ⟨he, m, hm⟩ => ⟨he, by rw [hm]; exact below_drewN (Below.refl _ _) m⟩
  have n0 := hN 0 (by omega)
  clear h R hN
  go_enter Tryz.func82, Tryz.ntmps82
  go_wp2_with fail
  go_region_held3 (fun w' => w'.cell? ⟨ss, 0, none⟩ = some (.pointer (some ⟨sb, 0, none⟩)) ∧ w'.cell? ⟨b, 0, none⟩ = some (.int .i64 (N 0 : Int))) (exact ⟨by assumption, by assumption⟩)
    (first
      | (go_at_call 83; refine P.mono ?_; rintro e w5 ⟨rfl, hB5⟩; have dp : w5.cell? ⟨ss, 0, none⟩ = some (.pointer (some ⟨sb, 0, none⟩)) := was_cellP hB5 hss; have d0 : w5.cell? ⟨b, 0, none⟩ = some (.int .i64 (N 0 : Int)) := was_cellP hB5 c0))
  go_wp2_with fail
  go_ret
  exact ⟨rfl, (drew_b w).trans (hB5.mono (Nat.le_refl _))⟩
set_option maxRecDepth 100000 in
set_option maxHeartbeats 1000000 in
theorem c_value {sb : Nat} (F : Nat → Prop) (cb : Nat) (C : Ch) (hC : C.Ok) (g : Nat) (ss : Nat) (b : Nat) (N : Nat → Nat) (hN : ∀ i, i < 2 → N i ≤ 9999999) (w : World) (h : PCb sb F w cb C g) (hss : w.cell? ⟨ss, 0, none⟩ = some (.pointer (some ⟨sb, 0, none⟩))) (R : NumRow w b 2 N) :
    Calls Tryz.prog 84 #[.slice (some ⟨b, 0, none⟩) 2 2, .pointer (some ⟨ss, 0, none⟩)] w fun e w' => e = .returned (.int .i64 ((C.s.P (N 1)).val (N 0))) ∧ Below w.heap.size w w' := by
  have c0 : w.cell? ⟨b, 0, none⟩ = some (.int .i64 (N 0 : Int)) := R.cell (i := 0) (by omega)
  have c1 : w.cell? ⟨b, 1, none⟩ = some (.int .i64 (N 1 : Int)) := R.cell (i := 1) (by omega)
  obtain ⟨Fs, hs, _⟩ := (h.below (drew_b w)).stk
  have P : Calls Tryz.prog 85 #[.pointer (some ⟨sb, 0, none⟩), .int .i64 (N 0 : Int), .int .i64 (N 1 : Int)] w.drew fun e w' => e = .returned (.int .i64 ((C.s.P (N 1)).val (N 0))) ∧ Below w.drew.heap.size w.drew w' := (ps_value Fs sb C.s hC.s g (N 0) (N 1) (small_nat _ (hN 0 (by omega))) w.drew hs).mono fun e w' ⟨he, m, hm⟩ => ⟨he, by rw [hm]; exact below_drewN (Below.refl _ _) m⟩
  have n0 := hN 0 (by omega)
  have n1 := hN 1 (by omega)
  clear h R hN
  go_enter Tryz.func84, Tryz.ntmps84
  go_wp2_with fail
  go_region_held3 (fun w' => w'.cell? ⟨ss, 0, none⟩ = some (.pointer (some ⟨sb, 0, none⟩)) ∧ w'.cell? ⟨b, 0, none⟩ = some (.int .i64 (N 0 : Int)) ∧ w'.cell? ⟨b, 1, none⟩ = some (.int .i64 (N 1 : Int))) (exact ⟨by assumption, by assumption, by assumption⟩)
    (first
      | (go_at_call 85; refine P.mono ?_; rintro e w5 ⟨rfl, hB5⟩; have dp : w5.cell? ⟨ss, 0, none⟩ = some (.pointer (some ⟨sb, 0, none⟩)) := was_cellP hB5 hss; have d0 : w5.cell? ⟨b, 0, none⟩ = some (.int .i64 (N 0 : Int)) := was_cellP hB5 c0; have d1 : w5.cell? ⟨b, 1, none⟩ = some (.int .i64 (N 1 : Int)) := was_cellP hB5 c1))
  go_wp2_with fail
  go_ret
  exact ⟨rfl, (drew_b w).trans (hB5.mono (Nat.le_refl _))⟩
set_option maxRecDepth 100000 in
set_option maxHeartbeats 1000000 in
theorem c_waits {sb : Nat} (F : Nat → Prop) (cb : Nat) (C : Ch) (hC : C.Ok) (g : Nat) (ss : Nat) (b : Nat) (N : Nat → Nat) (hN : ∀ i, i < 3 → N i ≤ 9999999) (w : World) (h : PCb sb F w cb C g) (hss : w.cell? ⟨ss, 0, none⟩ = some (.pointer (some ⟨sb, 0, none⟩))) (R : NumRow w b 3 N) :
    Calls Tryz.prog 86 #[.slice (some ⟨b, 0, none⟩) 3 3, .pointer (some ⟨ss, 0, none⟩)] w fun e w' => e = .returned (.int .i64 ((C.s.W (N 1) (N 2)).val (N 0))) ∧ Below w.heap.size w w' := by
  have c0 : w.cell? ⟨b, 0, none⟩ = some (.int .i64 (N 0 : Int)) := R.cell (i := 0) (by omega)
  have c1 : w.cell? ⟨b, 1, none⟩ = some (.int .i64 (N 1 : Int)) := R.cell (i := 1) (by omega)
  have c2 : w.cell? ⟨b, 2, none⟩ = some (.int .i64 (N 2 : Int)) := R.cell (i := 2) (by omega)
  obtain ⟨Fs, hs, _⟩ := (h.below (drew_b w)).stk
  have P : Calls Tryz.prog 87 #[.pointer (some ⟨sb, 0, none⟩), .int .i64 (N 0 : Int), .int .i64 (N 1 : Int), .int .i64 (N 2 : Int)] w.drew fun e w' => e = .returned (.int .i64 ((C.s.W (N 1) (N 2)).val (N 0))) ∧ Below w.drew.heap.size w.drew w' := ps_waits Fs sb C.s hC.s g (N 0) (N 1) (N 2) (small_nat _ (hN 0 (by omega))) (small_nat _ (hN 2 (by omega))) w.drew hs
  have n0 := hN 0 (by omega)
  have n1 := hN 1 (by omega)
  have n2 := hN 2 (by omega)
  clear h R hN
  go_enter Tryz.func86, Tryz.ntmps86
  go_wp2_with fail
  go_region_held3 (fun w' => w'.cell? ⟨ss, 0, none⟩ = some (.pointer (some ⟨sb, 0, none⟩)) ∧ w'.cell? ⟨b, 0, none⟩ = some (.int .i64 (N 0 : Int)) ∧ w'.cell? ⟨b, 1, none⟩ = some (.int .i64 (N 1 : Int)) ∧ w'.cell? ⟨b, 2, none⟩ = some (.int .i64 (N 2 : Int))) (exact ⟨by assumption, by assumption, by assumption, by assumption⟩)
    (first
      | (go_at_call 87; refine P.mono ?_; rintro e w5 ⟨rfl, hB5⟩; have dp : w5.cell? ⟨ss, 0, none⟩ = some (.pointer (some ⟨sb, 0, none⟩)) := was_cellP hB5 hss; have d0 : w5.cell? ⟨b, 0, none⟩ = some (.int .i64 (N 0 : Int)) := was_cellP hB5 c0; have d1 : w5.cell? ⟨b, 1, none⟩ = some (.int .i64 (N 1 : Int)) := was_cellP hB5 c1; have d2 : w5.cell? ⟨b, 2, none⟩ = some (.int .i64 (N 2 : Int)) := was_cellP hB5 c2))
  go_wp2_with fail
  go_ret
  exact ⟨rfl, (drew_b w).trans (hB5.mono (Nat.le_refl _))⟩
set_option maxRecDepth 100000 in
set_option maxHeartbeats 1000000 in
theorem c_supply {sb : Nat} (F : Nat → Prop) (cb : Nat) (C : Ch) (_hC : C.Ok) (g : Nat) (pl : Nat) (v : Value) (w : World) (h : PCb sb F w cb C g) (hpl : w.cell? ⟨pl, 0, none⟩ = some (.pointer (some ⟨cb, 0, none⟩))) :
    Calls Tryz.prog 88 #[v, .pointer (some ⟨pl, 0, none⟩)] w fun e w' => e = .returned (.int .i64 (C.p.S)) ∧ Below w.heap.size w w' := by
  have P := pcb_supply F cb C g w h
  clear h
  go_enter Tryz.func88, Tryz.ntmps88
  go_wp2_with fail
  refine P.mono ?_
  rintro e w5 ⟨rfl, hB5⟩
  go_wp2_with fail
  go_ret
  exact ⟨rfl, hB5⟩
set_option maxRecDepth 100000 in
set_option maxHeartbeats 1000000 in
theorem c_bonus {sb : Nat} (F : Nat → Prop) (cb : Nat) (C : Ch) (_hC : C.Ok) (g : Nat) (pl : Nat) (v : Value) (w : World) (h : PCb sb F w cb C g) (hpl : w.cell? ⟨pl, 0, none⟩ = some (.pointer (some ⟨cb, 0, none⟩))) :
    Calls Tryz.prog 90 #[v, .pointer (some ⟨pl, 0, none⟩)] w fun e w' => e = .returned (.int .i64 (C.bon)) ∧ Below w.heap.size w w' := by
  have P := pcb_bonus F cb C g w h
  clear h
  go_enter Tryz.func90, Tryz.ntmps90
  go_wp2_with fail
  refine P.mono ?_
  rintro e w5 ⟨rfl, hB5⟩
  go_wp2_with fail
  go_ret
  exact ⟨rfl, hB5⟩
end Go.Proofs.YtmbfdhekplnoaaaGreatDoor

namespace Go.Proofs.YtmbfdhekplnoaaaGreatDoor
open Go.RowKit

theorem Turn.bkS {C : Ch} (hC : C.Ok) {r k : Int} (h : Turn 3 C.pic C.seed C.cyc C.lev r k) : Bk k := by
  have t := hC.turn
  obtain ⟨j, rfl, hj, _⟩ := h.heavy t.1 t.2
  exact ⟨by omega, by omega⟩
theorem Ch.Fit.fewS {C : Ch} {j : Nat} (h : C.Fit j) (hj : j ≤ 400) : C.Few :=
  ⟨Nat.le_trans h.k hj, Nat.le_trans h.l hj, by have := h.y; have := h.v; omega, Nat.le_trans h.v hj⟩
theorem Ch.bake_levS (C : Ch) (k : Int) : (C.bake k).lev = C.lev + 1 := by
  show (C.paid k).stepped.lev = _
  rw [Ch.stepped_lev, (C.paid_same k).2.1]
set_option maxRecDepth 100000 in
theorem evidence_of (b k off : Nat) (N : Nat → Nat) (w : World) (c0 : w.cell? ⟨b, off, none⟩ = some (.int .i64 (N 0 : Int))) (c1 : w.cell? ⟨b, off + 1, none⟩ = some (.int .i64 (N 1 : Int))) (c2 : w.cell? ⟨b, off + 2, none⟩ = some (.int .i64 (N 2 : Int))) :
    Calls Tryz.prog 68 #[.slice (some ⟨b, off, none⟩) 3 k] w fun e w' => e = .returned (.agg #[.int .i64 (N 0 : Int), .int .i64 (N 1 : Int), .int .i64 (N 2 : Int)]) ∧ Below w.heap.size w w' := by
  have l := cell_lt c0
  have al : ∀ {a : Addr} {v : Value} (o : Obj), w.cell? a = some v → (w.alloc o).cell? a = some v := fun o h => was_cellP ((Below.refl _ _).alloc (Nat.le_refl _) o) h
  have e0 := al (.cells #[.int .i64 0, .int .i64 0, .int .i64 0] 91) c0
  have e1 := al (.cells #[.int .i64 0, .int .i64 0, .int .i64 0] 91) c1
  have e2 := al (.cells #[.int .i64 0, .int .i64 0, .int .i64 0] 91) c2
  clear al c0 c1 c2
  go_enter Tryz.func68, Tryz.ntmps68
  go_wp2_with fail
  go_region
  all_goals go_wp2_with fail
  all_goals exact bodyPost_ret (v := .agg #[.int .i64 (N 0 : Int), .int .i64 (N 1 : Int), .int .i64 (N 2 : Int)]) (by simp [results, Tryz.results68, go_sem]) rfl ⟨rfl, ((Below.refl _ _).alloc (Nat.le_refl _) _).drew⟩
theorem pair_of (a b : Int) (ha : 0 ≤ a) (a9 : a ≤ 9223372036854775807) (hb : 0 ≤ b) (b9 : b ≤ 9223372036854775807) (ev : Value) (w : World) (hT : Tens w) :
    Calls Tryz.prog 73 #[.int .i64 a, .int .i64 b, ev] w fun e w' => e = .returned (.tuple #[.string (bs (dec a.toNat ++ 32 :: dec b.toNat)), ev]) ∧ Below w.heap.size w w' := by
  have z1 : ¬ 9223372036854775807 < (bs (dec a.toNat)).size + (bs [32]).size := by rw [bs_size, bs_size]; have := dec_len19 (n := a.toNat) (by omega); simp only [List.length_cons, List.length_nil]; omega
  have z2 : ¬ 9223372036854775807 < (bs (dec a.toNat) ++ bs [32]).size + (bs (dec b.toNat)).size := by rw [bs_append, bs_size, bs_size]; have := dec_len19 (n := a.toNat) (by omega); have := dec_len19 (n := b.toNat) (by omega); simp only [List.length_append, List.length_cons, List.length_nil]; omega
  have E : Hid (bs (dec a.toNat) ++ bs [32] ++ bs (dec b.toNat) = bs (dec a.toNat ++ 32 :: dec b.toNat)) := hide (line_bs _ _)
  go_enter Tryz.func73, Tryz.ntmps73
  go_wp2_with fail
  refine (sc_itoa a ha a9 w hT).mono ?_
  rintro e w1 ⟨rfl, hB1⟩
  have T1 := hT.below hB1
  have eq : (bs [32]) = { data := #[32] } := rfl
  rw [eq] at z1 z2 E
  clear eq
  go_wp2_with fail
  refine (sc_itoa b hb b9 w1 T1).mono ?_
  rintro e w2 ⟨rfl, hB2⟩
  go_wp2_with fail
  go_ret2
  exact ⟨by rw [E.out]; rfl, hB1.trans (hB2.mono hB1.size)⟩
set_option maxRecDepth 100000 in
set_option maxHeartbeats 1000000 in
theorem c_accuse {sb : Nat} (F : Nat → Prop) (cb : Nat) (C : Ch) (hC : C.Ok) (hb : C.Few) (g : Nat) (hg : g ≤ 850000) (pl b : Nat) (N : Nat → Nat) (hN : ∀ i, i < 4 → N i ≤ 9999999) (A : Nat → Addr) (w : World) (hL : ChLaid w A) (h : PCb sb F w cb C g) (hpl : w.cell? ⟨pl, 0, none⟩ = some (.pointer (some ⟨cb, 0, none⟩))) (npl : ¬ F pl) (R : NumRow w b 4 N) (nb : ¬ F b) :
    Calls Tryz.prog 66 #[.slice (some ⟨b, 0, none⟩) 4 4, .pointer (some ⟨pl, 0, none⟩)] w (CbEnd sb F cb g (C.accuse (N 0) (N 1, N 2, N 3)) (C.c.accC (N 0) (N 1, N 2, N 3) C.cyc) A w) := by
  have c0 : w.cell? ⟨b, 0, none⟩ = some (.int .i64 (N 0 : Int)) := R.cell (i := 0) (by omega)
  have c1 : w.cell? ⟨b, 1, none⟩ = some (.int .i64 (N 1 : Int)) := R.cell (i := 1) (by omega)
  have c2 : w.cell? ⟨b, 2, none⟩ = some (.int .i64 (N 2 : Int)) := R.cell (i := 2) (by omega)
  have c3 : w.cell? ⟨b, 3, none⟩ = some (.int .i64 (N 3 : Int)) := R.cell (i := 3) (by omega)
  have P1 := evidence_of b 3 1 (fun i => N (i + 1)) w.drew c1 c2 c3
  have P2 := hide (fun w5 (B5 : Below w.drew.heap.size w.drew w5) => pcb_accuse F cb C hC hb g hg (N 0) (N 1) (N 2) (N 3) (small_nat _ (hN 0 (by omega))) (small_nat _ (hN 1 (by omega))) (small_nat _ (hN 2 (by omega))) (small_nat _ (hN 3 (by omega))) A w5 ((hL.below (drew_b w)).below B5) ((h.below (drew_b w)).below B5))
  have ST := hide h
  clear h R hN hL c1 c2 c3
  go_enter Tryz.func66, Tryz.ntmps66
  go_wp2_with fail
  go_region_held3 (fun w' => w'.cell? ⟨pl, 0, none⟩ = some (.pointer (some ⟨cb, 0, none⟩)) ∧ w'.cell? ⟨b, 0, none⟩ = some (.int .i64 (N 0 : Int))) (exact ⟨by assumption, by assumption⟩)
    (first
      | (go_at_call 68; refine P1.mono ?_; rintro e w5 ⟨rfl, hB5⟩; have dp : w5.cell? ⟨pl, 0, none⟩ = some (.pointer (some ⟨cb, 0, none⟩)) := was_cellP hB5 hpl; have d0 : w5.cell? ⟨b, 0, none⟩ = some (.int .i64 (N 0 : Int)) := was_cellP hB5 c0)
      | (go_at_call 67; refine (P2.out w5 hB5).mono ?_; rintro e w6 ⟨ev, F6, rfl, hE, hP, hM⟩; have dp6 : w6.cell? ⟨pl, 0, none⟩ = some (.pointer (some ⟨cb, 0, none⟩)) := hM.kept.old dp npl; have d06 : w6.cell? ⟨b, 0, none⟩ = some (.int .i64 (N 0 : Int)) := hM.kept.old d0 nb))
  go_wp2_with fail
  go_ret
  exact ⟨ev, F6, rfl, hE, hP, (ST.out.stays ((drew_b w).trans (hB5.mono (Nat.le_refl _)))).trans hM⟩
def BakeEnd (sb : Nat) (F : Nat → Prop) (cb g : Nat) (C : Ch) (d : Nat) (A : Nat → Addr) (w : World) (e : Ending) (w' : World) : Prop :=
  ∃ (k n c : Int) (ev : Value) (C' : Ch) (F' : Nat → Prop), e = .returned (.tuple #[.int .i64 k, .int .i64 n, ev]) ∧ ErrIs A ev c ∧ ((c = 0 ∧ d < 8 ∧ Turn 3 C.pic C.seed C.cyc C.lev d k ∧ n = C.bakeN k ∧ C' = C.bake k) ∨ (c = 2 ∧ 8 ≤ d ∧ C' = C)) ∧ (0 ≤ k ∧ k ≤ 9223372036854775807) ∧ (0 ≤ n ∧ n ≤ 9223372036854775807) ∧ PCb sb F' w' cb C' (g + 2000) ∧ Moved F F' w w'
set_option maxRecDepth 100000 in
theorem player_bake {sb : Nat} (F : Nat → Prop) (cb : Nat) (C : Ch) (hC : C.Ok) (j : Nat) (hj : j ≤ 400) (hf : C.Fit j) (g : Nat) (hg : g ≤ 850000) (d : Nat) (A : Nat → Addr) (w : World) (hL : ChLaid8 w A) (h : PCb sb F w cb C g) :
    Calls Tryz.prog 74 #[.agg #[.pointer (some ⟨cb, 0, none⟩)], .int .i64 d] w (BakeEnd sb F cb g C d A w) := by
  have hB0 : Below w.heap.size w (w.alloc (.cells #[.pointer (some ⟨cb, 0, none⟩)] 72)) := (Below.refl _ _).alloc (Nat.le_refl _) _
  have k0 : (w.alloc (.cells #[.pointer (some ⟨cb, 0, none⟩)] 72)).cell? ⟨w.heap.size, 0, none⟩ = some (.pointer (some ⟨cb, 0, none⟩)) := cell_new _ _ _ _ _ _ rfl rfl
  have h0 := h.below hB0
  have L0 := hL.below hB0
  have S0 := h.stays hB0
  have few := hf.fewS hj
  go_enter Tryz.func74, Tryz.ntmps74
  go_wp2_with fail
  by_cases hr : d < 8
  · have T : TurnOk C.cyc C.lev d := hf.turn (by omega) (by omega) (by omega)
    refine (pcb_turn F cb C hC few g d T A _ L0 h0).mono ?_
    rintro e w1 ⟨k, rfl, hT, hB1⟩
    have h1 := h0.below hB1
    have M1 := S0.trans (h0.stays hB1)
    have L1 := L0.below hB1
    have p1 := was_cellP hB1 k0
    have HT := hide hT
    clear hT h h0 hB1 S0 k0 hB0 L0
    go_wp2_with fail
    refine (pcb_bake_own F cb C hC few g hg k d T (fun k' h' => h'.one HT.out) A w1 L1 h1).mono ?_
    rintro e w2 ⟨ev, F2, rfl, hE, h2, M2⟩
    have M3 := M1.trans M2
    have bk := Turn.bkS hC HT.out
    have n9 : C.bakeN k ≤ 9223372036854775807 := by have := (Ch.Went.bake hC hf k).nS; have := hC.p.top; omega
    clear M1 M2 h1 L1
    go_wp2_with fail
    exact bodyPost_ret (v := .tuple #[.int .i64 k, .int .i64 (C.bakeN k), ev]) (by simp [results, Tryz.results74, go_sem]) rfl ⟨k, _, 0, ev, _, F2, rfl, hE, .inl ⟨rfl, hr, HT.out, rfl, rfl⟩, ⟨by have := bk.1; omega, by have := bk.2; omega⟩, ⟨(hC.bakeN_bd k).1, n9⟩, h2, M3⟩
  · have T : ¬ TurnOk C.cyc C.lev d := fun z => by have := z.2.2.2; omega
    refine (pcb_turn_bad F cb C hC few g d T A _ L0 h0).mono ?_
    rintro e w1 ⟨ev, rfl, hE, hB1⟩
    have h1 := h0.below hB1
    have M1 := S0.trans (h0.stays hB1)
    have HE := hide hE
    rcases hE with ⟨z, _⟩ | ⟨i, hi, e, rfl⟩
    · exact absurd z (by decide)
    clear h h0 hB1 S0 k0 hB0 L0
    go_wp2_with fail
    exact bodyPost_ret (v := .tuple #[.int .i64 0, .int .i64 0, sent (A i)]) (by simp [results, Tryz.results74, go_sem]) rfl ⟨0, 0, 2, _, C, F, rfl, HE.out, .inr ⟨rfl, by omega, rfl⟩, ⟨by omega, by omega⟩, ⟨by omega, by omega⟩, h1.more (by omega), M1⟩
set_option maxRecDepth 100000 in
set_option maxHeartbeats 1000000 in
theorem c_turn {sb : Nat} (F : Nat → Prop) (cb : Nat) (C : Ch) (hC : C.Ok) (j : Nat) (hj : j ≤ 400) (hf : C.Fit j) (g : Nat) (pl b : Nat) (N : Nat → Nat) (hN : ∀ i, i < 1 → N i ≤ 9999999) (A : Nat → Addr) (w : World) (hL : ChLaid w A) (h : PCb sb F w cb C g) (hpl : w.cell? ⟨pl, 0, none⟩ = some (.pointer (some ⟨cb, 0, none⟩))) (R : NumRow w b 1 N) :
    Calls Tryz.prog 77 #[.slice (some ⟨b, 0, none⟩) 1 1, .pointer (some ⟨pl, 0, none⟩)] w fun e w' => ∃ k c ev, e = .returned (.tuple #[.int .i64 k, ev]) ∧ ErrIs A ev c ∧ ((c = 0 ∧ N 0 < 8 ∧ Turn 3 C.pic C.seed C.cyc C.lev (N 0) k) ∨ (c = 2 ∧ 8 ≤ N 0)) ∧ (0 ≤ k ∧ k ≤ 9223372036854775807) ∧ Below w.heap.size w w' := by
  have c0 : w.cell? ⟨b, 0, none⟩ = some (.int .i64 (N 0 : Int)) := R.cell (i := 0) (by omega)
  have n0 := hN 0 (by omega)
  have few := hf.fewS hj
  have P : Calls Tryz.prog 78 #[.pointer (some ⟨cb, 0, none⟩), .int .i64 (N 0 : Int)] w.drew fun e w' => ∃ k c ev, e = .returned (.tuple #[.int .i64 k, ev]) ∧ ErrIs A ev c ∧ ((c = 0 ∧ N 0 < 8 ∧ Turn 3 C.pic C.seed C.cyc C.lev (N 0) k) ∨ (c = 2 ∧ 8 ≤ N 0)) ∧ (0 ≤ k ∧ k ≤ 9223372036854775807) ∧ Below w.drew.heap.size w.drew w' := by
    by_cases hr : N 0 < 8
    · refine (pcb_turn F cb C hC few g (N 0) (hf.turn (by omega) (by omega) (by omega)) A w.drew (hL.e.below (drew_b w)) (h.below (drew_b w))).mono ?_
      rintro e w' ⟨k, rfl, hT, hB⟩
      have bk := Turn.bkS hC hT
      exact ⟨k, 0, _, rfl, .inl ⟨rfl, rfl⟩, .inl ⟨rfl, hr, hT⟩, ⟨by have := bk.1; omega, by have := bk.2; omega⟩, hB⟩
    · refine (pcb_turn_bad F cb C hC few g (N 0) (fun z => by have := z.2.2.2; omega) A w.drew (hL.e.below (drew_b w)) (h.below (drew_b w))).mono ?_
      rintro e w' ⟨ev, rfl, hE, hB⟩
      exact ⟨0, 2, _, rfl, hE, .inr ⟨rfl, by omega⟩, ⟨by omega, by omega⟩, hB⟩
  clear h R hN hL
  go_enter Tryz.func77, Tryz.ntmps77
  go_wp2_with fail
  go_region_held3 (fun w' => w'.cell? ⟨pl, 0, none⟩ = some (.pointer (some ⟨cb, 0, none⟩)) ∧ w'.cell? ⟨b, 0, none⟩ = some (.int .i64 (N 0 : Int))) (exact ⟨by assumption, by assumption⟩)
    (first
      | (go_at_call 78; refine P.mono ?_; rintro e w5 ⟨k, c, ev, rfl, hE, hW, hk, hB5⟩; have dp : w5.cell? ⟨pl, 0, none⟩ = some (.pointer (some ⟨cb, 0, none⟩)) := was_cellP hB5 hpl; have d0 : w5.cell? ⟨b, 0, none⟩ = some (.int .i64 (N 0 : Int)) := was_cellP hB5 c0; replace hW := hide hW; replace hk := hide hk))
  go_wp2_with fail
  go_ret2
  exact ⟨k, c, ev, rfl, hE, hW.out, hk.out, (drew_b w).trans (hB5.mono (Nat.le_refl _))⟩
set_option maxRecDepth 100000 in
set_option maxHeartbeats 1000000 in
theorem finish_of {sb : Nat} (F : Nat → Prop) (cb : Nat) (C : Ch) (hC : C.Ok) (j : Nat) (hj : j ≤ 396) (hf : C.Fit j) (g : Nat) (hg : g ≤ 840000) (A : Nat → Addr) (w : World) (hL : ChLaid8 w A) (h : PCb sb F w cb C g) :
    Calls Tryz.prog 76 #[.agg #[.pointer (some ⟨cb, 0, none⟩)]] w fun e w' => e = .returned .nilIface ∧ ∃ C' F', CycTo C.cyc C C' ∧ PCb sb F' w' cb C' (g + 8000) ∧ Moved F F' w w' := by
  have hB0 : Below w.heap.size w (w.alloc (.cells #[.pointer (some ⟨cb, 0, none⟩)] 72)) := (Below.refl _ _).alloc (Nat.le_refl _) _
  have k0 : (w.alloc (.cells #[.pointer (some ⟨cb, 0, none⟩)] 72)).cell? ⟨w.heap.size, 0, none⟩ = some (.pointer (some ⟨cb, 0, none⟩)) := cell_new _ _ _ _ _ _ rfl rfl
  have h0 := h.below hB0
  have L0 := hL.below hB0
  have S0 := h.stays hB0
  have nF : ¬ F w.heap.size := fun z => by have := h.lt _ z; omega
  obtain ⟨r4, hr4⟩ : ∃ r4 : Nat, C.lev % 4 = r4 := ⟨_, rfl⟩
  have r40 : r4 < 4 := by omega
  obtain ⟨n4, hn4⟩ : ∃ n4 : Nat, 4 - r4 = n4 := ⟨_, rfl⟩
  have lv := hf.v
  have cy := hf.y
  go_enter Tryz.func76, Tryz.ntmps76
  go_wp2_with fail
  refine (pcb_level F cb C g _ h0).mono ?_
  rintro e w1 ⟨rfl, hB1⟩
  have h1 := h0.below hB1
  have L1 := L0.below hB1
  have M1 := S0.trans (h0.stays hB1)
  have p1 := was_cellP hB1 k0
  have z1 : (C.lev : Int) % 4 = (r4 : Int) := by omega
  have z2 : (4 : Int) - (r4 : Int) = (n4 : Int) := by omega
  clear h h0 L0 S0 k0 hB0 hB1
  go_wp2_with fail
  go_loopw [11] (fun i wr => ∃ (q : Nat) (D : Ch) (F' : Nat → Prop), q ≤ n4 ∧ i = .int .i64 q ∧ D.Ok ∧ D.Fit (j + q) ∧ D.lev = C.lev + q ∧ PCb sb F' wr cb D (g + 2000 * q) ∧ Moved F F' w wr ∧ ¬ F' w.heap.size ∧ wr.cell? ⟨w.heap.size, 0, none⟩ = some (.pointer (some ⟨cb, 0, none⟩)) ∧ Hid (∀ E, CycTo C.cyc D E → CycTo C.cyc C E) ∧ ChLaid8 wr A) (fun i _ => n4 - (intOf i).toNat)
  case atStart => exact ⟨0, C, F, Nat.zero_le _, rfl, hC, hf, rfl, h1, M1, nF, p1, hide fun _ z => z, L1⟩
  case round =>
    obtain ⟨q, D, F', hq, rfl, oD, fD, vD, hD, hM, nF', pc, hY, LD⟩ := hrel
    have yD := fD.y
    clear h1 M1 p1 L1 z1 z2
    by_cases hlt : q < n4
    · have q1 : (q : Int) < (n4 : Int) := by omega
      have eD : D.cyc = C.cyc := by omega
      have P : Calls Tryz.prog 74 #[.agg #[.pointer (some ⟨cb, 0, none⟩)], .int .i64 0] wr (BakeEnd sb F' cb (g + 2000 * q) D 0 A wr) := player_bake F' cb D oD (j + q) (by omega) fD (g + 2000 * q) (by omega) 0 A wr LD hD
      have VD := hide vD
      have ED := hide eD
      clear vD eD yD cy lv
      go_wp2_with fail
      refine P.mono ?_
      rintro e w2 ⟨k, n, c, ev, D1, F2, rfl, hE, hW, _, _, h2, M2⟩
      obtain ⟨rfl, _, hT, _, rfl⟩ : c = 0 ∧ 0 < 8 ∧ Turn 3 D.pic D.seed D.cyc D.lev (0 : Nat) k ∧ n = D.bakeN k ∧ D1 = D.bake k := by
        rcases hW with z | ⟨_, z, _⟩
        · exact z
        · exact absurd z (by decide)
      obtain rfl : ev = .nilIface := by
        rcases hE with ⟨_, z⟩ | ⟨i, _, z, _⟩
        · exact z
        · omega
      have ok1 := (oD.bake k).1
      have ft1 : (D.bake k).Fit (j + (q + 1)) := (fD.bake k).more (by omega)
      have v1 : (D.bake k).lev = C.lev + (q + 1) := by rw [Ch.bake_levS, VD.out]; omega
      have M3 := hM.trans M2
      have wl : w.heap.size < wr.heap.size := cell_lt pc
      have nF2 : ¬ F2 w.heap.size := fun z => nF' (M2.old _ wl z)
      have p2 := M2.kept.old pc nF'
      have Y2 : Hid (∀ E, CycTo C.cyc (D.bake k) E → CycTo C.cyc C E) := hide fun E z => hY.out E (CycTo.more D E ED.out k hT z)
      have L2 := hD.laid LD M2.kept
      have h3 : PCb sb F2 w2 cb (D.bake k) (g + 2000 * (q + 1)) := h2.more (by omega)
      have OK1 := hide ok1
      have FT1 := hide ft1
      have V1 := hide v1
      clear hT hW hE h2 M2 hM hD pc hY LD P oD fD ok1 ft1 v1
      go_wp2_with fail
      go_roundw
      case rel => exact ⟨q + 1, _, F2, by omega, by go_num, OK1.out, FT1.out, V1.out, h3, M3, nF2, p2, Y2, L2⟩
      case measure => simp [intOf]; omega
    · obtain rfl : q = n4 := by omega
      have q1 : ¬ (q : Int) < (q : Int) := by omega
      have eD : Hid (D.cyc ≠ C.cyc) := hide (by omega)
      clear yD vD cy lv
      go_wp2_with fail
      go_ret
      exact ⟨rfl, D, hY.out D (CycTo.done D eD.out), F', hD.more (by omega), hM⟩
end Go.Proofs.YtmbfdhekplnoaaaGreatDoor
