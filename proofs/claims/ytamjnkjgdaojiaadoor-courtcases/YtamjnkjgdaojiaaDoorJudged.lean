/-
  The closed fact of the laws on courts: a case is brought.
-/
import Derived.Test.YtamjnkjgdaojiaaDoorProgCourtActs
import Derived.Test.YtamjnkjgdaojiaaDoorCoded2
import Derived.Test.YtamjnkjgdaojiaaDoorErrNil
import Derived.Test.YtamjnkjgdaojiaaDoorSides
namespace Go.Proofs.YtamjnkjgdaojiaaDoor
open Go.RowKit

theorem Laid.ct {w : World} {A : Nat → Addr} (h : Laid w A) : CtLaid w A := ⟨h.v1, h.v4, h.v9⟩
theorem PCt.drewN {F : Nat → Prop} {w : World} {cb g : Nat} {x : Ct} (h : PCt F w cb x g) (n : Nat) : PCt F (w.drewN n) cb x g := h.keptP (G := fun _ => False) ((KeptP.refl _ _).drewN n) (fun _ g => g.elim)
theorem PCt.nextB {F : Nat → Prop} {w w' : World} {cb g : Nat} {x : Ct} (h : PCt F w cb x g) (k : Below w.heap.size w w') : PCt F w' cb x g := h.keptP (KeptP.of_below (F := fun _ => False) k) fun _ g => g.elim
theorem CasesAt.keptP {w w' : World} {d : Value} {q : Nat} {L : List Cs} {G : Nat → Prop} (h : CasesAt w d q L) (hK : KeptP G w w') (hq : 0 < L.length → ¬ G q) : CasesAt w' d q L := by
  obtain ⟨a, off, cap, rfl, h1, h2, h3, h4⟩ := h
  refine ⟨a, off, cap, rfl, h1, h2, h3, fun i t ht => ?_⟩
  obtain ⟨a0, a1, a2, a3⟩ := h4 i t ht
  have hn := hq (by have := (List.getElem?_eq_some_iff.1 ht).1; omega)
  exact ⟨hK.old a0 hn, hK.old a1 hn, hK.old a2 hn, hK.old a3 hn⟩
set_option maxRecDepth 100000 in
set_option maxHeartbeats 1000000 in
theorem judged_of (A : Nat → Addr) (w : World) (hL : Laid w A) :
    Calls Tryd.prog 27 #[] w fun e w' => e = .returned (.bool true) ∧ Below w.heap.size w w' := by
  have o1 := ct0_ok.acc 2 (1, 3, 7) 4
  have o2 := o1.acc 3 (1, 3, 7) 4
  have k1 : (⟨[], 0⟩ : Ct).accC 2 (1, 3, 7) 4 = 0 := by decide
  have k2 : ((⟨[], 0⟩ : Ct).acc 2 (1, 3, 7) 4).accC 3 (1, 3, 7) 4 = 5 := by decide
  have k3 : (((⟨[], 0⟩ : Ct).acc 2 (1, 3, 7) 4).acc 3 (1, 3, 7) 4).due.length = 1 := by decide
  have k4 : ((⟨[], 0⟩ : Ct).acc 2 (1, 3, 7) 4).L.length ≤ 900 := by decide
  have k5 : (((⟨[], 0⟩ : Ct).acc 2 (1, 3, 7) 4).acc 3 (1, 3, 7) 4).L.length ≤ 900 := by decide
  have k6 : pctOf 7 = 50 := by decide
  obtain ⟨x1, e1⟩ : ∃ x1, x1 = (⟨[], 0⟩ : Ct).acc 2 (1, 3, 7) 4 := ⟨_, rfl⟩
  rw [← e1] at o1 o2 k2 k3 k4 k5
  obtain ⟨x2, e2⟩ : ∃ x2, x2 = x1.acc 3 (1, 3, 7) 4 := ⟨_, rfl⟩
  rw [← e2] at o2 k3 k5
  have K1 := hide k1
  have K2 := hide k2
  have K3 := hide k3
  have K6 := hide k6
  have E1 := hide e1
  have E2 := hide e2
  clear k1 k2 k3 k6 e1 e2
  go_enter Tryd.func27, Tryd.ntmps27
  go_wp2_with fail
  refine (pc_new _).mono ?_
  rintro e w1 ⟨cb, F1, rfl, hP1, hf, hB1⟩
  have hM1 := Mine.new hf hB1
  clear hf hB1
  go_wp2_with fail
  have hB2 : Below w1.heap.size w1 (w1.alloc (.cells #[.int .i64 1, .int .i64 3, .int .i64 7] 53)) := (Below.refl _ _).alloc (Nat.le_refl _) _
  have hP2 := hP1.nextB hB2
  have hM2 := hM1.nextB hB2
  have s0 : (w1.alloc (.cells #[.int .i64 1, .int .i64 3, .int .i64 7] 53)).cell? ⟨w1.heap.size, 0, none⟩ = some (.int .i64 1) := by simp
  have s1 : (w1.alloc (.cells #[.int .i64 1, .int .i64 3, .int .i64 7] 53)).cell? ⟨w1.heap.size, 1, none⟩ = some (.int .i64 3) := by simp
  have s2 : (w1.alloc (.cells #[.int .i64 1, .int .i64 3, .int .i64 7] 53)).cell? ⟨w1.heap.size, 2, none⟩ = some (.int .i64 7) := by simp
  have zF : ¬ F1 w1.heap.size := fun g => by have := hP1.lt _ g; omega
  clear hP1 hM1 hB2
  generalize w1.heap.size = ne at *
  generalize w1.alloc (.cells #[.int .i64 1, .int .i64 3, .int .i64 7] 53) = w2 at *
  refine (pc_acc F1 cb _ ct0_ok (by decide) 0 (by omega) 2 1 3 7 4 rfl rfl rfl rfl A w2 (hL.below hM2.below).ct hP2).mono ?_
  rintro e w3 ⟨ev, F3, rfl, hE3, hP3, hM3⟩
  rw [K1.out] at hE3
  obtain rfl := hE3.nil rfl
  rw [← E1.out] at hP3
  have t0 := hM3.cell s0 zF
  have t1 := hM3.cell s1 zF
  have t2 := hM3.cell s2 zF
  have N3 := hM2.next hM3
  clear hP2 hM2 s0 s1 s2 hM3 hE3 zF
  go_wp2_with fail
  refine (pc_acc F3 cb x1 o1 k4 _ (by omega) 3 1 3 7 4 rfl rfl rfl rfl A w3 (hL.below N3.below).ct hP3).mono ?_
  rintro e w4 ⟨ev4, F4, rfl, hE4, hP4, hM4⟩
  rw [K2.out] at hE4
  rw [← E2.out] at hP4
  have N4 := N3.next hM4
  have T4 := hE4.tells (hL.below N4.below)
  clear hP3 N3 hM4 hE4 t0 t1 t2
  go_wp2_with fail
  refine (coded2_of T4).mono ?_
  rintro e w5 ⟨rfl, hB5⟩
  have N5 := N4.nextB hB5
  have hP5 := hP4.nextB hB5
  clear hP4 N4 T4 hB5
  go_wp2_with fail
  refine (pc_due F4 cb x2 o2 k5 _ w5 hP5).mono ?_
  rintro e w6 ⟨d, q, F6, rfl, hC, _, hP6, hM6⟩
  have N6 := N5.next hM6
  obtain ⟨a, off, cap, rfl, hC⟩ := hC
  rw [K3.out]
  clear hC hP6 hM6 N5 hP5
  go_wp2_with fail
  refine (pc_percent 7 rfl w6).mono ?_
  rintro e w7 ⟨rfl, rfl⟩
  rw [K6.out]
  go_wp2_with fail
  go_ret
  exact ⟨rfl, N6.below⟩
end Go.Proofs.YtamjnkjgdaojiaaDoor
