/-
  The closed fact 'played' of package bakehouselaw3: a block by a play.
-/
import Derived.Test.YtaihcceobnfmhaaGreatDoorProgPlay
import Derived.Test.YtaihcceobnfmhaaGreatDoorBegunX
import Derived.Test.YtaihcceobnfmhaaGreatDoorErrTellsX
namespace Go.Proofs.YtaihcceobnfmhaaGreatDoor
open Go.RowKit

def five : Nat → Int := fun i => if i = 0 then 5 else -1
def fiveK : Nat → Int := fun i => if i = 0 then 0 else -1
theorem five_row (w : World) (t : TypeId) : RowV (w.alloc (.cells #[.int .i64 0, .int .i64 (-1)] t)) (.slice (some ⟨w.heap.size, 0, none⟩) 2 2) 2 fiveK :=
  ⟨_, _, rfl, fun i hi => ⟨w.heap.size, 0, rfl, by simp, by
    have : i = 0 ∨ i = 1 := by omega
    rcases this with rfl | rfl <;> exact cell_new _ _ _ _ _ _ rfl rfl⟩⟩
theorem five_script (w : World) (t : TypeId) (F : Nat → Prop) (hF : ∀ k, F k → k < w.heap.size) : Script (w.alloc (.cells #[.int .i64 5, .int .i64 (-1)] t)) F (.slice (some ⟨w.heap.size, 0, none⟩) 2 2) 2 five :=
  ⟨_, _, rfl, Nat.le_refl _, fun i hi => ⟨w.heap.size, 0, rfl, by simp, fun g => by have := hF _ g; omega, by
    have : i = 0 ∨ i = 1 := by omega
    rcases this with rfl | rfl <;> exact cell_new _ _ _ _ _ _ rfl rfl, by
    have : i = 0 ∨ i = 1 := by omega
    rcases this with rfl | rfl <;> decide⟩⟩
theorem Ch.baked_sum (C : Ch) (k : Int) (h : (C.lev + 1) % 4 ≠ 0) : (C.bake k).p.sum = C.p.sum := by
  have e : C.bake k = { C.paid k with lev := (C.paid k).lev + 1 } := by
    show (C.paid k).stepped = _
    unfold Ch.stepped
    rw [if_neg (by rw [(C.paid_same k).2.1]; exact h)]
  rw [e]
  show (C.paid k).p.sum = _
  unfold Ch.paid
  split
  · show (C.p.grow C.rew).sum = _
    unfold Pu.grow
    split <;> rfl
  · rfl
/-- what the script makes -/
theorem five_ran {seed : Nat} {K : Nat → Int} {C : Ch} (h : RanTo (chNew seed) five 2 K C) : (∀ i, i < 2 → K i = fiveK i) ∧ C.p.sum = 57000 := by
  obtain ⟨C1, ⟨C0, h0, p0⟩, p1⟩ := h
  have h0 : C0 = chNew seed := h0
  subst h0
  have e1 : five 1 = -1 := rfl
  have e0 : five 0 = 5 := rfl
  rw [e1] at p1
  rw [e0] at p0
  have q1 : K 1 = -1 ∧ C = C1 := by
    generalize K 1 = x at p1
    cases p1 <;> first | exact ⟨rfl, rfl⟩ | (exfalso; omega)
  have q0 : K 0 = 0 ∧ ∃ k, C1 = (chNew seed).bake k := by
    generalize K 0 = x at p0
    cases p0 <;> first | (exfalso; omega) | exact ⟨rfl, _, rfl⟩
  obtain ⟨k0, k, rfl⟩ := q0
  refine ⟨fun i hi => ?_, ?_⟩
  · have : i = 0 ∨ i = 1 := by omega
    rcases this with rfl | rfl
    · exact k0
    · exact q1.1
  · rw [q1.2, Ch.baked_sum _ _ (by show (0 + 1) % 4 ≠ 0; decide)]
    show purse0.sum = 57000
    decide
theorem sums_spend (a b c : Int) (w : World) : (Instr.field 53 (.agg #[.int .i64 a, .int .i64 b, .int .i64 c]) 0).run Tryz.prog w = .ok (.int .i64 a) w := by kernel_rfl
set_option maxRecDepth 100000 in
set_option maxHeartbeats 1000000 in
theorem played_of (A : Nat → Addr) (w : World) (hL : Laid w A) :
    Calls Tryz.prog 30 #[] w fun e w' => e = .returned (.bool true) ∧ Below w.heap.size w w' := by
  have hs : (1 : Nat) < W64 := by decide
  go_enter Tryz.func30, Tryz.ntmps30
  go_wp2_with fail
  refine (pch_new 1 hs A w hL.chP).mono ?_
  rintro e w1 ⟨cb, F1, rfl, h1, hF, hB1⟩
  have m1 := Mine.new hF hB1
  clear hF hB1
  have hB2 : Below w1.heap.size w1 (w1.alloc (.cells #[.int .i64 5, .int .i64 (-1)] 3)) := (Below.refl _ _).alloc (Nat.le_refl _) _
  have S2 := five_script w1 3 F1 h1.lt
  have h2 := h1.nextB hB2
  have m2 := m1.nextB hB2
  clear h1 m1 hB2
  go_wp2_with fail
  generalize w1.alloc (.cells #[.int .i64 5, .int .i64 (-1)] 3) = w2 at *
  generalize w1.heap.size = n1 at *
  refine (pl_run F1 cb (chNew 1) (chNew_ok 1 hs) 0 (chNew_fit 1) 2 (by omega) 10000 (by omega) _ five A w hL w2 m2 h2 S2).mono ?_
  rintro e w3 ⟨v, K, C3, F3, g3, rfl, ran, hg3, h3, M3, own3, q3⟩
  have m3 := m2.next M3
  obtain ⟨hK, sum⟩ := five_ran ran
  obtain ⟨ok3, fit3⟩ := RanTo.ok (chNew_ok 1 hs) (chNew_fit 1) 2 ran
  have R3 := (row_reads own3).congr hK
  have hB4 : Below w3.heap.size w3 (w3.alloc (.cells #[.int .i64 0, .int .i64 (-1)] 3)) := (Below.refl _ _).alloc (Nat.le_refl _) _
  have R4 := R3.below hB4
  have Q4 := five_row w3 3
  have h4 := h3.nextB hB4
  have m4 := m3.nextB hB4
  clear h2 m2 S2 M3 own3 q3 h3 m3 R3 hB4 ran hK
  go_wp2_with fail
  generalize w3.alloc (.cells #[.int .i64 0, .int .i64 (-1)] 3) = w4 at *
  generalize w3.heap.size = n3 at *
  refine (sameInts_of v _ 2 (by omega) fiveK w4 R4 Q4).mono ?_
  rintro e w5 ⟨rfl, m5n, hw⟩
  have h5 : PCh F3 w5 cb C3 g3 := by rw [hw]; exact h4.nextB (below_drewN (Below.refl _ _) m5n)
  have m5 : Mine w.heap.size w w5 F3 := by rw [hw]; exact m4.drewN m5n
  clear hw h4 m4 R4 Q4
  go_wp2_with fail
  refine (pl_add F3 cb C3 ok3 (by have := fit3.k; omega) g3 w5 h5).mono ?_
  rintro e w6 ⟨rfl, hB6⟩
  have m6 := m5.nextB hB6
  have d0 : (C3.p.sum == 57000) = true := by rw [sum]; decide
  have fd := sums_spend C3.p.sum C3.s.total C3.p.S
  clear h5 m5 hB6 sum
  go_wp2_with fail
  go_ret
  exact ⟨rfl, m6.below⟩
end Go.Proofs.YtaihcceobnfmhaaGreatDoor
