/-
  The closed fact of the laws on rights: one baker has all rights; of nothing nothing is seen.
-/
import Derived.Test.YtlhffdmhbplpjabDoorProgRight
import Derived.Deep.QuietTactic
import Derived.BigQuiet
namespace Go.Proofs.YtlhffdmhbplpjabDoor
open Go.RowKit

theorem drewN_drewN (w : World) (m n : Nat) : (w.drewN m).drewN n = w.drewN (m + n) := by simp [World.drewN, Nat.add_assoc]
set_option maxRecDepth 100000 in
theorem same_three (a b ca cb : Nat) (K : Nat → Int) (w : World) (hA : Ints w a 0 3 K) (hB : Ints w b 0 3 K) :
    Calls Tryd.prog 90 #[.slice (some ⟨a, 0, none⟩) 3 ca, .slice (some ⟨b, 0, none⟩) 3 cb] w fun e w' => e = .returned (.bool true) ∧ ∃ m, w' = w.drewN m := by
  go_enter Tryd.func90, Tryd.ntmps90
  go_wp2
  go_loopw [5] (fun i wr => ∃ k : Nat, k ≤ 3 ∧ i = .int .i64 k ∧ ∃ m, wr = w.drewN m) (fun i _ => 3 - (intOf i).toNat)
  case atStart => exact ⟨0, Nat.zero_le _, rfl, 0, rfl⟩
  case round =>
    obtain ⟨k, hk, rfl, m, hw⟩ := hrel
    by_cases hlt : k < 3
    · have c0 : wr.cell? ⟨a, k, none⟩ = some (.int .i64 (K k)) := by rw [hw]; have := hA k hlt; rw [Nat.zero_add] at this; exact this
      have c1 : wr.cell? ⟨b, k, none⟩ = some (.int .i64 (K k)) := by rw [hw]; have := hB k hlt; rw [Nat.zero_add] at this; exact this
      have HW := hide hw
      clear hw
      have d : (K k != K k) = false := by simp
      clear hA hB
      go_wp2
      go_quiet (fail)
      go_wp2
      go_roundw
      case rel => exact ⟨k + 1, by omega, by go_num, _, by rw [HW.out, drewN_drewN]⟩
      case measure => simp [intOf]; omega
    · obtain rfl : k = 3 := by omega
      have HW := hide hw
      clear hw
      go_wp2
      go_ret
      exact ⟨rfl, m, HW.out⟩
def one5 : Nat → Int := fun i => if i = 1 then 5 else 0
theorem one5_weights : Weights 3 one5 := ⟨by omega, by omega, fun k _ => by unfold one5; split <;> omega⟩
theorem one5_ints (w : World) (t : TypeId) : Ints (w.alloc (.cells #[.int .i64 0, .int .i64 5, .int .i64 0] t)) w.heap.size 0 3 one5 := fun i hi => by
  have : i = 0 ∨ i = 1 ∨ i = 2 := by omega
  rcases this with rfl | rfl | rfl <;> exact cell_new _ _ _ _ _ _ rfl rfl
theorem zero3_ints (w : World) (t : TypeId) : Ints (w.alloc (.cells #[.int .i64 0, .int .i64 0, .int .i64 0] t)) w.heap.size 0 3 (fun _ => 0) := fun i hi => by
  have : i = 0 ∨ i = 1 ∨ i = 2 := by omega
  rcases this with rfl | rfl | rfl <;> exact cell_new _ _ _ _ _ _ rfl rfl
set_option maxRecDepth 100000 in
set_option maxHeartbeats 1000000 in
theorem entitled_of (w : World) :
    Calls Tryd.prog 45 #[] w fun e w' => e = .returned (.bool true) ∧ Below w.heap.size w w' := by
  have B0 : Below w.heap.size w (w.alloc (.cells #[.int .i64 0, .int .i64 5, .int .i64 0] 3)) := (Below.refl _ _).alloc (Nat.le_refl _) _
  have N := rb_fine w.heap.size 0 3 3 7 one5 1 2 3 (by decide) (by decide) _ (one5_ints w 3) (by simp) one5_weights (by decide)
  go_enter Tryd.func45, Tryd.ntmps45
  go_wp2_with fail
  refine N.mono ?_
  rintro e w1 ⟨k, rfl, hT, B1⟩
  obtain ⟨j, rfl, hj, hw⟩ := hT.heavy one5_weights (by decide)
  obtain rfl : j = 1 := by
    have : j = 0 ∨ j = 1 ∨ j = 2 := by omega
    rcases this with rfl | rfl | rfl
    · exact absurd rfl hw
    · rfl
    · exact absurd rfl hw
  have B2 := B0.trans (B1.mono B0.size)
  clear N hT hj hw B0 B1
  go_wp2_with fail
  refine (rp_nil w1).mono ?_
  rintro e w2 ⟨m, cap, rfl, hm, hI, B3⟩
  have B4 := B2.trans (B3.mono B2.size)
  have hB : Below w2.heap.size w2 (w2.alloc (.cells #[.int .i64 0, .int .i64 0, .int .i64 0] 3)) := (Below.refl _ _).alloc (Nat.le_refl _) _
  have S := same_three m w2.heap.size cap 3 (fun _ => 0) _ (hI.below hB hm) (zero3_ints w2 3)
  have B5 := B4.trans (hB.mono B4.size)
  clear B2 B3 B4 hI hB
  go_wp2_with fail
  refine S.mono ?_
  rintro e w3 ⟨rfl, m3, hw⟩
  have B6 : Below w.heap.size w w3 := by rw [hw]; exact below_drewN B5 m3
  clear hw B5
  go_wp2_with fail
  go_ret
  exact ⟨rfl, B6⟩
end Go.Proofs.YtlhffdmhbplpjabDoor
