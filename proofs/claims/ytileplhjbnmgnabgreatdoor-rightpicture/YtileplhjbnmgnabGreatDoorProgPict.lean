/-
  The program's picture of stakes, by its contract.
-/
import Derived.Test.YtileplhjbnmgnabGreatDoorProgStkActs
import Derived.Test.YtileplhjbnmgnabGreatDoorPicMath
import Derived.Test.YtileplhjbnmgnabGreatDoorRightX
namespace Go.Proofs.YtileplhjbnmgnabGreatDoor
open Go.RowKit

theorem weight_of (n : Int) (w : World) :
    Calls Tryz.prog 44 #[.int .i64 n] w fun e w' => e = .returned (.int .i64 (wtOf n)) ∧ w' = w := by
  by_cases h0 : n < 100
  · have e : Hid (wtOf n = 0) := if_pos h0
    go_enter Tryz.func44, Tryz.ntmps44
    go_wp2
    go_ret
    exact ⟨ret_int e.out.symm, rfl⟩
  · by_cases h1 : 1073741824 < n
    · have e : Hid (wtOf n = 1073741824) := (if_neg h0).trans (if_pos h1)
      go_enter Tryz.func44, Tryz.ntmps44
      go_wp2
      go_ret
      exact ⟨ret_int (by rw [e.out]; omega), rfl⟩
    · have e : Hid (wtOf n = n) := (if_neg h0).trans (if_neg h1)
      go_enter Tryz.func44, Tryz.ntmps44
      go_wp2
      go_ret
      exact ⟨ret_int (by rw [e.out]; omega), rfl⟩
set_option maxRecDepth 100000 in
set_option maxHeartbeats 1000000 in
theorem pr_picture (F : Nat → Prop) (sb : Nat) (S : Sk) (hS : S.Ok) (g : Nat) (w : World) (h : PSk F w sb S g) :
    Calls Tryz.prog 21 #[.pointer (some ⟨sb, 0, none⟩)] w fun e w' => ∃ m cap, e = .returned (.slice (some ⟨m, 0, none⟩) 3 cap) ∧ (w.heap.size ≤ m ∧ m < w'.heap.size) ∧ Ints w' m 0 3 S.pic ∧ Below w.heap.size w w' := by
  have mk := make_tri
  have R := RowTo.new w 3 3 S.pic
  have B0 : Below w.heap.size w (w.alloc (.cells (noughts 3) 3)) := (Below.refl _ _).alloc (Nat.le_refl _) _
  go_enter Tryz.func21, Tryz.ntmps21
  go_wp2
  go_loopw [11] (fun i wr => ∃ k : Nat, k ≤ 3 ∧ i = .int .i64 k ∧ RowTo wr w.heap.size 3 k S.pic ∧ Below w.heap.size w wr) (fun i _ => 3 - (intOf i).toNat)
  case atStart => exact ⟨0, Nat.zero_le _, rfl, R, B0⟩
  case round =>
    obtain ⟨k, hk, rfl, Rk, B⟩ := hrel
    clear R B0
    by_cases hlt : k < 3
    · have P := h.keptP (KeptP.of_below (F := fun _ => False) B) (fun _ g => g.elim)
      clear h
      go_wp2_with fail
      refine (ps_staked F sb S hS g k wr P).mono ?_
      rintro e w1 ⟨rfl, m, hw⟩
      have R1 : RowTo w1 w.heap.size 3 k S.pic := by rw [hw]; exact Rk.below (below_drewN (Below.refl _ _) m)
      have B1 : Below w.heap.size w w1 := by rw [hw]; exact below_drewN B m
      clear hw Rk B P
      go_wp2_with fail
      refine (weight_of _ w1).mono ?_
      rintro e w2 ⟨rfl, hw⟩
      obtain rfl := hw.symm
      have c1 := R1.c k hlt
      have f1 := R1.f k
      have R2 := R1.next (x := wtOf (S.P k).T) hlt (fun _ _ => rfl) rfl
      have B2 := B1.setCell (p := ⟨w.heap.size, k, none⟩) (Nat.le_refl _) (.int .i64 (wtOf (S.P k).T))
      clear R1 B1
      go_wp2_with fail
      go_roundw
      case rel => exact ⟨k + 1, by omega, by go_num, R2, B2⟩
      case measure => simp [intOf]; omega
    · obtain rfl : k = 3 := by omega
      have lt := Rk.lt
      have I := Rk.all
      clear Rk
      go_wp2_with fail
      go_ret
      exact ⟨_, _, rfl, ⟨Nat.le_refl _, lt⟩, I, B⟩
end Go.Proofs.YtileplhjbnmgnabGreatDoor
