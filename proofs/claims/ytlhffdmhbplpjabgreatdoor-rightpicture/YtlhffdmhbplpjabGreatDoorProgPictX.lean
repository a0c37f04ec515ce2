/-
  The closed fact of the laws on rights: one baker has all rights; of nothing nothing is seen.
  Weights of stakes, plainly.
  The program's picture of stakes, by its contract.
-/
import Derived.Test.YtlhffdmhbplpjabGreatDoorProgRight
import Derived.Deep.QuietTactic
import Derived.BigQuiet
import Derived.Test.YtlhffdmhbplpjabGreatDoorStakeMathX
import Derived.Test.YtlhffdmhbplpjabGreatDoorProgStkActs
namespace Go.Proofs.YtlhffdmhbplpjabGreatDoor
open Go.RowKit

theorem drewN_drewN (w : World) (m n : Nat) : (w.drewN m).drewN n = w.drewN (m + n) := by simp [World.drewN, Nat.add_assoc]
set_option maxRecDepth 100000 in
theorem same_three (a b ca cb : Nat) (K : Nat → Int) (w : World) (hA : Ints w a 0 3 K) (hB : Ints w b 0 3 K) :
    Calls Tryz.prog 20 #[.slice (some ⟨a, 0, none⟩) 3 ca, .slice (some ⟨b, 0, none⟩) 3 cb] w fun e w' => e = .returned (.bool true) ∧ ∃ m, w' = w.drewN m := by
  go_enter Tryz.func20, Tryz.ntmps20
  go_wp2
  go_loopw [5] (fun i wr => ∃ k : Nat, k ≤ 3 ∧ i = .int .i64 k ∧ ∃ m, wr = w.drewN m) (fun i _ => 3 - (intOf i).toNat)
  case atStart => exact ⟨0, Nat.zero_le _, rfl, 0, rfl⟩
  case round =>
    obtain ⟨k, hk, rfl, m, hw⟩ := hrel
    by_cases hlt : k < 3
    · have c0 : wr.cell? ⟨a, k, none⟩ = some (.int .i64 (K k)) := by rw [hw]; have := hA k hlt; rw [Nat.zero_add] at this; exact this
      have c1 : wr.cell? ⟨b, k, none⟩ = some (.int .i64 (K k)) := by rw [hw]; have := hB k hlt; rw [Nat.zero_add] at this; exact this
      have HW := hide hw
      clear hw
      have d : (K k != K k) = false := by simp
      clear hA hB
      go_wp2
      go_quiet (fail)
      go_wp2
      go_roundw
      case rel => exact ⟨k + 1, by omega, by go_num, _, by rw [HW.out, drewN_drewN]⟩
      case measure => simp [intOf]; omega
    · obtain rfl : k = 3 := by omega
      have HW := hide hw
      clear hw
      go_wp2
      go_ret
      exact ⟨rfl, m, HW.out⟩
def one5 : Nat → Int := fun i => if i = 1 then 5 else 0
theorem one5_weights : Weights 3 one5 := ⟨by omega, by omega, fun k _ => by unfold one5; split <;> omega⟩
theorem one5_ints (w : World) (t : TypeId) : Ints (w.alloc (.cells #[.int .i64 0, .int .i64 5, .int .i64 0] t)) w.heap.size 0 3 one5 := fun i hi => by
  have : i = 0 ∨ i = 1 ∨ i = 2 := by omega
  rcases this with rfl | rfl | rfl <;> exact cell_new _ _ _ _ _ _ rfl rfl
theorem zero3_ints (w : World) (t : TypeId) : Ints (w.alloc (.cells #[.int .i64 0, .int .i64 0, .int .i64 0] t)) w.heap.size 0 3 (fun _ => 0) := fun i hi => by
  have : i = 0 ∨ i = 1 ∨ i = 2 := by omega
  rcases this with rfl | rfl | rfl <;> exact cell_new _ _ _ _ _ _ rfl rfl
set_option maxRecDepth 100000 in
set_option maxHeartbeats 1000000 in
theorem entitled_of (w : World) :
    Calls Tryz.prog 19 #[] w fun e w' => e = .returned (.bool true) ∧ Below w.heap.size w w' := by
  have B0 : Below w.heap.size w (w.alloc (.cells #[.int .i64 0, .int .i64 5, .int .i64 0] 3)) := (Below.refl _ _).alloc (Nat.le_refl _) _
  have N := rb_fine w.heap.size 0 3 3 7 one5 1 2 3 (by decide) (by decide) _ (one5_ints w 3) (by simp) one5_weights (by decide)
  go_enter Tryz.func19, Tryz.ntmps19
  go_wp2_with fail
  refine N.mono ?_
  rintro e w1 ⟨k, rfl, hT, B1⟩
  obtain ⟨j, rfl, hj, hw⟩ := hT.heavy one5_weights (by decide)
  obtain rfl : j = 1 := by
    have : j = 0 ∨ j = 1 ∨ j = 2 := by omega
    rcases this with rfl | rfl | rfl
    · exact absurd rfl hw
    · rfl
    · exact absurd rfl hw
  have B2 := B0.trans (B1.mono B0.size)
  clear N hT hj hw B0 B1
  go_wp2_with fail
  refine (rp_nil w1).mono ?_
  rintro e w2 ⟨m, cap, rfl, hm, hI, B3⟩
  have B4 := B2.trans (B3.mono B2.size)
  have hB : Below w2.heap.size w2 (w2.alloc (.cells #[.int .i64 0, .int .i64 0, .int .i64 0] 3)) := (Below.refl _ _).alloc (Nat.le_refl _) _
  have S := same_three m w2.heap.size cap 3 (fun _ => 0) _ (hI.below hB hm) (zero3_ints w2 3)
  have B5 := B4.trans (hB.mono B4.size)
  clear B2 B3 B4 hI hB
  go_wp2_with fail
  refine S.mono ?_
  rintro e w3 ⟨rfl, m3, hw⟩
  have B6 : Below w.heap.size w w3 := by rw [hw]; exact below_drewN B5 m3
  clear hw B5
  go_wp2_with fail
  go_ret
  exact ⟨rfl, B6⟩
end Go.Proofs.YtlhffdmhbplpjabGreatDoor

namespace Go.Proofs.YtlhffdmhbplpjabGreatDoor

/-- a weight of what is staked -/
def wtOf (n : Int) : Int := if n < 100 then 0 else if 1073741824 < n then 1073741824 else n
def Sk.pic (S : Sk) (i : Nat) : Int := wtOf (S.P i).T
end Go.Proofs.YtlhffdmhbplpjabGreatDoor

namespace Go.Proofs.YtlhffdmhbplpjabGreatDoor
open Go.RowKit

theorem weight_of (n : Int) (w : World) :
    Calls Tryz.prog 44 #[.int .i64 n] w fun e w' => e = .returned (.int .i64 (wtOf n)) ∧ w' = w := by
  by_cases h0 : n < 100
  · have e : Hid (wtOf n = 0) := if_pos h0
    go_enter Tryz.func44, Tryz.ntmps44
    go_wp2
    go_ret
    exact ⟨ret_int e.out.symm, rfl⟩
  · by_cases h1 : 1073741824 < n
    · have e : Hid (wtOf n = 1073741824) := (if_neg h0).trans (if_pos h1)
      go_enter Tryz.func44, Tryz.ntmps44
      go_wp2
      go_ret
      exact ⟨ret_int (by rw [e.out]; omega), rfl⟩
    · have e : Hid (wtOf n = n) := (if_neg h0).trans (if_neg h1)
      go_enter Tryz.func44, Tryz.ntmps44
      go_wp2
      go_ret
      exact ⟨ret_int (by rw [e.out]; omega), rfl⟩
set_option maxRecDepth 100000 in
set_option maxHeartbeats 1000000 in
theorem pr_picture (F : Nat → Prop) (sb : Nat) (S : Sk) (hS : S.Ok) (g : Nat) (w : World) (h : PSk F w sb S g) :
    Calls Tryz.prog 21 #[.pointer (some ⟨sb, 0, none⟩)] w fun e w' => ∃ m cap, e = .returned (.slice (some ⟨m, 0, none⟩) 3 cap) ∧ (w.heap.size ≤ m ∧ m < w'.heap.size) ∧ Ints w' m 0 3 S.pic ∧ Below w.heap.size w w' := by
  have mk := make_tri
  have R := RowTo.new w 3 3 S.pic
  have B0 : Below w.heap.size w (w.alloc (.cells (noughts 3) 3)) := (Below.refl _ _).alloc (Nat.le_refl _) _
  go_enter Tryz.func21, Tryz.ntmps21
  go_wp2
  go_loopw [11] (fun i wr => ∃ k : Nat, k ≤ 3 ∧ i = .int .i64 k ∧ RowTo wr w.heap.size 3 k S.pic ∧ Below w.heap.size w wr) (fun i _ => 3 - (intOf i).toNat)
  case atStart => exact ⟨0, Nat.zero_le _, rfl, R, B0⟩
  case round =>
    obtain ⟨k, hk, rfl, Rk, B⟩ := hrel
    clear R B0
    by_cases hlt : k < 3
    · have P := h.keptP (KeptP.of_below (F := fun _ => False) B) (fun _ g => g.elim)
      clear h
      go_wp2_with fail
      refine (ps_staked F sb S hS g k wr P).mono ?_
      rintro e w1 ⟨rfl, m, hw⟩
      have R1 : RowTo w1 w.heap.size 3 k S.pic := by rw [hw]; exact Rk.below (below_drewN (Below.refl _ _) m)
      have B1 : Below w.heap.size w w1 := by rw [hw]; exact below_drewN B m
      clear hw Rk B P
      go_wp2_with fail
      refine (weight_of _ w1).mono ?_
      rintro e w2 ⟨rfl, hw⟩
      obtain rfl := hw.symm
      have c1 := R1.c k hlt
      have f1 := R1.f k
      have R2 := R1.next (x := wtOf (S.P k).T) hlt (fun _ _ => rfl) rfl
      have B2 := B1.setCell (p := ⟨w.heap.size, k, none⟩) (Nat.le_refl _) (.int .i64 (wtOf (S.P k).T))
      clear R1 B1
      go_wp2_with fail
      go_roundw
      case rel => exact ⟨k + 1, by omega, by go_num, R2, B2⟩
      case measure => simp [intOf]; omega
    · obtain rfl : k = 3 := by omega
      have lt := Rk.lt
      have I := Rk.all
      clear Rk
      go_wp2_with fail
      go_ret
      exact ⟨_, _, rfl, ⟨Nat.le_refl _, lt⟩, I, B⟩
end Go.Proofs.YtlhffdmhbplpjabGreatDoor
