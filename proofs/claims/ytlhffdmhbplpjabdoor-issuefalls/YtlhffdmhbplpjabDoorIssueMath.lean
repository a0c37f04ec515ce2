/-
  What is issued, plainly: ratios, rates, bonuses, rewards, and that they fall where more is staked.
-/
import Derived.Test.YtlhffdmhbplpjabDoorQuo
namespace Go.Proofs.YtlhffdmhbplpjabDoor

abbrev isAmt (n : Int) : Prop := 0 ≤ n ∧ n ≤ 1125899906842624
abbrev RatioOk (s t : Int) : Prop := isAmt s ∧ 1 ≤ t ∧ t ≤ 1125899906842624 ∧ s ≤ t
def ratioC (s t : Int) : Int := if RatioOk s t then 0 else 2
def ratioN (s t : Int) : Int := if RatioOk s t then s * 1000000 / t else 0
abbrev RateOk (r b : Int) : Prop := (0 ≤ r ∧ r ≤ 1000000) ∧ 0 ≤ b ∧ b ≤ 5000
def rateC (r b : Int) : Int := if RateOk r b then 0 else 2
/-- the bend -/
def bendR (r : Int) : Int := if r < 250000 then 40000 + -20000 * r / 250000 else if r < 500000 then 20000 + -10000 * (r - 250000) / 250000 else if r < 1000000 then 10000 + -5000 * (r - 500000) / 500000 else 5000
def rateN (r b : Int) : Int := if RateOk r b then bendR r + b else 0
def bonusV (b r : Int) : Int := if r < 480000 then (if b + 100 < 5000 then b + 100 else 5000) else if 520000 < r then (if 0 < b - 100 then b - 100 else 0) else b
def bonusN (b r : Int) : Int := if RateOk r b then bonusV b r else 0
abbrev RewardOk (s r : Int) : Prop := isAmt s ∧ 0 ≤ r ∧ r ≤ 1000000
def rewardC (s r : Int) : Int := if RewardOk s r then 0 else 2
def rewardN (s r : Int) : Int := if RewardOk s r then s * r / 1000000 / 4 else 0

theorem bendR_bd {r : Int} (h0 : 0 ≤ r) (h1 : r ≤ 1000000) : 5000 ≤ bendR r ∧ bendR r ≤ 40000 := by
  unfold bendR
  split
  · omega
  · split
    · omega
    · split <;> omega
theorem bendR_falls {a b : Int} (h0 : 0 ≤ a) (h : a ≤ b) (h1 : b ≤ 1000000) : bendR b ≤ bendR a := by
  unfold bendR
  split <;> split <;> (try split) <;> (try split) <;> (try split) <;> (try split) <;> omega
theorem bonusV_bd {b r : Int} (h0 : 0 ≤ b) (h1 : b ≤ 5000) : 0 ≤ bonusV b r ∧ bonusV b r ≤ 5000 := by
  unfold bonusV
  split
  · split <;> omega
  · split
    · split <;> omega
    · omega
theorem bonusV_falls {b r s : Int} (h0 : 0 ≤ b) (h1 : b ≤ 5000) (h : r ≤ s) : bonusV b s ≤ bonusV b r := by
  unfold bonusV
  split <;> split <;> (try split) <;> (try split) <;> (try split) <;> (try split) <;> omega
theorem ratio_bd {s t : Int} (h : RatioOk s t) : 0 ≤ s * 1000000 / t ∧ s * 1000000 / t ≤ 1000000 := by
  obtain ⟨⟨s0, _⟩, t1, _, st⟩ := h
  refine ⟨Int.ediv_nonneg (by omega) (by omega), ?_⟩
  have : s * 1000000 / t ≤ t * 1000000 / t := Int.ediv_le_ediv (by omega) (by omega)
  rw [Int.mul_comm t, Int.mul_ediv_cancel _ (by omega)] at this
  exact this
theorem ratio_mono {s s' t : Int} (t1 : 1 ≤ t) (h : s ≤ s') : s * 1000000 / t ≤ s' * 1000000 / t := Int.ediv_le_ediv (by omega) (by omega)
theorem reward_bd {s r : Int} (h : RewardOk s r) : 0 ≤ s * r / 1000000 ∧ s * r / 1000000 ≤ s := by
  obtain ⟨⟨s0, _⟩, r0, r1⟩ := h
  have g0 : 0 ≤ s * r := Int.mul_nonneg s0 r0
  have g1 : s * r ≤ s * 1000000 := Int.mul_le_mul_of_nonneg_left r1 s0
  omega
theorem reward_part {s r : Int} (s0 : 0 ≤ s) (r0 : 0 ≤ r) (r1 : r ≤ 45000) : s * r / 1000000 / 4 * 4 ≤ s / 20 := by
  have g0 : 0 ≤ s * r := Int.mul_nonneg s0 r0
  have g1 : s * r ≤ s * 45000 := Int.mul_le_mul_of_nonneg_left r1 s0
  omega
end Go.Proofs.YtlhffdmhbplpjabDoor
