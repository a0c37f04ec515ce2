/-
  bakehouseref1.Product by its contract: a product over a third number, bit by bit.
-/
import Derived.Test.YtlhffdmhbplpjaaDoorPart
namespace Go.Proofs.YtlhffdmhbplpjaaDoor
open Go.RowKit

/-- the product of a's upper bits -/
def pd (a b : Int) (m : Nat) : Int := a / 2 ^ m * b
theorem pd_zero (a b : Int) : pd a b 0 = a * b := by unfold pd; simp
theorem half (a : Int) (m : Nat) : a / 2 ^ m = 2 * (a / 2 ^ (m + 1)) + a / 2 ^ m % 2 := by
  have e : a / 2 ^ (m + 1) = a / 2 ^ m / 2 := by rw [Int.pow_succ, Int.ediv_ediv_of_nonneg (Int.pow_nonneg (by omega))]
  rw [e]; omega
theorem step_div (N L x c : Int) (hc : 0 < c) : (2 * (N * c + L) + x) / c = 2 * N + (2 * L + x) / c ∧ (2 * (N * c + L) + x) % c = (2 * L + x) % c := by
  have e : 2 * (N * c + L) + x = (2 * L + x) + c * (2 * N) := by
    rw [Int.mul_add, Int.mul_comm c, ← Int.mul_assoc]; omega
  rw [e]
  refine ⟨?_, ?_⟩
  · rw [Int.add_mul_ediv_left _ _ (Int.ne_of_gt hc)]; omega
  · rw [Int.add_mul_emod_self_left]
theorem pd_step (a b c : Int) (m : Nat) (hc : 0 < c) :
    pd a b m / c = 2 * (pd a b (m + 1) / c) + (2 * (pd a b (m + 1) % c) + a / 2 ^ m % 2 * b) / c ∧ pd a b m % c = (2 * (pd a b (m + 1) % c) + a / 2 ^ m % 2 * b) % c := by
  have d := Int.mul_ediv_add_emod (pd a b (m + 1)) c
  rw [Int.mul_comm] at d
  have e : pd a b m = 2 * (pd a b (m + 1) / c * c + pd a b (m + 1) % c) + a / 2 ^ m % 2 * b := by
    rw [d]
    unfold pd
    rw [show a / 2 ^ m * b = (2 * (a / 2 ^ (m + 1)) + a / 2 ^ m % 2) * b from by rw [← half], Int.add_mul, Int.mul_assoc]
  have s := step_div (pd a b (m + 1) / c) (pd a b (m + 1) % c) (a / 2 ^ m % 2 * b) c hc
  rw [← e] at s
  exact s
theorem pd_mono (a b c : Int) (m : Nat) (ha : 0 ≤ a) (hb : 0 ≤ b) (hc : 0 < c) : pd a b m / c ≤ a * b / c := by
  refine Int.ediv_le_ediv hc (Int.mul_le_mul_of_nonneg_right ?_ hb)
  exact Int.ediv_le_self _ ha

set_option maxRecDepth 100000 in
set_option maxHeartbeats 4000000 in
theorem product_any (a b c : Int) (h : Amounts a b c) (w : World) :
    Calls Tryd.prog 74 #[.int .i64 a, .int .i64 b, .int .i64 c] w fun e w' => ((a * b / c ≤ 1125899906842624 ∧ e = .returned (.tuple #[.int .i64 (a * b / c), .int .i64 (a * b % c), .bool true])) ∨ (1125899906842624 < a * b / c ∧ e = .returned (.tuple #[.int .i64 0, .int .i64 0, .bool false]))) ∧ w' = w := by
  obtain ⟨a0, a1, b0, b1, c0, c1⟩ := h
  have hz : ¬ c = 0 := by omega
  go_enter Tryd.func74, Tryd.ntmps74
  go_wp2
  go_loop [9, 10, 11] (fun n l i => ∃ k : Nat, k ≤ 51 ∧ ∃ j : Int, Hid (j = k - 1) ∧ i = .int .i64 j ∧ n = .int .i64 (pd a b k / c) ∧ l = .int .i64 (pd a b k % c) ∧ pd a b k / c ≤ 1125899906842624) (fun _ _ i => (intOf i + 1).toNat)
  case atStart =>
    have e : a / 2 ^ 51 = 0 := Int.ediv_eq_zero_of_lt a0 (by omega)
    have e2 : pd a b 51 = 0 := by unfold pd; rw [e, Int.zero_mul]
    exact ⟨51, by omega, 50, by show (50 : Int) = ((51 : Nat) : Int) - 1; omega, rfl, by rw [e2, Int.zero_ediv], by rw [e2, Int.zero_emod], by rw [e2, Int.zero_ediv]; omega⟩
  case round =>
    obtain ⟨k, hk, j, Hj, rfl, rfl, rfl, hn⟩ := hrel
    rcases Nat.eq_zero_or_pos k with h0 | h0
    · subst h0
      have e : j = -1 := by have := Hj.out; omega
      subst e
      have e0 := pd_zero a b
      rw [e0] at hn
      clear Hj
      go_wp2
      go_ret3
      exact ⟨Or.inl rfl, rfl⟩
    · obtain ⟨m, rfl⟩ : ∃ m, k = m + 1 := ⟨k - 1, by omega⟩
      have e : j = (m : Int) := by have := Hj.out; omega
      subst e
      clear Hj
      have hA : 0 ≤ a / 2 ^ m := Int.ediv_nonneg a0 (Int.pow_nonneg (by omega))
      have hA1 : a / 2 ^ m ≤ a := Int.ediv_le_self _ a0
      have hN : 0 ≤ pd a b (m + 1) / c := Int.ediv_nonneg (Int.mul_nonneg (Int.ediv_nonneg a0 (Int.pow_nonneg (by omega))) b0) (by omega)
      have hL : 0 ≤ pd a b (m + 1) % c := Int.emod_nonneg _ hz
      have hL1 : pd a b (m + 1) % c < c := Int.emod_lt_of_pos _ (by omega)
      have st := pd_step a b c m (by omega)
      generalize pd a b (m + 1) / c = N at *
      generalize pd a b (m + 1) % c = L at *
      by_cases hbit : a / 2 ^ m % 2 = 1
      · rw [hbit, Int.one_mul] at st
        have tb : (a / 2 ^ m % 2 == 1) = true := by simp [hbit]
        have q0 : 0 ≤ (2 * L + b) / c := Int.ediv_nonneg (by omega) (by omega)
        have q1 : (2 * L + b) / c ≤ 2 * L + b := Int.ediv_le_self _ (by omega)
        obtain ⟨st1, st2⟩ := st
        have S1 : Hid (pd a b m / c = 2 * N + (2 * L + b) / c) := st1
        have S2 : Hid (pd a b m % c = (2 * L + b) % c) := st2
        by_cases hgt : 1125899906842624 < 2 * N + (2 * L + b) / c
        · have big := pd_mono a b c m a0 b0 (by omega)
          clear st1 st2 hbit
          have BG : Hid (1125899906842624 < a * b / c) := (by have := S1.out; omega : 1125899906842624 < a * b / c)
          clear big
          go_wp2
          go_ret3
          exact ⟨Or.inr ⟨BG.out, rfl⟩, rfl⟩
        · clear st1 st2 hbit
          go_wp2
          go_round
          case rel => exact ⟨m, by omega, _, rfl, rfl, by rw [S1.out], by rw [S2.out], by rw [S1.out]; omega⟩
          case measure => simp [intOf]
      · have hbit0 : a / 2 ^ m % 2 = 0 := by omega
        rw [hbit0, Int.zero_mul, Int.add_zero] at st
        have tb : (a / 2 ^ m % 2 == 1) = false := by simp [hbit0]
        have q0 : 0 ≤ 2 * L / c := Int.ediv_nonneg (by omega) (by omega)
        have q1 : 2 * L / c ≤ 2 * L := Int.ediv_le_self _ (by omega)
        obtain ⟨st1, st2⟩ := st
        have S1 : Hid (pd a b m / c = 2 * N + 2 * L / c) := st1
        have S2 : Hid (pd a b m % c = 2 * L % c) := st2
        by_cases hgt : 1125899906842624 < 2 * N + 2 * L / c
        · have big := pd_mono a b c m a0 b0 (by omega)
          clear st1 st2 hbit hbit0
          have BG : Hid (1125899906842624 < a * b / c) := (by have := S1.out; omega : 1125899906842624 < a * b / c)
          clear big
          go_wp2
          go_ret3
          exact ⟨Or.inr ⟨BG.out, rfl⟩, rfl⟩
        · clear st1 st2 hbit hbit0
          go_wp2
          go_round
          case rel => exact ⟨m, by omega, _, rfl, rfl, by rw [S1.out], by rw [S2.out], by rw [S1.out]; omega⟩
          case measure => simp [intOf]

theorem product_yes (a b c : Int) (h : Amounts a b c) (hq : a * b / c ≤ 1125899906842624) (w : World) :
    Calls Tryd.prog 74 #[.int .i64 a, .int .i64 b, .int .i64 c] w fun e w' => e = .returned (.tuple #[.int .i64 (a * b / c), .int .i64 (a * b % c), .bool true]) ∧ w' = w :=
  (product_any a b c h w).mono fun e w' ⟨hr, hw⟩ => ⟨by
    rcases hr with ⟨_, he⟩ | ⟨hl, _⟩
    · exact he
    · omega, hw⟩
theorem product_no (a b c : Int) (h : Amounts a b c) (hq : 1125899906842624 < a * b / c) (w : World) :
    Calls Tryd.prog 74 #[.int .i64 a, .int .i64 b, .int .i64 c] w fun e w' => e = .returned (.tuple #[.int .i64 0, .int .i64 0, .bool false]) ∧ w' = w :=
  (product_any a b c h w).mono fun e w' ⟨hr, hw⟩ => ⟨by
    rcases hr with ⟨hl, _⟩ | ⟨_, he⟩
    · omega
    · exact he, hw⟩

/-! DownOf, UpOf -/
end Go.Proofs.YtlhffdmhbplpjaaDoor
