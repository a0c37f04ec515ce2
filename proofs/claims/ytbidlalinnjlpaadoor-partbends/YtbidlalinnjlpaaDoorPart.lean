/-
  Package part by its contracts: isAmount, amount, over, Down, Up.
-/
import Derived.Test.YtbidlalinnjlpaaDoorDiv
namespace Go.Proofs.YtbidlalinnjlpaaDoor
open Go.RowKit

/-- a sentinel's value: a pointer to an errors.errorString -/
abbrev sent (a : Addr) : Value := .iface 55 (.pointer (some a))

theorem amount_yes (n : Int) (h0 : 0 ≤ n) (h : n ≤ 1125899906842624) (w : World) :
    Calls Tryd.prog 26 #[.int .u64 n] w fun e w' => e = .returned (.tuple #[.int .i64 n, .nilIface]) ∧ w' = w := by
  go_enter Tryd.func26, Tryd.ntmps26
  go_wp2
  go_ret2
  exact ⟨rfl, rfl⟩
theorem amount_no (n : Int) (h : 1125899906842624 < n) (p : Addr) (w : World) (hE : w.cell? ⟨1, 0, none⟩ = some (sent p)) :
    Calls Tryd.prog 26 #[.int .u64 n] w fun e w' => e = .returned (.tuple #[.int .i64 0, sent p]) ∧ ∃ n, w' = w.drewN n := by
  go_enter Tryd.func26, Tryd.ntmps26
  go_wp2
  go_quiet (fail)
  go_wp2
  go_ret2
  exact ⟨rfl, _, rfl⟩

/-- whether three numbers are amounts, the third not 0 -/
def Amounts (a b c : Int) : Prop := 0 ≤ a ∧ a ≤ 1125899906842624 ∧ 0 ≤ b ∧ b ≤ 1125899906842624 ∧ 1 ≤ c ∧ c ≤ 1125899906842624

set_option maxHeartbeats 1000000 in
theorem over_yes (a b c : Int) (h : Amounts a b c) (hh : hiW (a * b) < c) (w : World) :
    Calls Tryd.prog 25 #[.int .i64 a, .int .i64 b, .int .i64 c] w fun e w' => e = .returned (.tuple #[.int .u64 (a * b / c), .int .u64 (a * b % c), .nilIface]) ∧ ∃ n, w' = w.drewN n := by
  obtain ⟨a0, a1, b0, b1, c0, c1⟩ := h
  have hp := Int.mul_nonneg a0 b0
  have g0 : 0 ≤ hiW (a * b) := by unfold hiW; omega
  have tc : (c == 0) = false := by simp; omega
  go_enter Tryd.func25, Tryd.ntmps25
  go_wp2_with (first | (go_at_call 39; refine (mul64 a b (by omega) (by omega) (by omega) (by omega) _).mono ?_; rintro e w' ⟨rfl, rfl⟩) | (go_at_call 40; refine (div64_of (a * b) c hp hh (by omega) _).mono ?_; rintro e w' ⟨rfl, n, rfl⟩) | go_in)
  go_ret3
  exact ⟨rfl, _, rfl⟩
set_option maxHeartbeats 1000000 in
theorem over_high (a b c : Int) (h : Amounts a b c) (hh : c ≤ hiW (a * b)) (p : Addr) (w : World) (hE : w.cell? ⟨1, 0, none⟩ = some (sent p)) :
    Calls Tryd.prog 25 #[.int .i64 a, .int .i64 b, .int .i64 c] w fun e w' => e = .returned (.tuple #[.int .u64 0, .int .u64 0, sent p]) ∧ ∃ n, w' = w.drewN n := by
  obtain ⟨a0, a1, b0, b1, c0, c1⟩ := h
  have tc : (c == 0) = false := by simp; omega
  go_enter Tryd.func25, Tryd.ntmps25
  go_wp2_with (first | (go_at_call 39; refine (mul64 a b (by omega) (by omega) (by omega) (by omega) _).mono ?_; rintro e w' ⟨rfl, rfl⟩) | go_in)
  go_quiet (fail)
  go_wp2
  go_ret3
  exact ⟨rfl, _, rfl⟩
set_option maxHeartbeats 1000000 in
theorem over_bad (a b c : Int) (h : ¬ Amounts a b c) (p : Addr) (w : World) (hE : w.cell? ⟨1, 0, none⟩ = some (sent p)) :
    Calls Tryd.prog 25 #[.int .i64 a, .int .i64 b, .int .i64 c] w fun e w' => e = .returned (.tuple #[.int .u64 0, .int .u64 0, sent p]) ∧ ∃ n, w' = w.drewN n := by
  unfold Amounts at h
  by_cases a0 : 0 ≤ a
  · by_cases a1 : a ≤ 1125899906842624
    · by_cases b0 : 0 ≤ b
      · by_cases b1 : b ≤ 1125899906842624
        · by_cases c0 : 0 ≤ c
          · by_cases c1 : c ≤ 1125899906842624
            · obtain rfl : c = 0 := by omega
              clear h
              go_enter Tryd.func25, Tryd.ntmps25
              go_wp2
              go_quiet (fail)
              go_wp2
              go_ret3
              exact ⟨rfl, _, rfl⟩
            all_goals
              clear h
              go_enter Tryd.func25, Tryd.ntmps25
              go_wp2
              go_quiet (fail)
              go_wp2
              go_ret3
              exact ⟨rfl, _, rfl⟩
          all_goals
            clear h
            go_enter Tryd.func25, Tryd.ntmps25
            go_wp2
            go_quiet (fail)
            go_wp2
            go_ret3
            exact ⟨rfl, _, rfl⟩
        all_goals
          clear h
          go_enter Tryd.func25, Tryd.ntmps25
          go_wp2
          go_quiet (fail)
          go_wp2
          go_ret3
          exact ⟨rfl, _, rfl⟩
      all_goals
        clear h
        go_enter Tryd.func25, Tryd.ntmps25
        go_wp2
        go_quiet (fail)
        go_wp2
        go_ret3
        exact ⟨rfl, _, rfl⟩
    all_goals
      clear h
      go_enter Tryd.func25, Tryd.ntmps25
      go_wp2
      go_quiet (fail)
      go_wp2
      go_ret3
      exact ⟨rfl, _, rfl⟩
  all_goals
    clear h
    go_enter Tryd.func25, Tryd.ntmps25
    go_wp2
    go_quiet (fail)
    go_wp2
    go_ret3
    exact ⟨rfl, _, rfl⟩

/-- what Down and Up lean on: a quotient within the amounts' bound has no upper word beyond -/
theorem hi_lt (p c : Int) (c0 : 1 ≤ c) (h : p / c ≤ 1125899906842624) : hiW p < c := by
  have := Int.lt_ediv_add_one_mul_self p (show 0 < c by omega)
  have h1 : (p / c + 1) * c ≤ 1125899906842625 * c := Int.mul_le_mul_of_nonneg_right (by omega) (by omega)
  unfold hiW
  omega
theorem quo_nonneg (p c : Int) (h0 : 0 ≤ p) (c0 : 1 ≤ c) : 0 ≤ p / c := Int.ediv_nonneg h0 (by omega)
theorem quo_lt (p c : Int) (c0 : 1 ≤ c) (h : hiW p < c) : p / c ≤ 18446744073709551615 := by
  have : p / c < 18446744073709551616 := by
    rw [Int.ediv_lt_iff_lt_mul (by omega)]
    unfold hiW at h; omega
  omega
theorem drew_cell (w : World) (n : Nat) (a : Addr) : (w.drewN n).cell? a = w.cell? a := by simp

set_option maxHeartbeats 1000000 in
theorem down_yes (a b c : Int) (h : Amounts a b c) (hq : a * b / c ≤ 1125899906842624) (w : World) :
    Calls Tryd.prog 13 #[.int .i64 a, .int .i64 b, .int .i64 c] w fun e w' => e = .returned (.tuple #[.int .i64 (a * b / c), .nilIface]) ∧ ∃ n, w' = w.drewN n := by
  have hp : 0 ≤ a * b := Int.mul_nonneg h.1 h.2.2.1
  have q0 := quo_nonneg (a * b) c hp h.2.2.2.2.1
  have hh := hi_lt (a * b) c h.2.2.2.2.1 hq
  go_enter Tryd.func13, Tryd.ntmps13
  go_wp2_with (first | (go_at_call 25; refine (over_yes a b c h hh _).mono ?_; rintro e w' ⟨rfl, n, rfl⟩) | (go_at_call 26; refine (amount_yes (a * b / c) q0 hq _).mono ?_; rintro e w' ⟨rfl, rfl⟩))
  go_ret2
  exact ⟨rfl, _, rfl⟩
set_option maxHeartbeats 1000000 in
theorem down_no (a b c : Int) (h : ¬ (Amounts a b c ∧ a * b / c ≤ 1125899906842624)) (p : Addr) (w : World) (hE : w.cell? ⟨1, 0, none⟩ = some (sent p)) :
    Calls Tryd.prog 13 #[.int .i64 a, .int .i64 b, .int .i64 c] w fun e w' => e = .returned (.tuple #[.int .i64 0, sent p]) ∧ ∃ n, w' = w.drewN n := by
  by_cases hA : Amounts a b c
  · by_cases hh : hiW (a * b) < c
    · have hq : 1125899906842624 < a * b / c := by
        rcases Int.lt_or_le 1125899906842624 (a * b / c) with g | g
        · exact g
        · exact absurd ⟨hA, g⟩ h
      clear h
      go_enter Tryd.func13, Tryd.ntmps13
      go_wp2_with (first | (go_at_call 25; refine (over_yes a b c hA hh _).mono ?_; rintro e w' ⟨rfl, n, rfl⟩) | (go_at_call 26; refine (amount_no (a * b / c) hq p _ (by rw [drew_cell]; exact hE)).mono ?_; rintro e w' ⟨rfl, m, rfl⟩))
      go_ret2
      exact ⟨rfl, _, rfl⟩
    · clear h
      go_enter Tryd.func13, Tryd.ntmps13
      go_wp2_with (go_at_call 25; refine (over_high a b c hA (by omega) p _ hE).mono ?_; rintro e w' ⟨rfl, n, rfl⟩)
      go_ret2
      exact ⟨rfl, _, rfl⟩
  · clear h
    go_enter Tryd.func13, Tryd.ntmps13
    go_wp2_with (go_at_call 25; refine (over_bad a b c hA p _ hE).mono ?_; rintro e w' ⟨rfl, n, rfl⟩)
    go_ret2
    exact ⟨rfl, _, rfl⟩

/-- a quotient, up -/
def upQ (p c : Int) : Int := if 0 < p % c then p / c + 1 else p / c
theorem upQ_rest (p c : Int) (h : 0 < p % c) : upQ p c = p / c + 1 := if_pos h
theorem upQ_even (p c : Int) (h : ¬ 0 < p % c) : upQ p c = p / c := if_neg h

set_option maxHeartbeats 1000000 in
theorem up_yes (a b c : Int) (h : Amounts a b c) (hq : upQ (a * b) c ≤ 1125899906842624) (w : World) :
    Calls Tryd.prog 14 #[.int .i64 a, .int .i64 b, .int .i64 c] w fun e w' => e = .returned (.tuple #[.int .i64 (upQ (a * b) c), .nilIface]) ∧ ∃ n, w' = w.drewN n := by
  have hp : 0 ≤ a * b := Int.mul_nonneg h.1 h.2.2.1
  have q0 := quo_nonneg (a * b) c hp h.2.2.2.2.1
  by_cases hr : 0 < a * b % c
  · rw [upQ_rest _ _ hr] at hq ⊢
    have hh := hi_lt (a * b) c h.2.2.2.2.1 (by omega)
    have q1 : a * b / c ≤ 1125899906842623 := by omega
    go_enter Tryd.func14, Tryd.ntmps14
    go_wp2_with (first | (go_at_call 25; refine (over_yes a b c h hh _).mono ?_; rintro e w' ⟨rfl, n, rfl⟩) | (go_at_call 26; refine (amount_yes (a * b / c + 1) (by omega) (by omega) _).mono ?_; rintro e w' ⟨rfl, rfl⟩))
    go_ret2
    exact ⟨rfl, _, rfl⟩
  · rw [upQ_even _ _ hr] at hq ⊢
    have hh := hi_lt (a * b) c h.2.2.2.2.1 (by omega)
    go_enter Tryd.func14, Tryd.ntmps14
    go_wp2_with (first | (go_at_call 25; refine (over_yes a b c h hh _).mono ?_; rintro e w' ⟨rfl, n, rfl⟩) | (go_at_call 26; refine (amount_yes (a * b / c) q0 hq _).mono ?_; rintro e w' ⟨rfl, rfl⟩))
    go_ret2
    exact ⟨rfl, _, rfl⟩
set_option maxHeartbeats 1000000 in
theorem up_no (a b c : Int) (h : ¬ (Amounts a b c ∧ upQ (a * b) c ≤ 1125899906842624)) (hW : a * b / c < 18446744073709551615) (p : Addr) (w : World) (hE : w.cell? ⟨1, 0, none⟩ = some (sent p)) :
    Calls Tryd.prog 14 #[.int .i64 a, .int .i64 b, .int .i64 c] w fun e w' => e = .returned (.tuple #[.int .i64 0, sent p]) ∧ ∃ n, w' = w.drewN n := by
  by_cases hA : Amounts a b c
  · by_cases hh : hiW (a * b) < c
    · have hq : 1125899906842624 < upQ (a * b) c := by
        rcases Int.lt_or_le 1125899906842624 (upQ (a * b) c) with g | g
        · exact g
        · exact absurd ⟨hA, g⟩ h
      have q0 := quo_nonneg (a * b) c (Int.mul_nonneg hA.1 hA.2.2.1) hA.2.2.2.2.1
      clear h
      by_cases hr : 0 < a * b % c
      · rw [upQ_rest _ _ hr] at hq
        go_enter Tryd.func14, Tryd.ntmps14
        go_wp2_with (first | (go_at_call 25; refine (over_yes a b c hA hh _).mono ?_; rintro e w' ⟨rfl, n, rfl⟩) | (go_at_call 26; refine (amount_no (a * b / c + 1) hq p _ (by rw [drew_cell]; exact hE)).mono ?_; rintro e w' ⟨rfl, m, rfl⟩))
        go_ret2
        exact ⟨rfl, _, rfl⟩
      · rw [upQ_even _ _ hr] at hq
        go_enter Tryd.func14, Tryd.ntmps14
        go_wp2_with (first | (go_at_call 25; refine (over_yes a b c hA hh _).mono ?_; rintro e w' ⟨rfl, n, rfl⟩) | (go_at_call 26; refine (amount_no (a * b / c) hq p _ (by rw [drew_cell]; exact hE)).mono ?_; rintro e w' ⟨rfl, m, rfl⟩))
        go_ret2
        exact ⟨rfl, _, rfl⟩
    · clear h
      go_enter Tryd.func14, Tryd.ntmps14
      go_wp2_with (go_at_call 25; refine (over_high a b c hA (by omega) p _ hE).mono ?_; rintro e w' ⟨rfl, n, rfl⟩)
      go_ret2
      exact ⟨rfl, _, rfl⟩
  · clear h
    go_enter Tryd.func14, Tryd.ntmps14
    go_wp2_with (go_at_call 25; refine (over_bad a b c hA p _ hE).mono ?_; rintro e w' ⟨rfl, n, rfl⟩)
    go_ret2
    exact ⟨rfl, _, rfl⟩
end Go.Proofs.YtbidlalinnjlpaaDoor
