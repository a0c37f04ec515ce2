/-
  Package part by its contracts: over, Down, Up.
-/
import Derived.Test.YtaihcceobnfmhaaDoorDiv
import Derived.Test.YtaihcceobnfmhaaDoorSentVX
import Derived.Test.YtaihcceobnfmhaaDoorQuoX
namespace Go.Proofs.YtaihcceobnfmhaaDoor
open Go.RowKit

/-- whether three numbers are amounts, the third not 0 -/
def Amounts (a b c : Int) : Prop := 0 ≤ a ∧ a ≤ 1125899906842624 ∧ 0 ≤ b ∧ b ≤ 1125899906842624 ∧ 1 ≤ c ∧ c ≤ 1125899906842624

/-- what Down and Up lean on: a quotient within the amounts' bound has no upper word beyond -/
theorem hi_lt (p c : Int) (c0 : 1 ≤ c) (h : p / c ≤ 1125899906842624) : hiW p < c := by
  have := Int.lt_ediv_add_one_mul_self p (show 0 < c by omega)
  have h1 : (p / c + 1) * c ≤ 1125899906842625 * c := Int.mul_le_mul_of_nonneg_right (by omega) (by omega)
  unfold hiW
  omega
theorem quo_nonneg (p c : Int) (h0 : 0 ≤ p) (c0 : 1 ≤ c) : 0 ≤ p / c := Int.ediv_nonneg h0 (by omega)
theorem quo_lt (p c : Int) (c0 : 1 ≤ c) (h : hiW p < c) : p / c ≤ 18446744073709551615 := by
  have : p / c < 18446744073709551616 := by
    rw [Int.ediv_lt_iff_lt_mul (by omega)]
    unfold hiW at h; omega
  omega

set_option maxHeartbeats 1000000 in
theorem over_yes (a b c : Int) (h : Amounts a b c) (hq : a * b / c ≤ 1125899906842624) (w : World) :
    Calls Tryd.prog 82 #[.int .i64 a, .int .i64 b, .int .i64 c] w fun e w' => e = .returned (.tuple #[.int .i64 (a * b / c), .int .i64 (a * b % c), .nilIface]) ∧ ∃ n, w' = w.drewN n := by
  obtain ⟨a0, a1, b0, b1, c0, c1⟩ := h
  have hp := Int.mul_nonneg a0 b0
  have g0 : 0 ≤ hiW (a * b) := by unfold hiW; omega
  have hh := hi_lt (a * b) c c0 hq
  have q0 := quo_nonneg (a * b) c hp c0
  have r0 := Int.emod_nonneg (a * b) (show c ≠ 0 by omega)
  have r1 := Int.emod_lt_of_pos (a * b) (show 0 < c by omega)
  go_enter Tryd.func82, Tryd.ntmps82
  go_wp2_with (first | (go_at_call 86; refine (mul64 a b (by omega) (by omega) (by omega) (by omega) _).mono ?_; rintro e w' ⟨rfl, rfl⟩) | (go_at_call 87; refine (div64_of (a * b) c hp hh (by omega) _).mono ?_; rintro e w' ⟨rfl, n, rfl⟩) | go_in)
  go_ret3
  exact ⟨rfl, _, rfl⟩
set_option maxHeartbeats 1000000 in
theorem over_big (a b c : Int) (h : Amounts a b c) (hh : hiW (a * b) < c) (hq : 1125899906842624 < a * b / c) (p : Addr) (w : World) (hE : w.cell? ⟨0, 0, none⟩ = some (sent p)) :
    Calls Tryd.prog 82 #[.int .i64 a, .int .i64 b, .int .i64 c] w fun e w' => e = .returned (.tuple #[.int .i64 0, .int .i64 0, sent p]) ∧ ∃ n, w' = w.drewN n := by
  obtain ⟨a0, a1, b0, b1, c0, c1⟩ := h
  have hp := Int.mul_nonneg a0 b0
  have g0 : 0 ≤ hiW (a * b) := by unfold hiW; omega
  go_enter Tryd.func82, Tryd.ntmps82
  go_wp2_with (first | (go_at_call 86; refine (mul64 a b (by omega) (by omega) (by omega) (by omega) _).mono ?_; rintro e w' ⟨rfl, rfl⟩) | (go_at_call 87; refine (div64_of (a * b) c hp hh (by omega) _).mono ?_; rintro e w' ⟨rfl, n, rfl⟩) | go_in)
  go_quiet (fail)
  go_wp2
  go_ret3
  exact ⟨rfl, _, World.drewN_drewN _ _ _⟩
set_option maxHeartbeats 1000000 in
theorem over_high (a b c : Int) (h : Amounts a b c) (hh : c ≤ hiW (a * b)) (p : Addr) (w : World) (hE : w.cell? ⟨0, 0, none⟩ = some (sent p)) :
    Calls Tryd.prog 82 #[.int .i64 a, .int .i64 b, .int .i64 c] w fun e w' => e = .returned (.tuple #[.int .i64 0, .int .i64 0, sent p]) ∧ ∃ n, w' = w.drewN n := by
  obtain ⟨a0, a1, b0, b1, c0, c1⟩ := h
  go_enter Tryd.func82, Tryd.ntmps82
  go_wp2_with (first | (go_at_call 86; refine (mul64 a b (by omega) (by omega) (by omega) (by omega) _).mono ?_; rintro e w' ⟨rfl, rfl⟩) | go_in)
  go_quiet (fail)
  go_wp2
  go_ret3
  exact ⟨rfl, _, rfl⟩
set_option maxHeartbeats 1000000 in
theorem over_bad (a b c : Int) (h : ¬ Amounts a b c) (p : Addr) (w : World) (hE : w.cell? ⟨0, 0, none⟩ = some (sent p)) :
    Calls Tryd.prog 82 #[.int .i64 a, .int .i64 b, .int .i64 c] w fun e w' => e = .returned (.tuple #[.int .i64 0, .int .i64 0, sent p]) ∧ ∃ n, w' = w.drewN n := by
  unfold Amounts at h
  by_cases a0 : 0 ≤ a
  · by_cases a1 : a ≤ 1125899906842624
    · by_cases b0 : 0 ≤ b
      · by_cases b1 : b ≤ 1125899906842624
        · by_cases c0 : 0 < c
          · by_cases c1 : c ≤ 1125899906842624
            · exact absurd ⟨a0, a1, b0, b1, by omega, c1⟩ h
            all_goals
              clear h
              go_enter Tryd.func82, Tryd.ntmps82
              go_wp2
              go_quiet (fail)
              go_wp2
              go_ret3
              exact ⟨rfl, _, rfl⟩
          all_goals
            clear h
            go_enter Tryd.func82, Tryd.ntmps82
            go_wp2
            go_quiet (fail)
            go_wp2
            go_ret3
            exact ⟨rfl, _, rfl⟩
        all_goals
          clear h
          go_enter Tryd.func82, Tryd.ntmps82
          go_wp2
          go_quiet (fail)
          go_wp2
          go_ret3
          exact ⟨rfl, _, rfl⟩
      all_goals
        clear h
        go_enter Tryd.func82, Tryd.ntmps82
        go_wp2
        go_quiet (fail)
        go_wp2
        go_ret3
        exact ⟨rfl, _, rfl⟩
    all_goals
      clear h
      go_enter Tryd.func82, Tryd.ntmps82
      go_wp2
      go_quiet (fail)
      go_wp2
      go_ret3
      exact ⟨rfl, _, rfl⟩
  all_goals
    clear h
    go_enter Tryd.func82, Tryd.ntmps82
    go_wp2
    go_quiet (fail)
    go_wp2
    go_ret3
    exact ⟨rfl, _, rfl⟩

theorem over_no (a b c : Int) (h : ¬ (Amounts a b c ∧ a * b / c ≤ 1125899906842624)) (p : Addr) (w : World) (hE : w.cell? ⟨0, 0, none⟩ = some (sent p)) :
    Calls Tryd.prog 82 #[.int .i64 a, .int .i64 b, .int .i64 c] w fun e w' => e = .returned (.tuple #[.int .i64 0, .int .i64 0, sent p]) ∧ ∃ n, w' = w.drewN n := by
  by_cases hA : Amounts a b c
  · by_cases hh : hiW (a * b) < c
    · refine over_big a b c hA hh ?_ p w hE
      rcases Int.lt_or_le 1125899906842624 (a * b / c) with g | g
      · exact g
      · exact absurd ⟨hA, g⟩ h
    · exact over_high a b c hA (by omega) p w hE
  · exact over_bad a b c hA p w hE

set_option maxHeartbeats 1000000 in
theorem down_yes (a b c : Int) (h : Amounts a b c) (hq : a * b / c ≤ 1125899906842624) (w : World) :
    Calls Tryd.prog 74 #[.int .i64 a, .int .i64 b, .int .i64 c] w fun e w' => e = .returned (.tuple #[.int .i64 (a * b / c), .nilIface]) ∧ ∃ n, w' = w.drewN n := by
  have q0 := quo_nonneg (a * b) c (Int.mul_nonneg h.1 h.2.2.1) h.2.2.2.2.1
  go_enter Tryd.func74, Tryd.ntmps74
  go_wp2_with (go_at_call 82; refine (over_yes a b c h hq _).mono ?_; rintro e w' ⟨rfl, n, rfl⟩)
  go_ret2
  exact ⟨rfl, _, rfl⟩
set_option maxHeartbeats 1000000 in
theorem down_no (a b c : Int) (h : ¬ (Amounts a b c ∧ a * b / c ≤ 1125899906842624)) (p : Addr) (w : World) (hE : w.cell? ⟨0, 0, none⟩ = some (sent p)) :
    Calls Tryd.prog 74 #[.int .i64 a, .int .i64 b, .int .i64 c] w fun e w' => e = .returned (.tuple #[.int .i64 0, sent p]) ∧ ∃ n, w' = w.drewN n := by
  have O := over_no a b c h p w hE
  clear h
  go_enter Tryd.func74, Tryd.ntmps74
  go_wp2_with (go_at_call 82; refine O.mono ?_; rintro e w' ⟨rfl, n, rfl⟩)
  go_ret2
  exact ⟨rfl, _, rfl⟩

end Go.Proofs.YtaihcceobnfmhaaDoor
