/-
  The law PartBack, walked: for every three ints it returns true.
-/
import Derived.Test.YtlhffdmhbplpjaaDoorPart
namespace Go.Proofs.YtlhffdmhbplpjaaDoor
open Go.RowKit

set_option maxHeartbeats 1000000 in
/-- a third of ten, down and up -/
theorem parted_yes (w : World) : Calls Tryd.prog 18 #[] w fun e w' => e = .returned (.bool true) ∧ ∃ n, w' = w.drewN n := by
  have hA : Amounts 10 2 3 := by unfold Amounts; omega
  have d := down_yes 10 2 3 hA (by omega)
  have u := up_yes 10 2 3 hA (by decide)
  have e1 : (10 : Int) * 2 / 3 = 6 := by decide
  have e2 : upQ (10 * 2) 3 = 7 := by decide
  rw [e1] at d
  rw [e2] at u
  clear hA e1 e2
  go_enter Tryd.func18, Tryd.ntmps18
  go_wp2_with (first | (go_at_call 19; refine (d _).mono ?_; rintro e w' ⟨rfl, n, rfl⟩) | (go_at_call 20; refine (u _).mono ?_; rintro e w' ⟨rfl, m, rfl⟩))
  go_ret
  exact ⟨rfl, _, rfl⟩

/-! the plain facts -/
theorem prod_bd (a b : Int) (a0 : 0 ≤ a) (a1 : a ≤ 1073741824) (b0 : 0 ≤ b) (b1 : b ≤ 1073741824) : 0 ≤ a * b ∧ a * b ≤ 1152921504606846976 := by
  have h1 := Int.mul_nonneg a0 b0
  have h2 : a * b ≤ 1073741824 * b := Int.mul_le_mul_of_nonneg_right a1 b0
  omega
theorem rest_eq (p c : Int) : p - p / c * c = p % c := by
  have := Int.mul_ediv_add_emod p c
  rw [Int.mul_comm] at this
  omega
theorem quo_le_self (p c : Int) (h0 : 0 ≤ p) : p / c ≤ p := Int.ediv_le_self c h0
theorem back_le (a b q c : Int) (b0 : 1 ≤ b) (h : q * c ≤ a * b) : q * c / b ≤ a := by
  have h1 : q * c / b < a + 1 := by
    rw [Int.ediv_lt_iff_lt_mul (by omega), Int.add_mul]; omega
  omega

set_option maxRecDepth 100000 in
set_option maxHeartbeats 2000000 in
/-- where a quotient is within the bound: the rest of the law -/
theorem partBack_in (a b c : Int) (a0 : 0 ≤ a) (a1 : a ≤ 1073741824) (b0 : 0 ≤ b) (b1 : b ≤ 1073741824) (c0 : 1 ≤ c) (c1 : c ≤ 1125899906842624) (hq : a * b / c ≤ 1125899906842624) (p : Addr) (w : World) (hE : w.cell? ⟨1, 0, none⟩ = some (sent p)) :
    Calls Tryd.prog 4 #[.int .i64 a, .int .i64 b, .int .i64 c] w fun e w' => e = .returned (.bool true) ∧ ∃ n, w' = w.drewN n := by
  obtain ⟨p0, p1⟩ := prod_bd a b a0 a1 b0 b1
  have hA : Amounts a b c := ⟨a0, by omega, b0, by omega, c0, c1⟩
  have q0 := quo_nonneg (a * b) c p0 c0
  have q1 := quo_le_self (a * b) c p0
  have d := down_yes a b c hA hq
  have r0 := Int.emod_nonneg (a * b) (show c ≠ 0 by omega)
  have r1 := Int.emod_lt_of_pos (a * b) (show 0 < c by omega)
  have re := rest_eq (a * b) c
  have m0 : 0 ≤ a * b / c * c := Int.mul_nonneg q0 (by omega)
  have m1 : a * b / c * c ≤ a * b := by omega
  by_cases hu : upQ (a * b) c ≤ 1125899906842624
  · have u := up_yes a b c hA hu
    by_cases hr : 0 < a * b % c
    · have t1 : (a * b % c == 0) = false := by simp; omega
      rw [upQ_rest _ _ hr] at u
      clear hu
      by_cases hb : b = 0
      · have t3 : (b == 0) = true := by simp; exact hb
        have t4 : (a * b / c == 0) = true := by simp [hb]
        clear hb
        go_enter Tryd.func4, Tryd.ntmps4
        go_wp2_with (first | (go_at_call 18; refine (parted_yes _).mono ?_; rintro e w' ⟨rfl, n, rfl⟩) | (go_at_call 19; refine (d _).mono ?_; rintro e w' ⟨rfl, m, rfl⟩) | (go_at_call 20; refine (u _).mono ?_; rintro e w' ⟨rfl, k, rfl⟩))
        go_ret
        exact ⟨rfl, _, rfl⟩
      · have t3 : (b == 0) = false := by simp; exact hb
        have bk := back_le a b (a * b / c) c (by omega) m1
        have d2 := down_yes (a * b / c) c b ⟨q0, hq, by omega, c1, by omega, by omega⟩ (by omega)
        clear hb
        go_enter Tryd.func4, Tryd.ntmps4
        go_wp2_with fail
        refine (parted_yes _).mono ?_
        rintro e w' ⟨rfl, n, rfl⟩
        go_wp2_with fail
        refine (d _).mono ?_
        rintro e w' ⟨rfl, m, rfl⟩
        go_wp2_with fail
        refine (u _).mono ?_
        rintro e w' ⟨rfl, k, rfl⟩
        go_wp2_with fail
        refine (d2 _).mono ?_
        rintro e w' ⟨rfl, j, rfl⟩
        go_wp2
        go_ret
        exact ⟨rfl, _, rfl⟩
    · have t1 : (a * b % c == 0) = true := by simp; omega
      rw [upQ_even _ _ hr] at u
      clear hu
      by_cases hb : b = 0
      · have t3 : (b == 0) = true := by simp; exact hb
        have t4 : (a * b / c == 0) = true := by simp [hb]
        clear hb
        go_enter Tryd.func4, Tryd.ntmps4
        go_wp2_with (first | (go_at_call 18; refine (parted_yes _).mono ?_; rintro e w' ⟨rfl, n, rfl⟩) | (go_at_call 19; refine (d _).mono ?_; rintro e w' ⟨rfl, m, rfl⟩) | (go_at_call 20; refine (u _).mono ?_; rintro e w' ⟨rfl, k, rfl⟩))
        go_ret
        exact ⟨rfl, _, rfl⟩
      · have t3 : (b == 0) = false := by simp; exact hb
        have bk := back_le a b (a * b / c) c (by omega) m1
        have d2 := down_yes (a * b / c) c b ⟨q0, hq, by omega, c1, by omega, by omega⟩ (by omega)
        clear hb
        go_enter Tryd.func4, Tryd.ntmps4
        go_wp2_with fail
        refine (parted_yes _).mono ?_
        rintro e w' ⟨rfl, n, rfl⟩
        go_wp2_with fail
        refine (d _).mono ?_
        rintro e w' ⟨rfl, m, rfl⟩
        go_wp2_with fail
        refine (u _).mono ?_
        rintro e w' ⟨rfl, k, rfl⟩
        go_wp2_with fail
        refine (d2 _).mono ?_
        rintro e w' ⟨rfl, j, rfl⟩
        go_wp2
        go_ret
        exact ⟨rfl, _, rfl⟩
  · have u := up_no a b c (fun h => hu h.2) p
    have t2 : (a * b / c == 1125899906842624) = true := by
      simp
      by_cases hr : 0 < a * b % c
      · rw [upQ_rest _ _ hr] at hu; omega
      · rw [upQ_even _ _ hr] at hu; omega
    clear hu
    go_enter Tryd.func4, Tryd.ntmps4
    go_wp2_with (first | (go_at_call 18; refine (parted_yes _).mono ?_; rintro e w' ⟨rfl, n, rfl⟩) | (go_at_call 19; refine (d _).mono ?_; rintro e w' ⟨rfl, m, rfl⟩) | (go_at_call 20; refine (u _ (by rw [drew_cell]; exact hE)).mono ?_; rintro e w' ⟨rfl, k, rfl⟩))
    go_ret
    exact ⟨rfl, _, rfl⟩
set_option maxRecDepth 100000 in
set_option maxHeartbeats 2000000 in
/-- The law, for every three ints. -/
theorem partBack_walk (a b c : Int) (p : Addr) (w : World) (hE : w.cell? ⟨1, 0, none⟩ = some (sent p)) :
    Calls Tryd.prog 4 #[.int .i64 a, .int .i64 b, .int .i64 c] w fun e w' => e = .returned (.bool true) ∧ ∃ n, w' = w.drewN n := by
  by_cases a0 : 0 ≤ a
  · by_cases a1 : a ≤ 1073741824
    · by_cases b0 : 0 ≤ b
      · by_cases b1 : b ≤ 1073741824
        · by_cases c0 : 1 ≤ c
          · by_cases c1 : c ≤ 1125899906842624
            · by_cases hq : a * b / c ≤ 1125899906842624
              · exact partBack_in a b c a0 a1 b0 b1 c0 c1 hq p w hE
              · have d := down_no a b c (fun h => hq h.2) p
                go_enter Tryd.func4, Tryd.ntmps4
                go_wp2_with (first | (go_at_call 18; refine (parted_yes _).mono ?_; rintro e w' ⟨rfl, n, rfl⟩) | (go_at_call 19; refine (d _ (by rw [drew_cell]; exact hE)).mono ?_; rintro e w' ⟨rfl, m, rfl⟩))
                go_ret
                exact ⟨rfl, _, rfl⟩
            · clear hE
              go_enter Tryd.func4, Tryd.ntmps4
              go_wp2_with ((go_at_call 18; refine (parted_yes _).mono ?_; rintro e w' ⟨rfl, n, rfl⟩))
              go_ret
              exact ⟨rfl, _, rfl⟩
          · clear hE
            go_enter Tryd.func4, Tryd.ntmps4
            go_wp2_with ((go_at_call 18; refine (parted_yes _).mono ?_; rintro e w' ⟨rfl, n, rfl⟩))
            go_ret
            exact ⟨rfl, _, rfl⟩
        · clear hE
          go_enter Tryd.func4, Tryd.ntmps4
          go_wp2_with ((go_at_call 18; refine (parted_yes _).mono ?_; rintro e w' ⟨rfl, n, rfl⟩))
          go_ret
          exact ⟨rfl, _, rfl⟩
      · clear hE
        go_enter Tryd.func4, Tryd.ntmps4
        go_wp2_with ((go_at_call 18; refine (parted_yes _).mono ?_; rintro e w' ⟨rfl, n, rfl⟩))
        go_ret
        exact ⟨rfl, _, rfl⟩
    · clear hE
      go_enter Tryd.func4, Tryd.ntmps4
      go_wp2_with ((go_at_call 18; refine (parted_yes _).mono ?_; rintro e w' ⟨rfl, n, rfl⟩))
      go_ret
      exact ⟨rfl, _, rfl⟩
  · clear hE
    go_enter Tryd.func4, Tryd.ntmps4
    go_wp2_with ((go_at_call 18; refine (parted_yes _).mono ?_; rintro e w' ⟨rfl, n, rfl⟩))
    go_ret
    exact ⟨rfl, _, rfl⟩
end Go.Proofs.YtlhffdmhbplpjaaDoor
