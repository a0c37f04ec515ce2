/-
  The program's package issue by its contracts: ratios, rates, bonuses, rewards.
-/
import Derived.Test.YtaihcceobnfmhaaDoorIssueMathX
import Derived.Test.YtaihcceobnfmhaaDoorBend4
import Derived.Test.YtaihcceobnfmhaaDoorPart
import Derived.Test.YtaihcceobnfmhaaDoorKeptPX
import Derived.Test.YtaihcceobnfmhaaDoorProgPurseX
namespace Go.Proofs.YtaihcceobnfmhaaDoor
open Go.RowKit

/-- what the errors of what is issued hold -/
structure IssLaid (w : World) (A : Nat → Addr) : Prop where
  v1 : w.cell? ⟨0, 0, none⟩ = some (sent (A 1))
  v2 : w.cell? ⟨7, 0, none⟩ = some (sent (A 2))
theorem IssLaid.below {w w' : World} {A : Nat → Addr} (h : IssLaid w A) (hB : Below w.heap.size w w') : IssLaid w' A :=
  ⟨by rw [hB.cell (cell_lt h.v1)]; exact h.v1, by rw [hB.cell (cell_lt h.v2)]; exact h.v2⟩
theorem bounded (A : Nat → Addr) : ErrIs A (sent (A 1)) 2 := .inr ⟨1, by omega, rfl, rfl⟩

/-! numbers -/
theorem mill_yes (n : Int) (h0 : 0 ≤ n) (h1 : n ≤ 1000000) (w : World) :
    Calls Tryd.prog 69 #[.int .i64 n] w fun e w' => e = .returned (.bool true) ∧ w' = w := by
  go_enter Tryd.func69, Tryd.ntmps69
  go_wp2
  go_ret
  exact ⟨rfl, rfl⟩
theorem mill_no (n : Int) (h : ¬ (0 ≤ n ∧ n ≤ 1000000)) (w : World) :
    Calls Tryd.prog 69 #[.int .i64 n] w fun e w' => e = .returned (.bool false) ∧ w' = w := by
  by_cases h0 : 0 ≤ n
  · have h1 : ¬ n ≤ 1000000 := by omega
    clear h
    go_enter Tryd.func69, Tryd.ntmps69
    go_wp2
    go_ret
    exact ⟨rfl, rfl⟩
  · clear h
    go_enter Tryd.func69, Tryd.ntmps69
    go_wp2
    go_ret
    exact ⟨rfl, rfl⟩
theorem isBonus_yes (n : Int) (h0 : 0 ≤ n) (h1 : n ≤ 5000) (w : World) :
    Calls Tryd.prog 70 #[.int .i64 n] w fun e w' => e = .returned (.bool true) ∧ w' = w := by
  go_enter Tryd.func70, Tryd.ntmps70
  go_wp2
  go_ret
  exact ⟨rfl, rfl⟩
theorem isBonus_no (n : Int) (h : ¬ (0 ≤ n ∧ n ≤ 5000)) (w : World) :
    Calls Tryd.prog 70 #[.int .i64 n] w fun e w' => e = .returned (.bool false) ∧ w' = w := by
  by_cases h0 : 0 ≤ n
  · have h1 : ¬ n ≤ 5000 := by omega
    clear h
    go_enter Tryd.func70, Tryd.ntmps70
    go_wp2
    go_ret
    exact ⟨rfl, rfl⟩
  · clear h
    go_enter Tryd.func70, Tryd.ntmps70
    go_wp2
    go_ret
    exact ⟨rfl, rfl⟩

/-! ratios -/
set_option maxHeartbeats 1000000 in
theorem is_ratio (s t : Int) (A : Nat → Addr) (w : World) (hL : IssLaid w A) :
    Calls Tryd.prog 73 #[.int .i64 s, .int .i64 t] w fun e w' => ∃ ev, e = .returned (.tuple #[.int .i64 (ratioN s t), ev]) ∧ ErrIs A ev (ratioC s t) ∧ Below w.heap.size w w' := by
  by_cases hs : s ≤ t
  · by_cases ok : RatioOk s t
    · have e1 : ratioN s t = s * 1000000 / t := if_pos ok
      have e2 : ratioC s t = 0 := if_pos ok
      obtain ⟨q0, q1⟩ := ratio_bd ok
      have D := down_yes s 1000000 t ⟨ok.1.1, ok.1.2, by omega, by omega, ok.2.1, ok.2.2.1⟩ (by omega) w
      rw [e1, e2]
      clear ok e1 e2
      generalize s * 1000000 / t = q at *
      go_enter Tryd.func73, Tryd.ntmps73
      go_wp2_with (go_at_call 74; refine D.mono ?_; rintro e w' ⟨rfl, n, rfl⟩)
      go_ret2
      exact ⟨_, rfl, .inl ⟨rfl, rfl⟩, below_drewN (Below.refl _ _) _⟩
    · have e1 : ratioN s t = 0 := if_neg ok
      have e2 : ratioC s t = 2 := if_neg ok
      have D := down_no s 1000000 t (fun h => ok ⟨⟨h.1.1, h.1.2.1⟩, h.1.2.2.2.2.1, h.1.2.2.2.2.2, hs⟩) (A 1) w hL.v1
      rw [e1, e2]
      clear ok e1 e2
      go_enter Tryd.func73, Tryd.ntmps73
      go_wp2_with (go_at_call 74; refine D.mono ?_; rintro e w' ⟨rfl, n, rfl⟩)
      go_ret2
      exact ⟨_, rfl, bounded A, below_drewN (Below.refl _ _) _⟩
  · have ok : ¬ RatioOk s t := fun h => hs h.2.2.2
    have e1 : ratioN s t = 0 := if_neg ok
    have e2 : ratioC s t = 2 := if_neg ok
    have v1 := hL.v1
    rw [e1, e2]
    clear ok e1 e2
    go_enter Tryd.func73, Tryd.ntmps73
    go_wp2
    go_quiet (fail)
    go_wp2
    go_ret2
    exact ⟨_, rfl, bounded A, below_drewN (Below.refl _ _) _⟩

/-! rates -/
theorem rates_calls (w : World) :
    Calls Tryd.prog 72 #[] w fun e w' => e = .returned (.slice (some ⟨w.heap.size, 0, none⟩) 4 4) ∧ w' = w.alloc (.cells four4 115) := by
  go_enter Tryd.func72, Tryd.ntmps72
  go_wp2
  go_ret
  exact ⟨rfl, rfl⟩
theorem bend4 (r : Int) (h0 : 0 ≤ r) (h1 : r ≤ 1000000) (w : World) (t : TypeId) :
    Calls Tryd.prog 71 #[.slice (some ⟨w.heap.size, 0, none⟩) 4 4, .int .i64 r] (w.alloc (.cells four4 t)) fun e w' => e = .returned (.tuple #[.int .i64 (bendR r), .nilIface]) ∧ Below w.heap.size w w' := by
  have B0 : Below w.heap.size w (w.alloc (.cells four4 t)) := (Below.refl _ _).alloc (Nat.le_refl _) _
  rcases at4 h0 h1 with ⟨hx, e⟩ | ⟨i, hi, hx, hx1, e⟩
  · rw [← e]
    exact (bend_last w.heap.size 0 4 4 X4 Y4 r _ (by simp) (by omega) (by omega) (by omega) (pts4 w t) good4 h0 h1 hx).mono fun e w' ⟨a, b⟩ => ⟨a, B0.trans (b.mono B0.size)⟩
  · rw [← e]
    exact (bend_mid w.heap.size 0 4 4 i X4 Y4 r _ (by simp) (by omega) (by omega) (by omega) (pts4 w t) good4 h0 h1 hi hx hx1).mono fun e w' ⟨a, b⟩ => ⟨a, B0.trans (b.mono B0.size)⟩
set_option maxHeartbeats 1000000 in
theorem is_rate (r b : Int) (A : Nat → Addr) (w : World) (hL : IssLaid w A) :
    Calls Tryd.prog 55 #[.int .i64 r, .int .i64 b] w fun e w' => ∃ ev, e = .returned (.tuple #[.int .i64 (rateN r b), ev]) ∧ ErrIs A ev (rateC r b) ∧ Below w.heap.size w w' := by
  by_cases ok : RateOk r b
  · have e1 : rateN r b = bendR r + b := if_pos ok
    have e2 : rateC r b = 0 := if_pos ok
    obtain ⟨⟨r0, r1⟩, b0, b1⟩ := ok
    have M := mill_yes r r0 r1
    have I := isBonus_yes b b0 b1
    have R := rates_calls w
    have P := bend4 r r0 r1 w 115
    obtain ⟨c0, c1⟩ := bendR_bd r0 r1
    rw [e1, e2]
    clear e1 e2
    generalize bendR r = q at *
    go_enter Tryd.func55, Tryd.ntmps55
    go_wp2_with (first | (go_at_call 69; refine (M _).mono ?_; rintro e w' ⟨rfl, rfl⟩) | (go_at_call 70; refine (I _).mono ?_; rintro e w' ⟨rfl, rfl⟩) | (go_at_call 72; refine R.mono ?_; rintro e w' ⟨rfl, rfl⟩) | (go_at_call 71; refine P.mono ?_; rintro e w1 ⟨rfl, hB⟩))
    go_ret2
    exact ⟨_, rfl, .inl ⟨rfl, rfl⟩, hB⟩
  · have e1 : rateN r b = 0 := if_neg ok
    have e2 : rateC r b = 2 := if_neg ok
    have v1 := hL.v1
    rw [e1, e2]
    clear e1 e2
    by_cases hr : 0 ≤ r ∧ r ≤ 1000000
    · have M := mill_yes r hr.1 hr.2
      have I := isBonus_no b (fun h => ok ⟨hr, h⟩)
      clear ok hr
      go_enter Tryd.func55, Tryd.ntmps55
      go_wp2_with (first | (go_at_call 69; refine (M _).mono ?_; rintro e w' ⟨rfl, rfl⟩) | (go_at_call 70; refine (I _).mono ?_; rintro e w' ⟨rfl, rfl⟩))
      go_quiet (fail)
      go_wp2
      go_ret2
      exact ⟨_, rfl, bounded A, below_drewN (Below.refl _ _) _⟩
    · have M := mill_no r hr
      clear ok hr
      go_enter Tryd.func55, Tryd.ntmps55
      go_wp2_with (go_at_call 69; refine (M _).mono ?_; rintro e w' ⟨rfl, rfl⟩)
      go_quiet (fail)
      go_wp2
      go_ret2
      exact ⟨_, rfl, bounded A, below_drewN (Below.refl _ _) _⟩

/-! bonuses -/
set_option maxHeartbeats 1000000 in
theorem is_bonus (b r : Int) (A : Nat → Addr) (w : World) (hL : IssLaid w A) :
    Calls Tryd.prog 63 #[.int .i64 b, .int .i64 r] w fun e w' => ∃ ev, e = .returned (.tuple #[.int .i64 (bonusN b r), ev]) ∧ ErrIs A ev (rateC r b) ∧ Below w.heap.size w w' := by
  by_cases ok : RateOk r b
  · have e1 : bonusN b r = bonusV b r := if_pos ok
    have e2 : rateC r b = 0 := if_pos ok
    obtain ⟨⟨r0, r1⟩, b0, b1⟩ := ok
    have M := mill_yes r r0 r1
    have I := isBonus_yes b b0 b1
    rw [e1, e2]
    clear e1 e2
    unfold bonusV
    by_cases hl : r < 480000
    · rw [if_pos hl]
      by_cases hm : b + 100 < 5000
      · rw [if_pos hm]
        go_enter Tryd.func63, Tryd.ntmps63
        go_wp2_with (first | (go_at_call 69; refine (M _).mono ?_; rintro e w' ⟨rfl, rfl⟩) | (go_at_call 70; refine (I _).mono ?_; rintro e w' ⟨rfl, rfl⟩))
        go_ret2
        exact ⟨_, ret_pair (by omega) _, .inl ⟨rfl, rfl⟩, Below.refl _ _⟩
      · rw [if_neg hm]
        go_enter Tryd.func63, Tryd.ntmps63
        go_wp2_with (first | (go_at_call 69; refine (M _).mono ?_; rintro e w' ⟨rfl, rfl⟩) | (go_at_call 70; refine (I _).mono ?_; rintro e w' ⟨rfl, rfl⟩))
        go_ret2
        exact ⟨_, ret_pair (by omega) _, .inl ⟨rfl, rfl⟩, Below.refl _ _⟩
    · rw [if_neg hl]
      by_cases hh : 520000 < r
      · rw [if_pos hh]
        by_cases hm : 0 < b - 100
        · rw [if_pos hm]
          go_enter Tryd.func63, Tryd.ntmps63
          go_wp2_with (first | (go_at_call 69; refine (M _).mono ?_; rintro e w' ⟨rfl, rfl⟩) | (go_at_call 70; refine (I _).mono ?_; rintro e w' ⟨rfl, rfl⟩))
          go_ret2
          exact ⟨_, ret_pair (by omega) _, .inl ⟨rfl, rfl⟩, Below.refl _ _⟩
        · rw [if_neg hm]
          go_enter Tryd.func63, Tryd.ntmps63
          go_wp2_with (first | (go_at_call 69; refine (M _).mono ?_; rintro e w' ⟨rfl, rfl⟩) | (go_at_call 70; refine (I _).mono ?_; rintro e w' ⟨rfl, rfl⟩))
          go_ret2
          exact ⟨_, ret_pair (by omega) _, .inl ⟨rfl, rfl⟩, Below.refl _ _⟩
      · rw [if_neg hh]
        go_enter Tryd.func63, Tryd.ntmps63
        go_wp2_with (first | (go_at_call 69; refine (M _).mono ?_; rintro e w' ⟨rfl, rfl⟩) | (go_at_call 70; refine (I _).mono ?_; rintro e w' ⟨rfl, rfl⟩))
        go_ret2
        exact ⟨_, ret_pair (by omega) _, .inl ⟨rfl, rfl⟩, Below.refl _ _⟩
  · have e1 : bonusN b r = 0 := if_neg ok
    have e2 : rateC r b = 2 := if_neg ok
    have v1 := hL.v1
    rw [e1, e2]
    clear e1 e2
    by_cases hr : 0 ≤ r ∧ r ≤ 1000000
    · have M := mill_yes r hr.1 hr.2
      have I := isBonus_no b (fun h => ok ⟨hr, h⟩)
      clear ok hr
      go_enter Tryd.func63, Tryd.ntmps63
      go_wp2_with (first | (go_at_call 69; refine (M _).mono ?_; rintro e w' ⟨rfl, rfl⟩) | (go_at_call 70; refine (I _).mono ?_; rintro e w' ⟨rfl, rfl⟩))
      go_quiet (fail)
      go_wp2
      go_ret2
      exact ⟨_, rfl, bounded A, below_drewN (Below.refl _ _) _⟩
    · have M := mill_no r hr
      clear ok hr
      go_enter Tryd.func63, Tryd.ntmps63
      go_wp2_with (go_at_call 69; refine (M _).mono ?_; rintro e w' ⟨rfl, rfl⟩)
      go_quiet (fail)
      go_wp2
      go_ret2
      exact ⟨_, rfl, bounded A, below_drewN (Below.refl _ _) _⟩

/-! rewards -/
set_option maxHeartbeats 1000000 in
theorem is_reward (s r : Int) (A : Nat → Addr) (w : World) (hL : IssLaid w A) :
    Calls Tryd.prog 57 #[.int .i64 s, .int .i64 r] w fun e w' => ∃ ev, e = .returned (.tuple #[.int .i64 (rewardN s r), ev]) ∧ ErrIs A ev (rewardC s r) ∧ Below w.heap.size w w' := by
  have v1 := hL.v1
  by_cases hr : 0 ≤ r ∧ r ≤ 1000000
  · have M := mill_yes r hr.1 hr.2
    by_cases ok : RewardOk s r
    · have e1 : rewardN s r = s * r / 1000000 / 4 := if_pos ok
      have e2 : rewardC s r = 0 := if_pos ok
      obtain ⟨q0, q1⟩ := reward_bd ok
      have D := down_yes s r 1000000 ⟨ok.1.1, ok.1.2, by omega, by omega, by omega, by omega⟩ (by omega) w
      have h1 := ok.1.2
      rw [e1, e2]
      clear ok e1 e2
      generalize s * r / 1000000 = q at *
      go_enter Tryd.func57, Tryd.ntmps57
      go_wp2_with (first | (go_at_call 69; refine (M _).mono ?_; rintro e w' ⟨rfl, rfl⟩) | (go_at_call 74; refine D.mono ?_; rintro e w' ⟨rfl, n, rfl⟩))
      go_ret2
      exact ⟨_, rfl, .inl ⟨rfl, rfl⟩, below_drewN (Below.refl _ _) _⟩
    · have e1 : rewardN s r = 0 := if_neg ok
      have e2 : rewardC s r = 2 := if_neg ok
      have D := down_no s r 1000000 (fun h => ok ⟨⟨h.1.1, h.1.2.1⟩, hr⟩) (A 1) w hL.v1
      rw [e1, e2]
      clear ok e1 e2
      go_enter Tryd.func57, Tryd.ntmps57
      go_wp2_with (first | (go_at_call 69; refine (M _).mono ?_; rintro e w' ⟨rfl, rfl⟩) | (go_at_call 74; refine D.mono ?_; rintro e w' ⟨rfl, n, rfl⟩))
      go_ret2
      exact ⟨_, rfl, bounded A, below_drewN (Below.refl _ _) _⟩
  · have M := mill_no r hr
    have ok : ¬ RewardOk s r := fun h => hr h.2
    have e1 : rewardN s r = 0 := if_neg ok
    have e2 : rewardC s r = 2 := if_neg ok
    rw [e1, e2]
    clear ok e1 e2 hr
    go_enter Tryd.func57, Tryd.ntmps57
    go_wp2_with (go_at_call 69; refine (M _).mono ?_; rintro e w' ⟨rfl, rfl⟩)
    go_quiet (fail)
    go_wp2
    go_ret2
    exact ⟨_, rfl, bounded A, below_drewN (Below.refl _ _) _⟩
end Go.Proofs.YtaihcceobnfmhaaDoor
