/-
  The program's package issue by its contracts: ratios, rates, bonuses, rewards.
  Numbers laid one behind another.
  The program's chain, as it lies in memory: its parts lie apart; what a step of one of them leaves.
  The program's books: a purse and stakes, apart in memory; what a step of one of them leaves.
  The program's chain by its contracts: what it tells.
-/
import Derived.Test.YtaihcceobnfmhaaGreatDoorAidX
import Derived.Test.YtaihcceobnfmhaaGreatDoorBend4X
import Derived.Test.YtaihcceobnfmhaaGreatDoorPtrMapX
import Derived.Test.YtaihcceobnfmhaaGreatDoorProgPurseX
import Derived.Test.YtaihcceobnfmhaaGreatDoorProgPurseActs
import Derived.Test.YtaihcceobnfmhaaGreatDoorCaseRowX
import Derived.Test.YtaihcceobnfmhaaGreatDoorProgCourtActs
namespace Go.Proofs.YtaihcceobnfmhaaGreatDoor
open Go.RowKit

/-- what the errors of what is issued hold -/
structure IssLaid (w : World) (A : Nat → Addr) : Prop where
  v1 : w.cell? ⟨0, 0, none⟩ = some (sent (A 1))
  v2 : w.cell? ⟨3, 0, none⟩ = some (sent (A 2))
theorem IssLaid.below {w w' : World} {A : Nat → Addr} (h : IssLaid w A) (hB : Below w.heap.size w w') : IssLaid w' A :=
  ⟨by rw [hB.cell (cell_lt h.v1)]; exact h.v1, by rw [hB.cell (cell_lt h.v2)]; exact h.v2⟩
theorem bounded (A : Nat → Addr) : ErrIs A (sent (A 1)) 2 := .inr ⟨1, by omega, rfl, rfl⟩

/-! numbers -/
theorem mill_yes (n : Int) (h0 : 0 ≤ n) (h1 : n ≤ 1000000) (w : World) :
    Calls Tryz.prog 61 #[.int .i64 n] w fun e w' => e = .returned (.bool true) ∧ w' = w := by
  go_enter Tryz.func61, Tryz.ntmps61
  go_wp2
  go_ret
  exact ⟨rfl, rfl⟩
theorem mill_no (n : Int) (h : ¬ (0 ≤ n ∧ n ≤ 1000000)) (w : World) :
    Calls Tryz.prog 61 #[.int .i64 n] w fun e w' => e = .returned (.bool false) ∧ w' = w := by
  by_cases h0 : 0 ≤ n
  · have h1 : ¬ n ≤ 1000000 := by omega
    clear h
    go_enter Tryz.func61, Tryz.ntmps61
    go_wp2
    go_ret
    exact ⟨rfl, rfl⟩
  · clear h
    go_enter Tryz.func61, Tryz.ntmps61
    go_wp2
    go_ret
    exact ⟨rfl, rfl⟩
theorem isBonus_yes (n : Int) (h0 : 0 ≤ n) (h1 : n ≤ 5000) (w : World) :
    Calls Tryz.prog 62 #[.int .i64 n] w fun e w' => e = .returned (.bool true) ∧ w' = w := by
  go_enter Tryz.func62, Tryz.ntmps62
  go_wp2
  go_ret
  exact ⟨rfl, rfl⟩
theorem isBonus_no (n : Int) (h : ¬ (0 ≤ n ∧ n ≤ 5000)) (w : World) :
    Calls Tryz.prog 62 #[.int .i64 n] w fun e w' => e = .returned (.bool false) ∧ w' = w := by
  by_cases h0 : 0 ≤ n
  · have h1 : ¬ n ≤ 5000 := by omega
    clear h
    go_enter Tryz.func62, Tryz.ntmps62
    go_wp2
    go_ret
    exact ⟨rfl, rfl⟩
  · clear h
    go_enter Tryz.func62, Tryz.ntmps62
    go_wp2
    go_ret
    exact ⟨rfl, rfl⟩

/-! ratios -/
set_option maxHeartbeats 1000000 in
theorem is_ratio (s t : Int) (A : Nat → Addr) (w : World) (hL : IssLaid w A) :
    Calls Tryz.prog 23 #[.int .i64 s, .int .i64 t] w fun e w' => ∃ ev, e = .returned (.tuple #[.int .i64 (ratioN s t), ev]) ∧ ErrIs A ev (ratioC s t) ∧ Below w.heap.size w w' := by
  by_cases hs : s ≤ t
  · by_cases ok : RatioOk s t
    · have e1 : ratioN s t = s * 1000000 / t := if_pos ok
      have e2 : ratioC s t = 0 := if_pos ok
      obtain ⟨q0, q1⟩ := ratio_bd ok
      have D := down_yes s 1000000 t ⟨ok.1.1, ok.1.2, by omega, by omega, ok.2.1, ok.2.2.1⟩ (by omega) w
      rw [e1, e2]
      clear ok e1 e2
      generalize s * 1000000 / t = q at *
      go_enter Tryz.func23, Tryz.ntmps23
      go_wp2_with (go_at_call 60; refine D.mono ?_; rintro e w' ⟨rfl, n, rfl⟩)
      go_ret2
      exact ⟨_, rfl, .inl ⟨rfl, rfl⟩, below_drewN (Below.refl _ _) _⟩
    · have e1 : ratioN s t = 0 := if_neg ok
      have e2 : ratioC s t = 2 := if_neg ok
      have D := down_no s 1000000 t (fun h => ok ⟨⟨h.1.1, h.1.2.1⟩, h.1.2.2.2.2.1, h.1.2.2.2.2.2, hs⟩) (A 1) w hL.v1
      rw [e1, e2]
      clear ok e1 e2
      go_enter Tryz.func23, Tryz.ntmps23
      go_wp2_with (go_at_call 60; refine D.mono ?_; rintro e w' ⟨rfl, n, rfl⟩)
      go_ret2
      exact ⟨_, rfl, bounded A, below_drewN (Below.refl _ _) _⟩
  · have ok : ¬ RatioOk s t := fun h => hs h.2.2.2
    have e1 : ratioN s t = 0 := if_neg ok
    have e2 : ratioC s t = 2 := if_neg ok
    have v1 := hL.v1
    rw [e1, e2]
    clear ok e1 e2
    go_enter Tryz.func23, Tryz.ntmps23
    go_wp2
    go_quiet (fail)
    go_wp2
    go_ret2
    exact ⟨_, rfl, bounded A, below_drewN (Below.refl _ _) _⟩

/-! rates -/
theorem rates_calls (w : World) :
    Calls Tryz.prog 64 #[] w fun e w' => e = .returned (.slice (some ⟨w.heap.size, 0, none⟩) 4 4) ∧ w' = w.alloc (.cells four4 168) := by
  go_enter Tryz.func64, Tryz.ntmps64
  go_wp2
  go_ret
  exact ⟨rfl, rfl⟩
theorem bend4 (r : Int) (h0 : 0 ≤ r) (h1 : r ≤ 1000000) (w : World) (t : TypeId) :
    Calls Tryz.prog 63 #[.slice (some ⟨w.heap.size, 0, none⟩) 4 4, .int .i64 r] (w.alloc (.cells four4 t)) fun e w' => e = .returned (.tuple #[.int .i64 (bendR r), .nilIface]) ∧ Below w.heap.size w w' := by
  have B0 : Below w.heap.size w (w.alloc (.cells four4 t)) := (Below.refl _ _).alloc (Nat.le_refl _) _
  rcases at4 h0 h1 with ⟨hx, e⟩ | ⟨i, hi, hx, hx1, e⟩
  · rw [← e]
    exact (bend_last w.heap.size 0 4 4 X4 Y4 r _ (by simp) (by omega) (by omega) (by omega) (pts4 w t) good4 h0 h1 hx).mono fun e w' ⟨a, b⟩ => ⟨a, B0.trans (b.mono B0.size)⟩
  · rw [← e]
    exact (bend_mid w.heap.size 0 4 4 i X4 Y4 r _ (by simp) (by omega) (by omega) (by omega) (pts4 w t) good4 h0 h1 hi hx hx1).mono fun e w' ⟨a, b⟩ => ⟨a, B0.trans (b.mono B0.size)⟩
set_option maxHeartbeats 1000000 in
theorem is_rate (r b : Int) (A : Nat → Addr) (w : World) (hL : IssLaid w A) :
    Calls Tryz.prog 24 #[.int .i64 r, .int .i64 b] w fun e w' => ∃ ev, e = .returned (.tuple #[.int .i64 (rateN r b), ev]) ∧ ErrIs A ev (rateC r b) ∧ Below w.heap.size w w' := by
  by_cases ok : RateOk r b
  · have e1 : rateN r b = bendR r + b := if_pos ok
    have e2 : rateC r b = 0 := if_pos ok
    obtain ⟨⟨r0, r1⟩, b0, b1⟩ := ok
    have M := mill_yes r r0 r1
    have I := isBonus_yes b b0 b1
    have R := rates_calls w
    have P := bend4 r r0 r1 w 168
    obtain ⟨c0, c1⟩ := bendR_bd r0 r1
    rw [e1, e2]
    clear e1 e2
    generalize bendR r = q at *
    go_enter Tryz.func24, Tryz.ntmps24
    go_wp2_with (first | (go_at_call 61; refine (M _).mono ?_; rintro e w' ⟨rfl, rfl⟩) | (go_at_call 62; refine (I _).mono ?_; rintro e w' ⟨rfl, rfl⟩) | (go_at_call 64; refine R.mono ?_; rintro e w' ⟨rfl, rfl⟩) | (go_at_call 63; refine P.mono ?_; rintro e w1 ⟨rfl, hB⟩))
    go_ret2
    exact ⟨_, rfl, .inl ⟨rfl, rfl⟩, hB⟩
  · have e1 : rateN r b = 0 := if_neg ok
    have e2 : rateC r b = 2 := if_neg ok
    have v1 := hL.v1
    rw [e1, e2]
    clear e1 e2
    by_cases hr : 0 ≤ r ∧ r ≤ 1000000
    · have M := mill_yes r hr.1 hr.2
      have I := isBonus_no b (fun h => ok ⟨hr, h⟩)
      clear ok hr
      go_enter Tryz.func24, Tryz.ntmps24
      go_wp2_with (first | (go_at_call 61; refine (M _).mono ?_; rintro e w' ⟨rfl, rfl⟩) | (go_at_call 62; refine (I _).mono ?_; rintro e w' ⟨rfl, rfl⟩))
      go_quiet (fail)
      go_wp2
      go_ret2
      exact ⟨_, rfl, bounded A, below_drewN (Below.refl _ _) _⟩
    · have M := mill_no r hr
      clear ok hr
      go_enter Tryz.func24, Tryz.ntmps24
      go_wp2_with (go_at_call 61; refine (M _).mono ?_; rintro e w' ⟨rfl, rfl⟩)
      go_quiet (fail)
      go_wp2
      go_ret2
      exact ⟨_, rfl, bounded A, below_drewN (Below.refl _ _) _⟩

/-! bonuses -/
set_option maxHeartbeats 1000000 in
theorem is_bonus (b r : Int) (A : Nat → Addr) (w : World) (hL : IssLaid w A) :
    Calls Tryz.prog 108 #[.int .i64 b, .int .i64 r] w fun e w' => ∃ ev, e = .returned (.tuple #[.int .i64 (bonusN b r), ev]) ∧ ErrIs A ev (rateC r b) ∧ Below w.heap.size w w' := by
  by_cases ok : RateOk r b
  · have e1 : bonusN b r = bonusV b r := if_pos ok
    have e2 : rateC r b = 0 := if_pos ok
    obtain ⟨⟨r0, r1⟩, b0, b1⟩ := ok
    have M := mill_yes r r0 r1
    have I := isBonus_yes b b0 b1
    rw [e1, e2]
    clear e1 e2
    unfold bonusV
    by_cases hl : r < 480000
    · rw [if_pos hl]
      by_cases hm : b + 100 < 5000
      · rw [if_pos hm]
        go_enter Tryz.func108, Tryz.ntmps108
        go_wp2_with (first | (go_at_call 61; refine (M _).mono ?_; rintro e w' ⟨rfl, rfl⟩) | (go_at_call 62; refine (I _).mono ?_; rintro e w' ⟨rfl, rfl⟩))
        go_ret2
        exact ⟨_, ret_pair (by omega) _, .inl ⟨rfl, rfl⟩, Below.refl _ _⟩
      · rw [if_neg hm]
        go_enter Tryz.func108, Tryz.ntmps108
        go_wp2_with (first | (go_at_call 61; refine (M _).mono ?_; rintro e w' ⟨rfl, rfl⟩) | (go_at_call 62; refine (I _).mono ?_; rintro e w' ⟨rfl, rfl⟩))
        go_ret2
        exact ⟨_, ret_pair (by omega) _, .inl ⟨rfl, rfl⟩, Below.refl _ _⟩
    · rw [if_neg hl]
      by_cases hh : 520000 < r
      · rw [if_pos hh]
        by_cases hm : 0 < b - 100
        · rw [if_pos hm]
          go_enter Tryz.func108, Tryz.ntmps108
          go_wp2_with (first | (go_at_call 61; refine (M _).mono ?_; rintro e w' ⟨rfl, rfl⟩) | (go_at_call 62; refine (I _).mono ?_; rintro e w' ⟨rfl, rfl⟩))
          go_ret2
          exact ⟨_, ret_pair (by omega) _, .inl ⟨rfl, rfl⟩, Below.refl _ _⟩
        · rw [if_neg hm]
          go_enter Tryz.func108, Tryz.ntmps108
          go_wp2_with (first | (go_at_call 61; refine (M _).mono ?_; rintro e w' ⟨rfl, rfl⟩) | (go_at_call 62; refine (I _).mono ?_; rintro e w' ⟨rfl, rfl⟩))
          go_ret2
          exact ⟨_, ret_pair (by omega) _, .inl ⟨rfl, rfl⟩, Below.refl _ _⟩
      · rw [if_neg hh]
        go_enter Tryz.func108, Tryz.ntmps108
        go_wp2_with (first | (go_at_call 61; refine (M _).mono ?_; rintro e w' ⟨rfl, rfl⟩) | (go_at_call 62; refine (I _).mono ?_; rintro e w' ⟨rfl, rfl⟩))
        go_ret2
        exact ⟨_, ret_pair (by omega) _, .inl ⟨rfl, rfl⟩, Below.refl _ _⟩
  · have e1 : bonusN b r = 0 := if_neg ok
    have e2 : rateC r b = 2 := if_neg ok
    have v1 := hL.v1
    rw [e1, e2]
    clear e1 e2
    by_cases hr : 0 ≤ r ∧ r ≤ 1000000
    · have M := mill_yes r hr.1 hr.2
      have I := isBonus_no b (fun h => ok ⟨hr, h⟩)
      clear ok hr
      go_enter Tryz.func108, Tryz.ntmps108
      go_wp2_with (first | (go_at_call 61; refine (M _).mono ?_; rintro e w' ⟨rfl, rfl⟩) | (go_at_call 62; refine (I _).mono ?_; rintro e w' ⟨rfl, rfl⟩))
      go_quiet (fail)
      go_wp2
      go_ret2
      exact ⟨_, rfl, bounded A, below_drewN (Below.refl _ _) _⟩
    · have M := mill_no r hr
      clear ok hr
      go_enter Tryz.func108, Tryz.ntmps108
      go_wp2_with (go_at_call 61; refine (M _).mono ?_; rintro e w' ⟨rfl, rfl⟩)
      go_quiet (fail)
      go_wp2
      go_ret2
      exact ⟨_, rfl, bounded A, below_drewN (Below.refl _ _) _⟩

/-! rewards -/
set_option maxHeartbeats 1000000 in
theorem is_reward (s r : Int) (A : Nat → Addr) (w : World) (hL : IssLaid w A) :
    Calls Tryz.prog 26 #[.int .i64 s, .int .i64 r] w fun e w' => ∃ ev, e = .returned (.tuple #[.int .i64 (rewardN s r), ev]) ∧ ErrIs A ev (rewardC s r) ∧ Below w.heap.size w w' := by
  have v1 := hL.v1
  by_cases hr : 0 ≤ r ∧ r ≤ 1000000
  · have M := mill_yes r hr.1 hr.2
    by_cases ok : RewardOk s r
    · have e1 : rewardN s r = s * r / 1000000 / 4 := if_pos ok
      have e2 : rewardC s r = 0 := if_pos ok
      obtain ⟨q0, q1⟩ := reward_bd ok
      have D := down_yes s r 1000000 ⟨ok.1.1, ok.1.2, by omega, by omega, by omega, by omega⟩ (by omega) w
      have h1 := ok.1.2
      rw [e1, e2]
      clear ok e1 e2
      generalize s * r / 1000000 = q at *
      go_enter Tryz.func26, Tryz.ntmps26
      go_wp2_with (first | (go_at_call 61; refine (M _).mono ?_; rintro e w' ⟨rfl, rfl⟩) | (go_at_call 60; refine D.mono ?_; rintro e w' ⟨rfl, n, rfl⟩))
      go_ret2
      exact ⟨_, rfl, .inl ⟨rfl, rfl⟩, below_drewN (Below.refl _ _) _⟩
    · have e1 : rewardN s r = 0 := if_neg ok
      have e2 : rewardC s r = 2 := if_neg ok
      have D := down_no s r 1000000 (fun h => ok ⟨⟨h.1.1, h.1.2.1⟩, hr⟩) (A 1) w hL.v1
      rw [e1, e2]
      clear ok e1 e2
      go_enter Tryz.func26, Tryz.ntmps26
      go_wp2_with (first | (go_at_call 61; refine (M _).mono ?_; rintro e w' ⟨rfl, rfl⟩) | (go_at_call 60; refine D.mono ?_; rintro e w' ⟨rfl, n, rfl⟩))
      go_ret2
      exact ⟨_, rfl, bounded A, below_drewN (Below.refl _ _) _⟩
  · have M := mill_no r hr
    have ok : ¬ RewardOk s r := fun h => hr h.2
    have e1 : rewardN s r = 0 := if_neg ok
    have e2 : rewardC s r = 2 := if_neg ok
    rw [e1, e2]
    clear ok e1 e2 hr
    go_enter Tryz.func26, Tryz.ntmps26
    go_wp2_with (go_at_call 61; refine (M _).mono ?_; rintro e w' ⟨rfl, rfl⟩)
    go_quiet (fail)
    go_wp2
    go_ret2
    exact ⟨_, rfl, bounded A, below_drewN (Below.refl _ _) _⟩
end Go.Proofs.YtaihcceobnfmhaaGreatDoor

namespace Go.Proofs.YtaihcceobnfmhaaGreatDoor
open Go.RowKit

/-- so many numbers laid one behind another -/
def Ints (w : World) (b off n : Nat) (W : Nat → Int) : Prop := ∀ i, i < n → w.cell? ⟨b, off + i, none⟩ = some (.int .i64 (W i))
theorem Ints.kept {w w' : World} {b off n : Nat} {W : Nat → Int} {X : List Nat} (h : Ints w b off n W) (hK : Kept X w w') (hb : b ∉ X) : Ints w' b off n W := fun i hi => hK.old (h i hi) hb
theorem Ints.below {w w' : World} {b off n B : Nat} {W : Nat → Int} (h : Ints w b off n W) (hB : Below B w w') (hb : b < B) : Ints w' b off n W := fun i hi => by rw [hB.cell (p := ⟨b, off + i, none⟩) hb]; exact h i hi
end Go.Proofs.YtaihcceobnfmhaaGreatDoor

namespace Go.Proofs.YtaihcceobnfmhaaGreatDoor
open Go.RowKit

/-- what the chain's errors hold -/
structure ChLaid8 (w : World) (A : Nat → Addr) : Prop where
  v1 : w.cell? ⟨0, 0, none⟩ = some (sent (A 1))
  v2 : w.cell? ⟨3, 0, none⟩ = some (sent (A 2))
  v3 : w.cell? ⟨4, 0, none⟩ = some (sent (A 3))
  v4 : w.cell? ⟨5, 0, none⟩ = some (sent (A 4))
  v5 : w.cell? ⟨6, 0, none⟩ = some (sent (A 5))
  v6 : w.cell? ⟨7, 0, none⟩ = some (sent (A 6))
  v7 : w.cell? ⟨8, 0, none⟩ = some (sent (A 7))
  v8 : w.cell? ⟨1, 0, none⟩ = some (sent (A 8))
theorem ChLaid8.below {w w' : World} {A : Nat → Addr} (h : ChLaid8 w A) (hB : Below w.heap.size w w') : ChLaid8 w' A :=
  ⟨stk_old hB h.v1, stk_old hB h.v2, stk_old hB h.v3, stk_old hB h.v4, stk_old hB h.v5, stk_old hB h.v6, stk_old hB h.v7, stk_old hB h.v8⟩
theorem ChLaid8.pur {w : World} {A : Nat → Addr} (h : ChLaid8 w A) : PurLaid w A := ⟨h.v1, h.v5⟩
theorem ChLaid8.stk {w : World} {A : Nat → Addr} (h : ChLaid8 w A) : StkLaid w A := ⟨h.v1, h.v3, h.v4, h.v5, h.v6, h.v7⟩
theorem ChLaid8.iss {w : World} {A : Nat → Addr} (h : ChLaid8 w A) : IssLaid w A := ⟨h.v1, h.v2⟩
/-- with the one that accusing alone asks for -/
structure ChLaid (w : World) (A : Nat → Addr) : Prop where
  e : ChLaid8 w A
  v9 : w.cell? ⟨9, 0, none⟩ = some (sent (A 9))
instance {w : World} {A : Nat → Addr} : CoeOut (ChLaid w A) (ChLaid8 w A) := ⟨ChLaid.e⟩
theorem ChLaid.below {w w' : World} {A : Nat → Addr} (h : ChLaid w A) (hB : Below w.heap.size w w') : ChLaid w' A := ⟨h.e.below hB, stk_old hB h.v9⟩
theorem ChLaid.ct {w : World} {A : Nat → Addr} (h : ChLaid w A) : CtLaid w A := ⟨h.e.v1, h.e.v4, h.v9⟩
/-- a variable of the chain's errors -/
def IsVar (k : Nat) : Prop := k = 0 ∨ k = 3 ∨ k = 4 ∨ k = 5 ∨ k = 6 ∨ k = 7 ∨ k = 8 ∨ k = 1
theorem ChLaid8.vin {w : World} {A : Nat → Addr} (h : ChLaid8 w A) (k : Nat) (hk : IsVar k) : k < w.heap.size := by
  rcases hk with rfl | rfl | rfl | rfl | rfl | rfl | rfl | rfl
  · exact cell_lt h.v1
  · exact cell_lt h.v2
  · exact cell_lt h.v3
  · exact cell_lt h.v4
  · exact cell_lt h.v5
  · exact cell_lt h.v6
  · exact cell_lt h.v7
  · exact cell_lt h.v8
/-- what turns in memory turns no variable -/
theorem ChLaid8.keptP {w w' : World} {A : Nat → Addr} {G : Nat → Prop} (h : ChLaid8 w A) (hK : KeptP G w w') (hG : ∀ k, G k → ¬ IsVar k) : ChLaid8 w' A :=
  ⟨hK.old h.v1 (fun q => hG _ q (.inl rfl)), hK.old h.v2 (fun q => hG _ q (.inr (.inl rfl))), hK.old h.v3 (fun q => hG _ q (.inr (.inr (.inl rfl)))), hK.old h.v4 (fun q => hG _ q (.inr (.inr (.inr (.inl rfl))))), hK.old h.v5 (fun q => hG _ q (.inr (.inr (.inr (.inr (.inl rfl)))))), hK.old h.v6 (fun q => hG _ q (.inr (.inr (.inr (.inr (.inr (.inl rfl))))))), hK.old h.v7 (fun q => hG _ q (.inr (.inr (.inr (.inr (.inr (.inr (.inl rfl)))))))), hK.old h.v8 (fun q => hG _ q (.inr (.inr (.inr (.inr (.inr (.inr (.inr rfl))))))))⟩
/-- bounds that a run keeps: so many cases and pools at most -/
structure Ch.Few (C : Ch) : Prop where
  k : C.s.K.length ≤ 400
  l : C.c.L.length ≤ 400
  y : C.cyc ≤ 400
  v : C.lev ≤ 400

/-- three pictures: x holds them; which blocks -/
structure PicsAt (tag : Nat → Nat) (w : World) (xs : Nat → Value) (L : List (Nat → Int)) : Prop where
  one : ∀ (i : Nat) (W : Nat → Int), i < 3 → L[i]? = some W → ∃ m cap, xs i = .slice (some ⟨m, 0, none⟩) 3 cap ∧ tag m = 6 ∧ Ints w m 0 3 W
theorem PicsAt.keptP {tag : Nat → Nat} {w w' : World} {xs : Nat → Value} {L : List (Nat → Int)} {G : Nat → Prop} (h : PicsAt tag w xs L) (hK : KeptP G w w') (h6 : ∀ k, tag k = 6 → ¬ G k) : PicsAt tag w' xs L :=
  ⟨fun i W hi hW => by
    obtain ⟨m, cap, e, t, I⟩ := h.one i W hi hW
    exact ⟨m, cap, e, t, fun j hj => hK.old (I j hj) (h6 m t)⟩⟩
theorem PicsAt.retag {tag tag' : Nat → Nat} {w : World} {xs : Nat → Value} {L : List (Nat → Int)} (h : PicsAt tag w xs L) (h6 : ∀ k, tag k = 6 → tag' k = 6) : PicsAt tag' w xs L :=
  ⟨fun i W hi hW => by
    obtain ⟨m, cap, e, t, I⟩ := h.one i W hi hW
    exact ⟨m, cap, e, h6 m t, I⟩⟩

/-- tags: 1 the chain's own, 2 its purse, 3 its stakes, 4 its court, 6 pictures; 0 another's -/
structure PChAt (tag : Nat → Nat) (w : World) (cb pb sb kb : Nat) (xs : Nat → Value) (C : Ch) (g : Nat) : Prop where
  c0 : w.cell? ⟨cb, 0, none⟩ = some (.pointer (some ⟨pb, 0, none⟩))
  c1 : w.cell? ⟨cb, 1, none⟩ = some (.pointer (some ⟨sb, 0, none⟩))
  c2 : w.cell? ⟨cb, 2, none⟩ = some (.pointer (some ⟨kb, 0, none⟩))
  c3 : w.cell? ⟨cb, 3, none⟩ = some (.int .u64 C.seed)
  c4 : w.cell? ⟨cb, 4, none⟩ = some (.int .i64 C.cyc)
  c5 : w.cell? ⟨cb, 5, none⟩ = some (.int .i64 C.lev)
  c6 : w.cell? ⟨cb, 6, none⟩ = some (.int .i64 C.bon)
  c7 : w.cell? ⟨cb, 7, none⟩ = some (xs 0)
  c8 : w.cell? ⟨cb, 8, none⟩ = some (xs 1)
  c9 : w.cell? ⟨cb, 9, none⟩ = some (xs 2)
  f : ∀ i, w.frozen? ⟨cb, i, none⟩ = false
  p : PurAt w pb C.p
  s : PSk (fun k => tag k = 3) w sb C.s g
  c : PCt (fun k => tag k = 4) w kb C.c g
  pics : PicsAt tag w xs (C.pics.drop C.cyc)
  tc : tag cb = 1
  tp : tag pb = 2
  lt : ∀ k, tag k ≠ 0 → k < w.heap.size
  vin : ∀ k, IsVar k → k < w.heap.size
  vs : ∀ k, tag k ≠ 0 → ¬ IsVar k
/-- the program's chain: what blocks are its own; g: how often its maps were written at most -/
def PCb (sb : Nat) (F : Nat → Prop) (w : World) (cb : Nat) (C : Ch) (g : Nat) : Prop := ∃ tag pb kb xs, (∀ k, F k ↔ tag k ≠ 0) ∧ PChAt tag w cb pb sb kb xs C g
section
variable {tag : Nat → Nat} {w w' : World} {cb pb sb kb g : Nat} {xs : Nat → Value} {C : Ch}
/-- what another's doing leaves -/
theorem PChAt.keptP {G : Nat → Prop} (h : PChAt tag w cb pb sb kb xs C g) (hK : KeptP G w w') (hG : ∀ k, G k → tag k = 0) : PChAt tag w' cb pb sb kb xs C g := by
  have no : ∀ {k}, tag k ≠ 0 → ¬ G k := fun hk g => hk (hG _ g)
  have nc : ¬ G cb := no (by rw [h.tc]; decide)
  have lcb : cb < w.heap.size := cell_lt h.c0
  have np : ¬ G pb := no (by rw [h.tp]; decide)
  exact { c0 := hK.old h.c0 nc, c1 := hK.old h.c1 nc, c2 := hK.old h.c2 nc, c3 := hK.old h.c3 nc, c4 := hK.old h.c4 nc, c5 := hK.old h.c5 nc, c6 := hK.old h.c6 nc, c7 := hK.old h.c7 nc, c8 := hK.old h.c8 nc, c9 := hK.old h.c9 nc
          f := fun i => by rw [hK.frozen (p := ⟨cb, i, none⟩) lcb nc]; exact h.f i
          p := ⟨⟨fun i hi => hK.old (h.p.raw.s i hi) np, hK.old h.p.raw.c6 np, fun i => by rw [hK.frozen (p := ⟨pb, i, none⟩) h.p.lt np]; exact h.p.raw.f i⟩, h.p.ok⟩
          s := h.s.keptP hK fun k q e => by rw [hG k q] at e; cases e
          c := h.c.keptP hK fun k q e => by rw [hG k q] at e; cases e
          pics := h.pics.keptP hK (fun k e q => by rw [hG k q] at e; cases e)
          tc := h.tc, tp := h.tp
          lt := fun k hk => Nat.lt_of_lt_of_le (h.lt k hk) hK.size
          vin := fun k hk => Nat.lt_of_lt_of_le (h.vin k hk) hK.size, vs := h.vs }
theorem PChAt.below (h : PChAt tag w cb pb sb kb xs C g) (hB : Below w.heap.size w w') : PChAt tag w' cb pb sb kb xs C g := h.keptP (KeptP.of_below (F := fun _ => False) hB) fun _ q => q.elim
theorem PChAt.more {g' : Nat} (h : PChAt tag w cb pb sb kb xs C g) (hg : g ≤ g') : PChAt tag w cb pb sb kb xs C g' :=
  { c0 := h.c0, c1 := h.c1, c2 := h.c2, c3 := h.c3, c4 := h.c4, c5 := h.c5, c6 := h.c6, c7 := h.c7, c8 := h.c8, c9 := h.c9, f := h.f, p := h.p, s := h.s.more hg, c := h.c.more hg, pics := h.pics, tc := h.tc, tp := h.tp, lt := h.lt, vin := h.vin, vs := h.vs }
theorem PCb.keptP {F G : Nat → Prop} (h : PCb sb F w cb C g) (hK : KeptP G w w') (hF : ∀ k, G k → ¬ F k) : PCb sb F w' cb C g := by
  obtain ⟨tag, pb, kb, xs, hf, h⟩ := h
  exact ⟨tag, pb, kb, xs, hf, h.keptP hK fun k q => by
    rcases Nat.eq_zero_or_pos (tag k) with e | e
    · exact e
    · exact absurd ((hf k).2 (by omega)) (hF k q)⟩
theorem PCb.lt {F : Nat → Prop} (h : PCb sb F w cb C g) (k : Nat) (hk : F k) : k < w.heap.size := by
  obtain ⟨tag, pb, kb, xs, hf, h⟩ := h
  exact h.lt k ((hf k).1 hk)
/-- the purse was at work -/
theorem PChAt.purse {x : Pu} (h : PChAt tag w cb pb sb kb xs C g) (hp : PurAt w' pb x) (hK : Kept [pb] w w') : PChAt tag w' cb pb sb kb xs { C with p := x } g := by
  have hK' : KeptP (fun k => tag k = 2) w w' := KeptP.of_kept hK fun k hk => by rw [List.mem_singleton.1 hk]; exact h.tp
  have nc : ¬ tag cb = 2 := by rw [h.tc]; decide
  have lcb : cb < w.heap.size := cell_lt h.c0
  exact { c0 := hK'.old h.c0 nc, c1 := hK'.old h.c1 nc, c2 := hK'.old h.c2 nc, c3 := hK'.old h.c3 nc, c4 := hK'.old h.c4 nc, c5 := hK'.old h.c5 nc, c6 := hK'.old h.c6 nc, c7 := hK'.old h.c7 nc, c8 := hK'.old h.c8 nc, c9 := hK'.old h.c9 nc
          f := fun i => by rw [hK'.frozen (p := ⟨cb, i, none⟩) lcb nc]; exact h.f i
          p := hp
          s := h.s.keptP hK' fun k q e => by rw [q] at e; cases e
          c := h.c.keptP hK' fun k q e => by rw [q] at e; cases e
          pics := h.pics.keptP hK' (fun k e q => by rw [q] at e; cases e)
          tc := h.tc, tp := h.tp
          lt := fun k hk => Nat.lt_of_lt_of_le (h.lt k hk) hK'.size
          vin := fun k hk => Nat.lt_of_lt_of_le (h.vin k hk) hK'.size, vs := h.vs }
theorem PChAt.purseMoved {F : Nat → Prop} (h : PChAt tag w cb pb sb kb xs C g) (hf : ∀ k, F k ↔ tag k ≠ 0) (hK : Kept [pb] w w') : Moved F F w w' :=
  ⟨KeptP.of_kept hK fun k hk => by rw [List.mem_singleton.1 hk]; exact (hf pb).2 (by rw [h.tp]; decide), fun _ _ q => q⟩
/-- a part of it has become G: the tags anew -/
theorem PChAt.part {t : Nat} {G : Nat → Prop} (h : PChAt tag w cb pb sb kb xs C g) (hM : Moved (fun k => tag k = t) G w w') (hGl : ∀ k, G k → k < w'.heap.size) (k : Nat) (hk : retag tag t G k ≠ 0) : k < w'.heap.size := by
  by_cases q : G k
  · exact hGl k q
  · unfold retag at hk
    rw [if_neg q] at hk
    split at hk
    · exact absurd rfl hk
    · exact Nat.lt_of_lt_of_le (h.lt k hk) hM.kept.size
theorem PChAt.novar {t : Nat} {G : Nat → Prop} (h : PChAt tag w cb pb sb kb xs C g) (hM : Moved (fun k => tag k = t) G w w') (t0 : t ≠ 0) (k : Nat) (hk : retag tag t G k ≠ 0) : ¬ IsVar k := by
  by_cases q : G k
  · rcases Nat.lt_or_ge k w.heap.size with l | l
    · exact h.vs k (by rw [hM.old k l q]; exact t0)
    · exact fun z => by have := h.vin k z; omega
  · unfold retag at hk
    rw [if_neg q] at hk
    split at hk
    · exact absurd rfl hk
    · exact h.vs k hk
/-- the stakes were at work -/
theorem PChAt.stakes {x : Sk} {G : Nat → Prop} {g' : Nat} (h : PChAt tag w cb pb sb kb xs C g) (hs : PSk G w' sb x g') (hM : Moved (fun k => tag k = 3) G w w') (hg : g ≤ g') : PChAt (retag tag 3 G) w' cb pb sb kb xs { C with s := x } g' := by
  have hK := hM.kept
  have nc : ¬ tag cb = 3 := by rw [h.tc]; decide
  have np : ¬ tag pb = 3 := by rw [h.tp]; decide
  have lcb : cb < w.heap.size := cell_lt h.c0
  have o : ∀ {u k}, u ≠ 3 → u ≠ 0 → tag k = u → retag tag 3 G k = u := fun ut u0 e => retag_other hM h.lt ut u0 e
  exact { c0 := hK.old h.c0 nc, c1 := hK.old h.c1 nc, c2 := hK.old h.c2 nc, c3 := hK.old h.c3 nc, c4 := hK.old h.c4 nc, c5 := hK.old h.c5 nc, c6 := hK.old h.c6 nc, c7 := hK.old h.c7 nc, c8 := hK.old h.c8 nc, c9 := hK.old h.c9 nc
          f := fun i => by rw [hK.frozen (p := ⟨cb, i, none⟩) lcb nc]; exact h.f i
          p := ⟨⟨fun i hi => hK.old (h.p.raw.s i hi) np, hK.old h.p.raw.c6 np, fun i => by rw [hK.frozen (p := ⟨pb, i, none⟩) h.p.lt np]; exact h.p.raw.f i⟩, h.p.ok⟩
          s := by rw [show (fun k => retag tag 3 G k = 3) = G from funext fun k => propext (retag_iff (by decide) k)]; exact hs
          c := by rw [retag_iff' hM h.lt (by decide) (by decide)]; exact (h.c.keptP hK fun k q e => by rw [q] at e; cases e).more hg
          pics := (h.pics.keptP hK (fun k e q => by rw [q] at e; cases e)).retag (fun k e => o (by decide) (by decide) e)
          tc := o (by decide) (by decide) h.tc, tp := o (by decide) (by decide) h.tp
          lt := h.part hM hs.lt
          vin := fun k hk => Nat.lt_of_lt_of_le (h.vin k hk) hK.size, vs := h.novar hM (by decide) }
/-- the court was at work -/
theorem PChAt.court {x : Ct} {G : Nat → Prop} {g' : Nat} (h : PChAt tag w cb pb sb kb xs C g) (hs : PCt G w' kb x g') (hM : Moved (fun k => tag k = 4) G w w') (hg : g ≤ g') : PChAt (retag tag 4 G) w' cb pb sb kb xs { C with c := x } g' := by
  have hK := hM.kept
  have nc : ¬ tag cb = 4 := by rw [h.tc]; decide
  have np : ¬ tag pb = 4 := by rw [h.tp]; decide
  have lcb : cb < w.heap.size := cell_lt h.c0
  have o : ∀ {u k}, u ≠ 4 → u ≠ 0 → tag k = u → retag tag 4 G k = u := fun ut u0 e => retag_other hM h.lt ut u0 e
  exact { c0 := hK.old h.c0 nc, c1 := hK.old h.c1 nc, c2 := hK.old h.c2 nc, c3 := hK.old h.c3 nc, c4 := hK.old h.c4 nc, c5 := hK.old h.c5 nc, c6 := hK.old h.c6 nc, c7 := hK.old h.c7 nc, c8 := hK.old h.c8 nc, c9 := hK.old h.c9 nc
          f := fun i => by rw [hK.frozen (p := ⟨cb, i, none⟩) lcb nc]; exact h.f i
          p := ⟨⟨fun i hi => hK.old (h.p.raw.s i hi) np, hK.old h.p.raw.c6 np, fun i => by rw [hK.frozen (p := ⟨pb, i, none⟩) h.p.lt np]; exact h.p.raw.f i⟩, h.p.ok⟩
          c := by rw [show (fun k => retag tag 4 G k = 4) = G from funext fun k => propext (retag_iff (by decide) k)]; exact hs
          s := by rw [retag_iff' hM h.lt (by decide) (by decide)]; exact (h.s.keptP hK fun k q e => by rw [q] at e; cases e).more hg
          pics := (h.pics.keptP hK (fun k e q => by rw [q] at e; cases e)).retag (fun k e => o (by decide) (by decide) e)
          tc := o (by decide) (by decide) h.tc, tp := o (by decide) (by decide) h.tp
          lt := h.part hM hs.lt
          vin := fun k hk => Nat.lt_of_lt_of_le (h.vin k hk) hK.size, vs := h.novar hM (by decide) }
end
end Go.Proofs.YtaihcceobnfmhaaGreatDoor

namespace Go.Proofs.YtaihcceobnfmhaaGreatDoor
open Go.RowKit

/-- what is the books' own -/
def bksOwn (pb : Nat) (G : Nat → Prop) (k : Nat) : Prop := k = pb ∨ G k
/-- books: of a chain only its purse and its stakes are looked at -/
structure BksAt (G : Nat → Prop) (w : World) (pb sb : Nat) (C : Ch) (g : Nat) : Prop where
  p : PurAt w pb C.p
  s : PSk G w sb C.s g
  np : ¬ G pb
  vin : ∀ k, IsVar k → k < w.heap.size
  vs : ∀ k, bksOwn pb G k → ¬ IsVar k
section
variable {G G' : Nat → Prop} {w w' : World} {pb sb g g' : Nat} {C : Ch}
theorem BksAt.lt (h : BksAt G w pb sb C g) (k : Nat) (hk : bksOwn pb G k) : k < w.heap.size := by
  rcases hk with rfl | hk
  · exact h.p.lt
  · exact h.s.lt k hk
theorem BksAt.keptP {H : Nat → Prop} (h : BksAt G w pb sb C g) (hK : KeptP H w w') (hH : ∀ k, H k → ¬ bksOwn pb G k) : BksAt G w' pb sb C g := by
  have np : ¬ H pb := fun q => hH pb q (.inl rfl)
  exact { p := ⟨⟨fun i hi => hK.old (h.p.raw.s i hi) np, hK.old h.p.raw.c6 np, fun i => by rw [hK.frozen (p := ⟨pb, i, none⟩) h.p.lt np]; exact h.p.raw.f i⟩, h.p.ok⟩
          s := h.s.keptP hK fun k q e => hH k q (.inr e)
          np := h.np
          vin := fun k hk => Nat.lt_of_lt_of_le (h.vin k hk) hK.size, vs := h.vs }
theorem BksAt.below (h : BksAt G w pb sb C g) (hB : Below w.heap.size w w') : BksAt G w' pb sb C g := h.keptP (KeptP.of_below (F := fun _ => False) hB) fun _ q => q.elim
theorem BksAt.drewN (h : BksAt G w pb sb C g) (n : Nat) : BksAt G (w.drewN n) pb sb C g := h.keptP ((KeptP.refl (fun _ => False) w).drewN n) fun _ q => q.elim
theorem BksAt.more (h : BksAt G w pb sb C g) (hg : g ≤ g') : BksAt G w pb sb C g' := ⟨h.p, h.s.more hg, h.np, h.vin, h.vs⟩
/-- the purse was at work -/
theorem BksAt.purse {x : Pu} (h : BksAt G w pb sb C g) (hp : PurAt w' pb x) (hK : Kept [pb] w w') : BksAt G w' pb sb { C with p := x } g := by
  have hK' : KeptP (fun k => k = pb) w w' := KeptP.of_kept hK fun k hk => List.mem_singleton.1 hk
  exact { p := hp, s := h.s.keptP hK' fun k q e => by rw [q] at e; exact h.np e, np := h.np
          vin := fun k hk => Nat.lt_of_lt_of_le (h.vin k hk) hK'.size, vs := h.vs }
theorem BksAt.purseMoved (_ : BksAt G w pb sb C g) (hK : Kept [pb] w w') : Moved (bksOwn pb G) (bksOwn pb G) w w' :=
  ⟨KeptP.of_kept hK fun _ hk => .inl (List.mem_singleton.1 hk), fun _ _ q => q⟩
/-- the stakes were at work -/
theorem BksAt.stakes {x : Sk} (h : BksAt G w pb sb C g) (hs : PSk G' w' sb x g') (hM : Moved G G' w w') : BksAt G' w' pb sb { C with s := x } g' := by
  have np : ¬ G' pb := fun q => h.np (hM.old pb h.p.lt q)
  exact { p := ⟨⟨fun i hi => hM.kept.old (h.p.raw.s i hi) h.np, hM.kept.old h.p.raw.c6 h.np, fun i => by rw [hM.kept.frozen (p := ⟨pb, i, none⟩) h.p.lt h.np]; exact h.p.raw.f i⟩, h.p.ok⟩
          s := hs, np := np
          vin := fun k hk => Nat.lt_of_lt_of_le (h.vin k hk) hM.kept.size
          vs := fun k hk z => by
            have l := h.vin k z
            rcases hk with rfl | hk
            · exact h.vs _ (.inl rfl) z
            · exact h.vs k (.inr (hM.old k l hk)) z }
theorem BksAt.stakesMoved (_ : BksAt G w pb sb C g) (hM : Moved G G' w w') : Moved (bksOwn pb G) (bksOwn pb G') w w' :=
  ⟨hM.kept.mono fun _ _ q => .inr q, fun k hk q => q.elim .inl fun q => .inr (hM.old k hk q)⟩
/-- what their doing leaves of the errors -/
theorem BksAt.laid {A : Nat → Addr} (h : BksAt G w pb sb C g) (hL : ChLaid8 w A) (hK : KeptP (bksOwn pb G) w w') : ChLaid8 w' A := hL.keptP hK fun k q => h.vs k q
end
section
variable {tag : Nat → Nat} {w w' : World} {cb pb sb kb g g' : Nat} {xs : Nat → Value} {C C' : Ch} {F G : Nat → Prop}
/-- a chain's books -/
theorem PChAt.bks (h : PChAt tag w cb pb sb kb xs C g) : BksAt (fun k => tag k = 3) w pb sb C g :=
  { p := h.p, s := h.s, np := by rw [h.tp]; decide, vin := h.vin
    vs := fun k hk => h.vs k (by
      rcases hk with rfl | hk
      · rw [h.tp]; decide
      · rw [hk]; decide) }
theorem PChAt.own (h : PChAt tag w cb pb sb kb xs C g) (k : Nat) (hk : bksOwn pb (fun k => tag k = 3) k) : tag k = 2 ∨ tag k = 3 := hk.elim (fun e => .inl (by rw [e]; exact h.tp)) .inr
/-- a chain's books were at work -/
theorem PChAt.books (h : PChAt tag w cb pb sb kb xs C g) (hb : BksAt G w' pb sb C' g') (hM : Moved (bksOwn pb fun k => tag k = 3) (bksOwn pb G) w w') (hg : g ≤ g') (hC : { C with p := C'.p, s := C'.s } = C') : PChAt (retag tag 3 G) w' cb pb sb kb xs C' g' := by
  have lp : pb < w.heap.size := h.p.lt
  have old : ∀ k, k < w.heap.size → G k → tag k = 3 := fun k l q => (hM.old k l (.inr q)).elim (fun e => absurd (e ▸ q) hb.np) id
  have M0 : Moved (fun k => tag k = 3) G w w := ⟨KeptP.refl _ _, old⟩
  have hK : KeptP (fun k => tag k = 2 ∨ tag k = 3) w w' := hM.kept.mono fun k _ q => h.own k q
  have nc : ¬ (tag cb = 2 ∨ tag cb = 3) := by rw [h.tc]; decide
  have lcb : cb < w.heap.size := cell_lt h.c0
  have o : ∀ {u k}, u ≠ 3 → u ≠ 0 → tag k = u → retag tag 3 G k = u := fun ut u0 e => retag_other M0 h.lt ut u0 e
  rw [← hC]
  exact { c0 := hK.old h.c0 nc, c1 := hK.old h.c1 nc, c2 := hK.old h.c2 nc, c3 := hK.old h.c3 nc, c4 := hK.old h.c4 nc, c5 := hK.old h.c5 nc, c6 := hK.old h.c6 nc, c7 := hK.old h.c7 nc, c8 := hK.old h.c8 nc, c9 := hK.old h.c9 nc
          f := fun i => by rw [hK.frozen (p := ⟨cb, i, none⟩) lcb nc]; exact h.f i
          p := hb.p
          s := by rw [show (fun k => retag tag 3 G k = 3) = G from funext fun k => propext (retag_iff (by decide) k)]; exact hb.s
          c := by rw [retag_iff' M0 h.lt (by decide) (by decide)]; exact (h.c.keptP hK fun k q e => by rcases q with q | q <;> (rw [q] at e; cases e)).more hg
          pics := (h.pics.keptP hK (fun k e q => by rcases q with q | q <;> (rw [q] at e; cases e))).retag (fun k e => o (by decide) (by decide) e)
          tc := o (by decide) (by decide) h.tc, tp := o (by decide) (by decide) h.tp
          lt := fun k hk => by
            by_cases q : G k
            · exact hb.s.lt k q
            · unfold retag at hk
              rw [if_neg q] at hk
              split at hk
              · exact absurd rfl hk
              · exact Nat.lt_of_lt_of_le (h.lt k hk) hK.size
          vin := fun k hk => Nat.lt_of_lt_of_le (h.vin k hk) hK.size, vs := h.novar M0 (by decide) }
theorem PChAt.booksMoved (h : PChAt tag w cb pb sb kb xs C g) (hf : ∀ k, F k ↔ tag k ≠ 0) (hb : BksAt G w' pb sb C' g') (hM : Moved (bksOwn pb fun k => tag k = 3) (bksOwn pb G) w w') : Moved F (fun k => retag tag 3 G k ≠ 0) w w' := by
  have old : ∀ k, k < w.heap.size → G k → tag k = 3 := fun k l q => (hM.old k l (.inr q)).elim (fun e => absurd (e ▸ q) hb.np) id
  have M0 : Moved (fun k => tag k = 3) G w w := ⟨KeptP.refl _ _, old⟩
  exact ⟨hM.kept.mono fun k _ q => (hf k).2 (by rcases h.own k q with e | e <;> (rw [e]; decide)), (retag_moved hf M0 (by decide)).old⟩
/-- the same, whole -/
theorem PChAt.bk (h : PChAt tag w cb pb sb kb xs C g) (hf : ∀ k, F k ↔ tag k ≠ 0) (hb : BksAt G w' pb sb C' g') (hM : Moved (bksOwn pb fun k => tag k = 3) (bksOwn pb G) w w') (hg : g ≤ g') (hC : { C with p := C'.p, s := C'.s } = C') :
    ∃ F', PCb sb F' w' cb C' g' ∧ Moved F F' w w' :=
  ⟨_, ⟨_, _, _, _, fun _ => Iff.rfl, h.books hb hM hg hC⟩, h.booksMoved hf hb hM⟩
end
end Go.Proofs.YtaihcceobnfmhaaGreatDoor

namespace Go.Proofs.YtaihcceobnfmhaaGreatDoor
open Go.RowKit

theorem pcb_cycle {sb : Nat} (F : Nat → Prop) (cb : Nat) (C : Ch) (g : Nat) (w : World) (h : PCb sb F w cb C g) :
    Calls Tryz.prog 19 #[.pointer (some ⟨cb, 0, none⟩)] w fun e w' => e = .returned (.int .i64 C.cyc) ∧ Below w.heap.size w w' := by
  obtain ⟨tag, pb, kb, xs, hf, h⟩ := h
  have c4 := h.c4
  clear h
  go_enter Tryz.func19, Tryz.ntmps19
  go_wp2
  go_ret
  exact ⟨rfl, Below.refl _ _⟩
theorem pcb_level {sb : Nat} (F : Nat → Prop) (cb : Nat) (C : Ch) (g : Nat) (w : World) (h : PCb sb F w cb C g) :
    Calls Tryz.prog 15 #[.pointer (some ⟨cb, 0, none⟩)] w fun e w' => e = .returned (.int .i64 C.lev) ∧ Below w.heap.size w w' := by
  obtain ⟨tag, pb, kb, xs, hf, h⟩ := h
  have c5 := h.c5
  clear h
  go_enter Tryz.func15, Tryz.ntmps15
  go_wp2
  go_ret
  exact ⟨rfl, Below.refl _ _⟩
theorem pcb_bonus {sb : Nat} (F : Nat → Prop) (cb : Nat) (C : Ch) (g : Nat) (w : World) (h : PCb sb F w cb C g) :
    Calls Tryz.prog 25 #[.pointer (some ⟨cb, 0, none⟩)] w fun e w' => e = .returned (.int .i64 C.bon) ∧ Below w.heap.size w w' := by
  obtain ⟨tag, pb, kb, xs, hf, h⟩ := h
  have c6 := h.c6
  clear h
  go_enter Tryz.func25, Tryz.ntmps25
  go_wp2
  go_ret
  exact ⟨rfl, Below.refl _ _⟩
theorem pcb_supply {sb : Nat} (F : Nat → Prop) (cb : Nat) (C : Ch) (g : Nat) (w : World) (h : PCb sb F w cb C g) :
    Calls Tryz.prog 18 #[.pointer (some ⟨cb, 0, none⟩)] w fun e w' => e = .returned (.int .i64 C.p.S) ∧ Below w.heap.size w w' := by
  obtain ⟨tag, pb, kb, xs, hf, h⟩ := h
  have c0 := h.c0
  have S := pu_supply pb C.p w h.p
  clear h
  go_enter Tryz.func18, Tryz.ntmps18
  go_wp2_with fail
  refine S.mono ?_
  rintro e w1 ⟨rfl, hw⟩
  obtain rfl := hw.symm
  go_wp2_with fail
  go_ret
  exact ⟨rfl, Below.refl _ _⟩
theorem pcb_has {sb : Nat} (F : Nat → Prop) (cb : Nat) (C : Ch) (hC : C.Ok) (g : Nat) (o : Int) (w : World) (h : PCb sb F w cb C g) :
    Calls Tryz.prog 22 #[.pointer (some ⟨cb, 0, none⟩), .int .i64 o] w fun e w' => e = .returned (.int .i64 (C.p.s o)) ∧ Below w.heap.size w w' := by
  obtain ⟨tag, pb, kb, xs, hf, h⟩ := h
  have c0 := h.c0
  have S := pu_has pb C.p hC.p o w h.p
  clear h
  go_enter Tryz.func22, Tryz.ntmps22
  go_wp2_with fail
  refine S.mono ?_
  rintro e w1 ⟨rfl, hw⟩
  obtain rfl := hw.symm
  go_wp2_with fail
  go_ret
  exact ⟨rfl, Below.refl _ _⟩
theorem PCb.stk {sb : Nat} {F : Nat → Prop} {cb : Nat} {C : Ch} {g : Nat} {w : World} (h : PCb sb F w cb C g) : ∃ Fs, PSk Fs w sb C.s g ∧ ∀ k, Fs k → F k := by
  obtain ⟨tag, pb, kb, xs, hf, h⟩ := h
  exact ⟨_, h.s, fun k e => (hf k).2 (by rw [e]; decide)⟩
/-- its stakes: a part of it -/
theorem pcb_stakes {sb : Nat} (F : Nat → Prop) (cb : Nat) (C : Ch) (g : Nat) (w : World) (h : PCb sb F w cb C g) :
    Calls Tryz.prog 16 #[.pointer (some ⟨cb, 0, none⟩)] w fun e w' => ∃ Fs, e = .returned (.pointer (some ⟨sb, 0, none⟩)) ∧ PSk Fs w' sb C.s g ∧ (∀ k, Fs k → F k) ∧ Below w.heap.size w w' := by
  obtain ⟨tag, pb, kb, xs, hf, h⟩ := h
  have c1 := h.c1
  have s := hide h.s
  clear h
  go_enter Tryz.func16, Tryz.ntmps16
  go_wp2
  go_ret
  exact ⟨_, rfl, s.out, fun k e => (hf k).2 (by rw [e]; decide), Below.refl _ _⟩
end Go.Proofs.YtaihcceobnfmhaaGreatDoor
