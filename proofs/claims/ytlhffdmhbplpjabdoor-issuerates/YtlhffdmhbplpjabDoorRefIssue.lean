/-
  What is issued, by the document (bakehouseref2), by its contracts.
-/
import Derived.Test.YtlhffdmhbplpjabDoorIssueMath
import Derived.Test.YtlhffdmhbplpjabDoorKept
import Derived.Test.YtlhffdmhbplpjabDoorRefActs
namespace Go.Proofs.YtlhffdmhbplpjabDoor
open Go.RowKit

theorem ref_ratio (s t : Int) (w : World) :
    Calls Tryd.prog 53 #[.int .i64 s, .int .i64 t] w fun e w' => e = .returned (.tuple #[.int .i64 (ratioN s t), .int .i64 (ratioC s t)]) ∧ Below w.heap.size w w' := by
  have I := isAmount_ref s
  have J := isAmount_ref t
  by_cases h : RatioOk s t
  · have e1 : Hid (ratioC s t = 0) := if_pos h
    have e2 : Hid (ratioN s t = s * 1000000 / t) := if_pos h
    have b := ratio_bd h
    obtain ⟨⟨s0, s1⟩, t0, t1, st⟩ := h
    have P := product_yes s 1000000 t ⟨s0, s1, by omega, by omega, by omega, t1⟩ (by omega)
    rw [decide_eq_true (p := 0 ≤ s ∧ s ≤ 1125899906842624) ⟨s0, s1⟩] at I
    rw [decide_eq_true (p := 0 ≤ t ∧ t ≤ 1125899906842624) ⟨by omega, t1⟩] at J
    have z : (t == 0) = false := by simp; omega
    clear b
    go_enter Tryd.func53, Tryd.ntmps53
    go_wp2_with fail
    refine (I _).mono ?_
    rintro e w1 ⟨rfl, rfl⟩
    go_wp2_with fail
    refine (J _).mono ?_
    rintro e w2 ⟨rfl, rfl⟩
    go_wp2_with (go_at_call 104; refine (P _).mono ?_; rintro e w3 ⟨rfl, rfl⟩)
    go_ret2
    exact ⟨ret_int2 e2.out.symm e1.out.symm, Below.refl _ _⟩
  · have e1 : Hid (ratioC s t = 2) := if_neg h
    have e2 : Hid (ratioN s t = 0) := if_neg h
    by_cases hs : 0 ≤ s ∧ s ≤ 1125899906842624
    · rw [decide_eq_true hs] at I
      by_cases ht : 0 ≤ t ∧ t ≤ 1125899906842624
      · rw [decide_eq_true ht] at J
        by_cases hz : t = 0
        · have z : (t == 0) = true := by simp [hz]
          clear h hz hs ht
          go_enter Tryd.func53, Tryd.ntmps53
          go_wp2_with fail
          refine (I _).mono ?_
          rintro e w1 ⟨rfl, rfl⟩
          go_wp2_with fail
          refine (J _).mono ?_
          rintro e w2 ⟨rfl, rfl⟩
          go_wp2_with fail
          go_ret2
          exact ⟨ret_int2 e2.out.symm e1.out.symm, Below.refl _ _⟩
        · have z : (t == 0) = false := by simp [hz]
          have st : ¬ s ≤ t := fun g => h ⟨hs, by omega, ht.2, g⟩
          clear h hz hs ht
          go_enter Tryd.func53, Tryd.ntmps53
          go_wp2_with fail
          refine (I _).mono ?_
          rintro e w1 ⟨rfl, rfl⟩
          go_wp2_with fail
          refine (J _).mono ?_
          rintro e w2 ⟨rfl, rfl⟩
          go_wp2_with fail
          go_ret2
          exact ⟨ret_int2 e2.out.symm e1.out.symm, Below.refl _ _⟩
      · rw [decide_eq_false ht] at J
        clear h hs ht
        go_enter Tryd.func53, Tryd.ntmps53
        go_wp2_with fail
        refine (I _).mono ?_
        rintro e w1 ⟨rfl, rfl⟩
        go_wp2_with fail
        refine (J _).mono ?_
        rintro e w2 ⟨rfl, rfl⟩
        go_wp2_with fail
        go_ret2
        exact ⟨ret_int2 e2.out.symm e1.out.symm, Below.refl _ _⟩
    · rw [decide_eq_false hs] at I
      clear h hs J
      go_enter Tryd.func53, Tryd.ntmps53
      go_wp2_with fail
      refine (I _).mono ?_
      rintro e w1 ⟨rfl, rfl⟩
      go_wp2_with fail
      go_ret2
      exact ⟨ret_int2 e2.out.symm e1.out.symm, Below.refl _ _⟩

theorem ref_reward (s r : Int) (w : World) :
    Calls Tryd.prog 60 #[.int .i64 s, .int .i64 r] w fun e w' => e = .returned (.tuple #[.int .i64 (rewardN s r), .int .i64 (rewardC s r)]) ∧ Below w.heap.size w w' := by
  have I := isAmount_ref s
  by_cases h : RewardOk s r
  · have e1 : Hid (rewardC s r = 0) := if_pos h
    have e2 : Hid (rewardN s r = s * r / 1000000 / 4) := if_pos h
    obtain ⟨b0, b1⟩ := reward_bd h
    obtain ⟨⟨s0, s1⟩, r0, r1⟩ := h
    have P := product_yes s r 1000000 ⟨s0, s1, by omega, by omega, by omega, by omega⟩ (by omega)
    rw [decide_eq_true (p := 0 ≤ s ∧ s ≤ 1125899906842624) ⟨s0, s1⟩] at I
    generalize s * r / 1000000 = q at *
    go_enter Tryd.func60, Tryd.ntmps60
    go_wp2_with (first | (go_at_call 23; refine (I _).mono ?_; rintro e w1 ⟨rfl, rfl⟩) | (go_at_call 104; refine (P _).mono ?_; rintro e w3 ⟨rfl, rfl⟩))
    go_ret2
    exact ⟨ret_int2 e2.out.symm e1.out.symm, Below.refl _ _⟩
  · have e1 : Hid (rewardC s r = 2) := if_neg h
    have e2 : Hid (rewardN s r = 0) := if_neg h
    by_cases hs : 0 ≤ s ∧ s ≤ 1125899906842624
    · rw [decide_eq_true hs] at I
      by_cases r0 : 0 ≤ r
      · have r1 : ¬ r ≤ 1000000 := fun g => h ⟨hs, r0, g⟩
        clear h hs
        go_enter Tryd.func60, Tryd.ntmps60
        go_wp2_with (go_at_call 23; refine (I _).mono ?_; rintro e w1 ⟨rfl, rfl⟩)
        go_ret2
        exact ⟨ret_int2 e2.out.symm e1.out.symm, Below.refl _ _⟩
      · clear h hs
        go_enter Tryd.func60, Tryd.ntmps60
        go_wp2_with (go_at_call 23; refine (I _).mono ?_; rintro e w1 ⟨rfl, rfl⟩)
        go_ret2
        exact ⟨ret_int2 e2.out.symm e1.out.symm, Below.refl _ _⟩
    · rw [decide_eq_false hs] at I
      clear h hs
      go_enter Tryd.func60, Tryd.ntmps60
      go_wp2_with (go_at_call 23; refine (I _).mono ?_; rintro e w1 ⟨rfl, rfl⟩)
      go_ret2
      exact ⟨ret_int2 e2.out.symm e1.out.symm, Below.refl _ _⟩

theorem ref_rateErr (r b : Int) (w : World) :
    Calls Tryd.prog 56 #[.int .i64 r, .int .i64 b] w fun e w' => e = .returned (.int .i64 (rateC r b)) ∧ w' = w := by
  by_cases h : RateOk r b
  · have e1 : Hid (rateC r b = 0) := if_pos h
    obtain ⟨⟨r0, r1⟩, b0, b1⟩ := h
    go_enter Tryd.func56, Tryd.ntmps56
    go_wp2
    go_ret
    exact ⟨ret_int e1.out.symm, rfl⟩
  · have e1 : Hid (rateC r b = 2) := if_neg h
    by_cases r0 : 0 ≤ r
    · by_cases r1 : r ≤ 1000000
      · by_cases b0 : 0 ≤ b
        · have b1 : ¬ b ≤ 5000 := fun g => h ⟨⟨r0, r1⟩, b0, g⟩
          clear h
          go_enter Tryd.func56, Tryd.ntmps56
          go_wp2
          go_ret
          exact ⟨ret_int e1.out.symm, rfl⟩
        · clear h
          go_enter Tryd.func56, Tryd.ntmps56
          go_wp2
          go_ret
          exact ⟨ret_int e1.out.symm, rfl⟩
      · clear h
        go_enter Tryd.func56, Tryd.ntmps56
        go_wp2
        go_ret
        exact ⟨ret_int e1.out.symm, rfl⟩
    · clear h
      go_enter Tryd.func56, Tryd.ntmps56
      go_wp2
      go_ret
      exact ⟨ret_int e1.out.symm, rfl⟩

theorem ref_bonus (b r : Int) (h : RateOk r b) (w : World) :
    Calls Tryd.prog 58 #[.int .i64 b, .int .i64 r] w fun e w' => e = .returned (.int .i64 (bonusV b r)) ∧ w' = w := by
  obtain ⟨⟨r0, r1⟩, b0, b1⟩ := h
  by_cases h1 : r < 480000
  · have h2 : ¬ 520000 < r := by omega
    by_cases h3 : b + 100 ≤ 5000
    · have e : Hid (bonusV b r = b + 100) := by
        show _ = _
        unfold bonusV
        rw [if_pos h1]
        split <;> omega
      go_enter Tryd.func58, Tryd.ntmps58
      go_wp2
      go_ret
      exact ⟨ret_int e.out.symm, rfl⟩
    · have e : Hid (bonusV b r = 5000) := by
        show _ = _
        unfold bonusV
        rw [if_pos h1, if_neg (by omega)]
      go_enter Tryd.func58, Tryd.ntmps58
      go_wp2
      go_ret
      exact ⟨ret_int e.out.symm, rfl⟩
  · by_cases h2 : 520000 < r
    · by_cases h3 : 0 ≤ b - 100
      · have h4 : b - 100 ≤ 5000 := by omega
        have e : Hid (bonusV b r = b - 100) := by
          show _ = _
          unfold bonusV
          rw [if_neg h1, if_pos h2]
          split <;> omega
        go_enter Tryd.func58, Tryd.ntmps58
        go_wp2
        go_ret
        exact ⟨ret_int e.out.symm, rfl⟩
      · have h4 : b - 100 ≤ 5000 := by omega
        have e : Hid (bonusV b r = 0) := by
          show _ = _
          unfold bonusV
          rw [if_neg h1, if_pos h2, if_neg (by omega)]
        go_enter Tryd.func58, Tryd.ntmps58
        go_wp2
        go_ret
        exact ⟨ret_int e.out.symm, rfl⟩
    · have e : Hid (bonusV b r = b) := by
        show _ = _
        unfold bonusV
        rw [if_neg h1, if_neg h2]
      go_enter Tryd.func58, Tryd.ntmps58
      go_wp2
      go_ret
      exact ⟨ret_int e.out.symm, rfl⟩
end Go.Proofs.YtlhffdmhbplpjabDoor
