/-
  The law IssueRates, walked: for any numbers it returns true.
-/
import Derived.Test.YtlhffdmhbplpjabDoorIssued
import Derived.Test.YtlhffdmhbplpjabDoorRefIssue
import Derived.Test.YtlhffdmhbplpjabDoorRefRate
import Derived.Test.YtlhffdmhbplpjabDoorCoded2
namespace Go.Proofs.YtlhffdmhbplpjabDoor
open Go.RowKit

theorem Laid.iss {w : World} {A : Nat → Addr} (h : Laid w A) : IssLaid w A := ⟨h.v1, h.v2⟩
set_option maxRecDepth 100000 in
set_option maxHeartbeats 2000000 in
theorem issueRates_walk (s t r b q : Int) (A : Nat → Addr) (w : World) (hL : Laid w A) :
    Calls Tryd.prog 9 #[.int .i64 s, .int .i64 t, .int .i64 r, .int .i64 b, .int .i64 q] w fun e w' => e = .returned (.bool true) ∧ Below w.heap.size w w' := by
  have step : ∀ {u v : World}, Below w.heap.size w u → Below u.heap.size u v → Below w.heap.size w v := fun a c => a.trans (c.mono a.size)
  have d1 : (ratioN s t == ratioN s t) = true := by simp
  have d2 : (rateN r b == rateN r b) = true := by simp
  have d3 : (bonusN b r == bonusN b r) = true := by simp
  have d4 : (rewardN t q == rewardN t q) = true := by simp
  go_enter Tryd.func9, Tryd.ntmps9
  go_wp2_with fail
  refine (issued_of A w hL.iss).mono ?_
  rintro e w1 ⟨rfl, hB1⟩
  go_wp2_with fail
  refine (is_ratio s t A w1 (hL.below hB1).iss).mono ?_
  rintro e w2 ⟨v1, rfl, hE1, hB2'⟩
  have hB2 := step hB1 hB2'
  clear hB1 hB2'
  go_wp2_with fail
  refine (ref_ratio s t w2).mono ?_
  rintro e w3 ⟨rfl, hB3'⟩
  have hB3 := step hB2 hB3'
  clear hB2 hB3'
  go_wp2_with fail
  refine (is_rate r b A w3 (hL.below hB3).iss).mono ?_
  rintro e w4 ⟨v2, rfl, hE2, hB4'⟩
  have hB4 := step hB3 hB4'
  clear hB3 hB4'
  go_wp2_with fail
  refine (is_bonus b r A w4 (hL.below hB4).iss).mono ?_
  rintro e w5 ⟨v3, rfl, hE3, hB5'⟩
  have hB5 := step hB4 hB5'
  clear hB4 hB5'
  go_wp2_with fail
  refine (ref_rateErr r b w5).mono ?_
  rintro e w6 ⟨rfl, rfl⟩
  by_cases hr : RateOk r b
  · have z1 : rateC r b = 0 := if_pos hr
    have z2 : rateN r b = bendR r + b := if_pos hr
    have z3 : bonusN b r = bonusV b r := if_pos hr
    rw [z1] at hE2 hE3 ⊢
    rw [z2] at d2 ⊢
    rw [z3] at d3 ⊢
    clear z1 z2 z3
    go_wp2_with fail
    refine (ref_rate r b hr w6).mono ?_
    rintro e w7 ⟨rfl, hB7'⟩
    have hB7 := step hB5 hB7'
    clear hB5 hB7'
    go_wp2_with fail
    refine (ref_bonus b r hr w7).mono ?_
    rintro e w8 ⟨rfl, rfl⟩
    clear hr
    go_wp2_with fail
    refine (is_reward t q A w8 (hL.below hB7).iss).mono ?_
    rintro e w9 ⟨v4, rfl, hE4, hB9'⟩
    have hB9 := step hB7 hB9'
    clear hB7 hB9'
    go_wp2_with fail
    refine (ref_reward t q w9).mono ?_
    rintro e w10 ⟨rfl, hB10'⟩
    have hB10 := step hB9 hB10'
    clear hB9 hB10'
    go_wp2_with fail
    refine (coded2_of (hE1.tells (hL.below hB10))).mono ?_
    rintro e w11 ⟨rfl, hB11'⟩
    have hB11 := step hB10 hB11'
    clear hB10 hB11'
    go_wp2_with fail
    refine (coded2_of (hE2.tells (hL.below hB11))).mono ?_
    rintro e w12 ⟨rfl, hB12'⟩
    have hB12 := step hB11 hB12'
    clear hB11 hB12'
    go_wp2_with fail
    refine (coded2_of (hE3.tells (hL.below hB12))).mono ?_
    rintro e w13 ⟨rfl, hB13'⟩
    have hB13 := step hB12 hB13'
    clear hB12 hB13'
    go_wp2_with fail
    refine (coded2_of (hE4.tells (hL.below hB13))).mono ?_
    rintro e w14 ⟨rfl, hB14'⟩
    have hB14 := step hB13 hB14'
    clear hB13 hB14'
    go_wp2_with fail
    go_ret
    exact ⟨rfl, hB14⟩
  · have z1 : rateC r b = 2 := if_neg hr
    have z2 : rateN r b = 0 := if_neg hr
    have z3 : bonusN b r = 0 := if_neg hr
    rw [z1] at hE2 hE3 ⊢
    rw [z2, z3]
    clear z1 z2 z3 hr d2 d3
    go_wp2_with fail
    refine (is_reward t q A w6 (hL.below hB5).iss).mono ?_
    rintro e w9 ⟨v4, rfl, hE4, hB9'⟩
    have hB9 := step hB5 hB9'
    clear hB5 hB9'
    go_wp2_with fail
    refine (ref_reward t q w9).mono ?_
    rintro e w10 ⟨rfl, hB10'⟩
    have hB10 := step hB9 hB10'
    clear hB9 hB10'
    go_wp2_with fail
    refine (coded2_of (hE1.tells (hL.below hB10))).mono ?_
    rintro e w11 ⟨rfl, hB11'⟩
    have hB11 := step hB10 hB11'
    clear hB10 hB11'
    go_wp2_with fail
    refine (coded2_of (hE2.tells (hL.below hB11))).mono ?_
    rintro e w12 ⟨rfl, hB12'⟩
    have hB12 := step hB11 hB12'
    clear hB11 hB12'
    go_wp2_with fail
    refine (coded2_of (hE3.tells (hL.below hB12))).mono ?_
    rintro e w13 ⟨rfl, hB13'⟩
    have hB13 := step hB12 hB13'
    clear hB12 hB13'
    go_wp2_with fail
    refine (coded2_of (hE4.tells (hL.below hB13))).mono ?_
    rintro e w14 ⟨rfl, hB14'⟩
    have hB14 := step hB13 hB14'
    clear hB13 hB14'
    go_wp2_with fail
    go_ret
    exact ⟨rfl, hB14⟩
end Go.Proofs.YtlhffdmhbplpjabDoor
