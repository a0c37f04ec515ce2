/-
  The law IssueFalls, walked: for any numbers it returns true.
-/
import Derived.Test.YtlhffdmhbplpjabDoorIssued
namespace Go.Proofs.YtlhffdmhbplpjabDoor
open Go.RowKit

set_option maxRecDepth 100000 in
set_option maxHeartbeats 1000000 in
theorem issueFalls_out (p l m b : Int) (A : Nat → Addr) (w : World) (hL : IssLaid w A) (h : ¬ (1 ≤ p ∧ p ≤ 1125899906842624 ∧ 0 ≤ b ∧ b ≤ 5000)) :
    Calls Tryd.prog 10 #[.int .i64 p, .int .i64 l, .int .i64 m, .int .i64 b] w fun e w' => e = .returned (.bool true) ∧ Below w.heap.size w w' := by
  have S := issued_of A w hL
  by_cases h1 : 1 ≤ p
  · by_cases h2 : p ≤ 1125899906842624
    · by_cases h3 : 0 ≤ b
      · have h4 : ¬ b ≤ 5000 := fun g => h ⟨h1, h2, h3, g⟩
        clear h
        go_enter Tryd.func10, Tryd.ntmps10
        go_wp2_with (go_at_call 51; refine S.mono ?_; rintro e w1 ⟨rfl, hB1⟩)
        go_ret
        exact ⟨rfl, hB1⟩
      · clear h
        go_enter Tryd.func10, Tryd.ntmps10
        go_wp2_with (go_at_call 51; refine S.mono ?_; rintro e w1 ⟨rfl, hB1⟩)
        go_ret
        exact ⟨rfl, hB1⟩
    · clear h
      go_enter Tryd.func10, Tryd.ntmps10
      go_wp2_with (go_at_call 51; refine S.mono ?_; rintro e w1 ⟨rfl, hB1⟩)
      go_ret
      exact ⟨rfl, hB1⟩
  · clear h
    go_enter Tryd.func10, Tryd.ntmps10
    go_wp2_with (go_at_call 51; refine S.mono ?_; rintro e w1 ⟨rfl, hB1⟩)
    go_ret
    exact ⟨rfl, hB1⟩
set_option maxRecDepth 100000 in
set_option maxHeartbeats 1000000 in
theorem issueFalls_far (p l m b : Int) (A : Nat → Addr) (w : World) (hL : IssLaid w A) (p1 : 1 ≤ p) (p2 : p ≤ 1125899906842624) (b0 : 0 ≤ b) (b1 : b ≤ 5000) (h : ¬ (0 ≤ l ∧ l ≤ m ∧ m ≤ p)) :
    Calls Tryd.prog 10 #[.int .i64 p, .int .i64 l, .int .i64 m, .int .i64 b] w fun e w' => e = .returned (.bool true) ∧ Below w.heap.size w w' := by
  have S := issued_of A w hL
  by_cases h1 : 0 ≤ l
  · by_cases h2 : l ≤ m
    · have h3 : ¬ m ≤ p := fun g => h ⟨h1, h2, g⟩
      clear h
      go_enter Tryd.func10, Tryd.ntmps10
      go_wp2_with (go_at_call 51; refine S.mono ?_; rintro e w1 ⟨rfl, hB1⟩)
      go_ret
      exact ⟨rfl, hB1⟩
    · clear h
      go_enter Tryd.func10, Tryd.ntmps10
      go_wp2_with (go_at_call 51; refine S.mono ?_; rintro e w1 ⟨rfl, hB1⟩)
      go_ret
      exact ⟨rfl, hB1⟩
  · clear h
    go_enter Tryd.func10, Tryd.ntmps10
    go_wp2_with (go_at_call 51; refine S.mono ?_; rintro e w1 ⟨rfl, hB1⟩)
    go_ret
    exact ⟨rfl, hB1⟩

set_option maxRecDepth 100000 in
set_option maxHeartbeats 2000000 in
theorem issueFalls_main (p l m b : Int) (A : Nat → Addr) (w : World) (hL : IssLaid w A) (p1 : 1 ≤ p) (p2 : p ≤ 1125899906842624) (b0 : 0 ≤ b) (b1 : b ≤ 5000) (l0 : 0 ≤ l) (lm : l ≤ m) (mp : m ≤ p) :
    Calls Tryd.prog 10 #[.int .i64 p, .int .i64 l, .int .i64 m, .int .i64 b] w fun e w' => e = .returned (.bool true) ∧ Below w.heap.size w w' := by
  have step : ∀ {u v : World}, Below w.heap.size w u → Below u.heap.size u v → Below w.heap.size w v := fun a c => a.trans (c.mono a.size)
  have o1 : RatioOk l p := ⟨⟨l0, by omega⟩, p1, p2, by omega⟩
  have o2 : RatioOk m p := ⟨⟨by omega, by omega⟩, p1, p2, mp⟩
  obtain ⟨x, hx⟩ : ∃ x, x = l * 1000000 / p := ⟨_, rfl⟩
  obtain ⟨y, hy⟩ : ∃ y, y = m * 1000000 / p := ⟨_, rfl⟩
  obtain ⟨x0, x1⟩ : 0 ≤ x ∧ x ≤ 1000000 := by rw [hx]; exact ratio_bd o1
  obtain ⟨y0, y1⟩ : 0 ≤ y ∧ y ≤ 1000000 := by rw [hy]; exact ratio_bd o2
  have xy : x ≤ y := by rw [hx, hy]; exact ratio_mono p1 lm
  have r1 : Hid (ratioC l p = 0 ∧ ratioN l p = x) := ⟨if_pos o1, (if_pos o1).trans hx.symm⟩
  have r2 : Hid (ratioC m p = 0 ∧ ratioN m p = y) := ⟨if_pos o2, (if_pos o2).trans hy.symm⟩
  have q1 : RateOk x b := ⟨⟨x0, x1⟩, b0, b1⟩
  have q2 : RateOk y b := ⟨⟨y0, y1⟩, b0, b1⟩
  obtain ⟨u0, u1⟩ := bendR_bd x0 x1
  obtain ⟨v0, v1⟩ := bendR_bd y0 y1
  have uv := bendR_falls x0 xy y1
  obtain ⟨s0, s1⟩ := bonusV_bd (r := x) b0 b1
  obtain ⟨t0, t1⟩ := bonusV_bd (r := y) b0 b1
  have st := bonusV_falls b0 b1 xy
  have r3 : Hid (rateC x b = 0 ∧ rateN x b = bendR x + b ∧ bonusN b x = bonusV b x) := ⟨if_pos q1, if_pos q1, if_pos q1⟩
  have r4 : Hid (rateC y b = 0 ∧ rateN y b = bendR y + b ∧ bonusN b y = bonusV b y) := ⟨if_pos q2, if_pos q2, if_pos q2⟩
  have w0 : RewardOk p (bendR x + b) := ⟨⟨by omega, p2⟩, by omega, by omega⟩
  have wb := reward_bd w0
  have wp := reward_part (s := p) (r := bendR x + b) (by omega) (by omega) (by omega)
  have r5 : Hid (rewardC p (bendR x + b) = 0 ∧ rewardN p (bendR x + b) = p * (bendR x + b) / 1000000 / 4) := ⟨if_pos w0, if_pos w0⟩
  obtain ⟨z, hz⟩ : ∃ z, z = p * (bendR x + b) / 1000000 / 4 := ⟨_, rfl⟩
  have z0 : 0 ≤ z := by omega
  have z1 : z ≤ 1125899906842624 := by omega
  have z2 : z * 4 ≤ p / 20 := by rw [hz]; exact wp
  have r6 : Hid (p * (bendR x + b) / 1000000 / 4 = z) := hz.symm
  clear hx hy hz wb wp w0 q1 q2 o1 o2
  go_enter Tryd.func10, Tryd.ntmps10
  go_wp2_with fail
  refine (issued_of A w hL).mono ?_
  rintro e w1 ⟨rfl, hB1⟩
  have C := is_ratio l p A w1 (hL.below hB1)
  rw [r1.out.1, r1.out.2] at C
  go_wp2_with fail
  refine C.mono ?_
  rintro e w2 ⟨ev, rfl, hE, hB2'⟩
  obtain rfl := hE.nil rfl
  have hB2 := step hB1 hB2'
  clear hB1 hB2' C hE
  have C := is_ratio m p A w2 (hL.below hB2)
  rw [r2.out.1, r2.out.2] at C
  go_wp2_with fail
  refine C.mono ?_
  rintro e w3 ⟨ev, rfl, hE, hB3'⟩
  obtain rfl := hE.nil rfl
  have hB3 := step hB2 hB3'
  clear hB2 hB3' C hE
  have C := is_rate x b A w3 (hL.below hB3)
  rw [r3.out.1, r3.out.2.1] at C
  go_wp2_with fail
  refine C.mono ?_
  rintro e w4 ⟨ev, rfl, hE, hB4'⟩
  obtain rfl := hE.nil rfl
  have hB4 := step hB3 hB4'
  clear hB3 hB4' C hE
  have C := is_rate y b A w4 (hL.below hB4)
  rw [r4.out.1, r4.out.2.1] at C
  go_wp2_with fail
  refine C.mono ?_
  rintro e w5 ⟨ev, rfl, hE, hB5'⟩
  obtain rfl := hE.nil rfl
  have hB5 := step hB4 hB5'
  clear hB4 hB5' C hE
  have C := is_bonus b x A w5 (hL.below hB5)
  rw [r3.out.1, r3.out.2.2] at C
  go_wp2_with fail
  refine C.mono ?_
  rintro e w6 ⟨ev, rfl, hE, hB6'⟩
  obtain rfl := hE.nil rfl
  have hB6 := step hB5 hB6'
  clear hB5 hB6' C hE
  have C := is_bonus b y A w6 (hL.below hB6)
  rw [r4.out.1, r4.out.2.2] at C
  go_wp2_with fail
  refine C.mono ?_
  rintro e w7 ⟨ev, rfl, hE, hB7'⟩
  obtain rfl := hE.nil rfl
  have hB7 := step hB6 hB7'
  clear hB6 hB7' C hE
  have C := is_reward p (bendR x + b) A w7 (hL.below hB7)
  rw [r5.out.1, r5.out.2, r6.out] at C
  go_wp2_with fail
  refine C.mono ?_
  rintro e w8 ⟨ev, rfl, hE, hB8'⟩
  obtain rfl := hE.nil rfl
  have hB8 := step hB7 hB8'
  clear hB7 hB8' C hE
  go_wp2_with fail
  go_ret
  exact ⟨rfl, hB8⟩
end Go.Proofs.YtlhffdmhbplpjabDoor
