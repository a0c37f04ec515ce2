/-
  bakehouseref1.DownOf, UpOf by their contracts.
-/
import Derived.Test.YtlhffdmhbplpjaaDoorProduct
namespace Go.Proofs.YtlhffdmhbplpjaaDoor
open Go.RowKit

set_option maxHeartbeats 1000000 in
theorem downOf_yes (a b c : Int) (h : Amounts a b c) (hq : a * b / c ≤ 1125899906842624) (w : World) :
    Calls Tryd.prog 27 #[.int .i64 a, .int .i64 b, .int .i64 c] w fun e w' => e = .returned (.tuple #[.int .i64 (a * b / c), .int .i64 0]) ∧ w' = w := by
  have k := product_yes a b c h hq
  obtain ⟨a0, a1, b0, b1, c0, c1⟩ := h
  go_enter Tryd.func27, Tryd.ntmps27
  go_wp2_with (first | (go_at_call 74; refine (k _).mono ?_; rintro e w' ⟨rfl, rfl⟩) | go_in)
  go_ret2
  exact ⟨rfl, rfl⟩
set_option maxHeartbeats 1000000 in
theorem upOf_yes (a b c : Int) (h : Amounts a b c) (hq : upQ (a * b) c ≤ 1125899906842624) (w : World) :
    Calls Tryd.prog 28 #[.int .i64 a, .int .i64 b, .int .i64 c] w fun e w' => e = .returned (.tuple #[.int .i64 (upQ (a * b) c), .int .i64 0]) ∧ w' = w := by
  have q0 := quo_nonneg (a * b) c (Int.mul_nonneg h.1 h.2.2.1) h.2.2.2.2.1
  by_cases hr : 0 < a * b % c
  · rw [upQ_rest _ _ hr] at hq ⊢
    have k := product_yes a b c h (by omega)
    obtain ⟨a0, a1, b0, b1, c0, c1⟩ := h
    go_enter Tryd.func28, Tryd.ntmps28
    go_wp2_with (first | (go_at_call 74; refine (k _).mono ?_; rintro e w' ⟨rfl, rfl⟩) | go_in)
    go_ret2
    exact ⟨rfl, rfl⟩
  · rw [upQ_even _ _ hr] at hq ⊢
    have k := product_yes a b c h hq
    obtain ⟨a0, a1, b0, b1, c0, c1⟩ := h
    go_enter Tryd.func28, Tryd.ntmps28
    go_wp2_with (first | (go_at_call 74; refine (k _).mono ?_; rintro e w' ⟨rfl, rfl⟩) | go_in)
    go_ret2
    exact ⟨rfl, rfl⟩
set_option maxHeartbeats 1000000 in
theorem downOf_bad (a b c : Int) (h : ¬ Amounts a b c) (w : World) :
    Calls Tryd.prog 27 #[.int .i64 a, .int .i64 b, .int .i64 c] w fun e w' => e = .returned (.tuple #[.int .i64 0, .int .i64 2]) ∧ w' = w := by
  unfold Amounts at h
  by_cases a0 : 0 ≤ a
  · by_cases a1 : a ≤ 1125899906842624
    · by_cases b0 : 0 ≤ b
      · by_cases b1 : b ≤ 1125899906842624
        · by_cases c0 : 0 ≤ c
          · by_cases c1 : c ≤ 1125899906842624
            · have c2 : c < 1 := by omega
              clear h
              go_enter Tryd.func27, Tryd.ntmps27
              go_wp2
              go_ret2
              exact ⟨rfl, rfl⟩
            · clear h
              go_enter Tryd.func27, Tryd.ntmps27
              go_wp2
              go_ret2
              exact ⟨rfl, rfl⟩
          · clear h
            go_enter Tryd.func27, Tryd.ntmps27
            go_wp2
            go_ret2
            exact ⟨rfl, rfl⟩
        · clear h
          go_enter Tryd.func27, Tryd.ntmps27
          go_wp2
          go_ret2
          exact ⟨rfl, rfl⟩
      · clear h
        go_enter Tryd.func27, Tryd.ntmps27
        go_wp2
        go_ret2
        exact ⟨rfl, rfl⟩
    · clear h
      go_enter Tryd.func27, Tryd.ntmps27
      go_wp2
      go_ret2
      exact ⟨rfl, rfl⟩
  · clear h
    go_enter Tryd.func27, Tryd.ntmps27
    go_wp2
    go_ret2
    exact ⟨rfl, rfl⟩
set_option maxHeartbeats 1000000 in
theorem upOf_bad (a b c : Int) (h : ¬ Amounts a b c) (w : World) :
    Calls Tryd.prog 28 #[.int .i64 a, .int .i64 b, .int .i64 c] w fun e w' => e = .returned (.tuple #[.int .i64 0, .int .i64 2]) ∧ w' = w := by
  unfold Amounts at h
  by_cases a0 : 0 ≤ a
  · by_cases a1 : a ≤ 1125899906842624
    · by_cases b0 : 0 ≤ b
      · by_cases b1 : b ≤ 1125899906842624
        · by_cases c0 : 0 ≤ c
          · by_cases c1 : c ≤ 1125899906842624
            · have c2 : c < 1 := by omega
              clear h
              go_enter Tryd.func28, Tryd.ntmps28
              go_wp2
              go_ret2
              exact ⟨rfl, rfl⟩
            · clear h
              go_enter Tryd.func28, Tryd.ntmps28
              go_wp2
              go_ret2
              exact ⟨rfl, rfl⟩
          · clear h
            go_enter Tryd.func28, Tryd.ntmps28
            go_wp2
            go_ret2
            exact ⟨rfl, rfl⟩
        · clear h
          go_enter Tryd.func28, Tryd.ntmps28
          go_wp2
          go_ret2
          exact ⟨rfl, rfl⟩
      · clear h
        go_enter Tryd.func28, Tryd.ntmps28
        go_wp2
        go_ret2
        exact ⟨rfl, rfl⟩
    · clear h
      go_enter Tryd.func28, Tryd.ntmps28
      go_wp2
      go_ret2
      exact ⟨rfl, rfl⟩
  · clear h
    go_enter Tryd.func28, Tryd.ntmps28
    go_wp2
    go_ret2
    exact ⟨rfl, rfl⟩
set_option maxHeartbeats 1000000 in
theorem downOf_big (a b c : Int) (h : Amounts a b c) (hq : 1125899906842624 < a * b / c) (w : World) :
    Calls Tryd.prog 27 #[.int .i64 a, .int .i64 b, .int .i64 c] w fun e w' => e = .returned (.tuple #[.int .i64 0, .int .i64 2]) ∧ w' = w := by
  have k := product_no a b c h hq
  obtain ⟨a0, a1, b0, b1, c0, c1⟩ := h
  go_enter Tryd.func27, Tryd.ntmps27
  go_wp2_with (first | (go_at_call 74; refine (k _).mono ?_; rintro e w' ⟨rfl, rfl⟩) | go_in)
  go_ret2
  exact ⟨rfl, rfl⟩
set_option maxHeartbeats 1000000 in
theorem upOf_big (a b c : Int) (h : Amounts a b c) (hq : 1125899906842624 < upQ (a * b) c) (w : World) :
    Calls Tryd.prog 28 #[.int .i64 a, .int .i64 b, .int .i64 c] w fun e w' => e = .returned (.tuple #[.int .i64 0, .int .i64 2]) ∧ w' = w := by
  have q0 := quo_nonneg (a * b) c (Int.mul_nonneg h.1 h.2.2.1) h.2.2.2.2.1
  by_cases hb : 1125899906842624 < a * b / c
  · have k := product_no a b c h hb
    obtain ⟨a0, a1, b0, b1, c0, c1⟩ := h
    clear hq
    go_enter Tryd.func28, Tryd.ntmps28
    go_wp2_with (first | (go_at_call 74; refine (k _).mono ?_; rintro e w' ⟨rfl, rfl⟩) | go_in)
    go_ret2
    exact ⟨rfl, rfl⟩
  · have hr : 0 < a * b % c := by
      rcases Int.lt_or_le 0 (a * b % c) with g | g
      · exact g
      · rw [upQ_even _ _ (by omega)] at hq; omega
    rw [upQ_rest _ _ hr] at hq
    have k := product_yes a b c h (by omega)
    obtain ⟨a0, a1, b0, b1, c0, c1⟩ := h
    go_enter Tryd.func28, Tryd.ntmps28
    go_wp2_with (first | (go_at_call 74; refine (k _).mono ?_; rintro e w' ⟨rfl, rfl⟩) | go_in)
    go_ret2
    exact ⟨rfl, rfl⟩

theorem downOf_no (a b c : Int) (h : ¬ (Amounts a b c ∧ a * b / c ≤ 1125899906842624)) (w : World) :
    Calls Tryd.prog 27 #[.int .i64 a, .int .i64 b, .int .i64 c] w fun e w' => e = .returned (.tuple #[.int .i64 0, .int .i64 2]) ∧ w' = w := by
  by_cases hA : Amounts a b c
  · exact downOf_big a b c hA (by
      rcases Int.lt_or_le 1125899906842624 (a * b / c) with g | g
      · exact g
      · exact absurd ⟨hA, g⟩ h) w
  · exact downOf_bad a b c hA w
theorem upOf_no (a b c : Int) (h : ¬ (Amounts a b c ∧ upQ (a * b) c ≤ 1125899906842624)) (w : World) :
    Calls Tryd.prog 28 #[.int .i64 a, .int .i64 b, .int .i64 c] w fun e w' => e = .returned (.tuple #[.int .i64 0, .int .i64 2]) ∧ w' = w := by
  by_cases hA : Amounts a b c
  · exact upOf_big a b c hA (by
      rcases Int.lt_or_le 1125899906842624 (upQ (a * b) c) with g | g
      · exact g
      · exact absurd ⟨hA, g⟩ h) w
  · exact upOf_bad a b c hA w
end Go.Proofs.YtlhffdmhbplpjaaDoor
