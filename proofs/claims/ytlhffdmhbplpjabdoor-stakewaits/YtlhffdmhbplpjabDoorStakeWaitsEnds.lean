/-
  The law StakeWaits, walked, where there is nothing to do.
-/
import Derived.Test.YtlhffdmhbplpjabDoorStakeWaitsWalk
namespace Go.Proofs.YtlhffdmhbplpjabDoor
open Go.RowKit

set_option maxRecDepth 100000 in
set_option maxHeartbeats 1000000 in
theorem stakeWaits_out (n k c p f : Int) (A : Nat → Addr) (w : World) (hL : Laid w A) (h : ¬ (1 ≤ n ∧ n ≤ 1099511627776 ∧ 1 ≤ k ∧ k ≤ n)) :
    Calls Tryd.prog 6 #[.int .i64 n, .int .i64 k, .int .i64 c, .int .i64 p, .int .i64 f] w fun e w' => e = .returned (.bool true) ∧ Below w.heap.size w w' := by
  have S := staked_of A w hL.stkW
  by_cases h1 : 1 ≤ n
  · by_cases h2 : n ≤ 1099511627776
    · by_cases h3 : 1 ≤ k
      · have h4 : ¬ k ≤ n := fun g => h ⟨h1, h2, h3, g⟩
        clear h
        go_enter Tryd.func6, Tryd.ntmps6
        go_wp2_with (go_at_call 33; refine S.mono ?_; rintro e w1 ⟨rfl, hB1⟩)
        go_ret
        exact ⟨rfl, hB1⟩
      · clear h
        go_enter Tryd.func6, Tryd.ntmps6
        go_wp2_with (go_at_call 33; refine S.mono ?_; rintro e w1 ⟨rfl, hB1⟩)
        go_ret
        exact ⟨rfl, hB1⟩
    · clear h
      go_enter Tryd.func6, Tryd.ntmps6
      go_wp2_with (go_at_call 33; refine S.mono ?_; rintro e w1 ⟨rfl, hB1⟩)
      go_ret
      exact ⟨rfl, hB1⟩
  · clear h
    go_enter Tryd.func6, Tryd.ntmps6
    go_wp2_with (go_at_call 33; refine S.mono ?_; rintro e w1 ⟨rfl, hB1⟩)
    go_ret
    exact ⟨rfl, hB1⟩
set_option maxRecDepth 100000 in
set_option maxHeartbeats 1000000 in
theorem stakeWaits_far (n k c p f : Int) (A : Nat → Addr) (w : World) (hL : Laid w A) (n1 : 1 ≤ n) (n2 : n ≤ 1099511627776) (k1 : 1 ≤ k) (kn : k ≤ n) (h : ¬ (0 ≤ c ∧ c ≤ 1000 ∧ 0 ≤ p ∧ p ≤ 100)) :
    Calls Tryd.prog 6 #[.int .i64 n, .int .i64 k, .int .i64 c, .int .i64 p, .int .i64 f] w fun e w' => e = .returned (.bool true) ∧ Below w.heap.size w w' := by
  have S := staked_of A w hL.stkW
  by_cases h1 : 0 ≤ c
  · by_cases h2 : c ≤ 1000
    · by_cases h3 : 0 ≤ p
      · have h4 : ¬ p ≤ 100 := fun g => h ⟨h1, h2, h3, g⟩
        clear h
        go_enter Tryd.func6, Tryd.ntmps6
        go_wp2_with (go_at_call 33; refine S.mono ?_; rintro e w1 ⟨rfl, hB1⟩)
        go_ret
        exact ⟨rfl, hB1⟩
      · clear h
        go_enter Tryd.func6, Tryd.ntmps6
        go_wp2_with (go_at_call 33; refine S.mono ?_; rintro e w1 ⟨rfl, hB1⟩)
        go_ret
        exact ⟨rfl, hB1⟩
    · clear h
      go_enter Tryd.func6, Tryd.ntmps6
      go_wp2_with (go_at_call 33; refine S.mono ?_; rintro e w1 ⟨rfl, hB1⟩)
      go_ret
      exact ⟨rfl, hB1⟩
  · clear h
    go_enter Tryd.func6, Tryd.ntmps6
    go_wp2_with (go_at_call 33; refine S.mono ?_; rintro e w1 ⟨rfl, hB1⟩)
    go_ret
    exact ⟨rfl, hB1⟩
end Go.Proofs.YtlhffdmhbplpjabDoor
