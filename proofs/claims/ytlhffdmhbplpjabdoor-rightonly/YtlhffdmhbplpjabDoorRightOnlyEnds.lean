/-
  The law RightOnly, whatever comes in.
-/
import Derived.Test.YtlhffdmhbplpjabDoorRightOnlyWalk
namespace Go.Proofs.YtlhffdmhbplpjabDoor
open Go.RowKit

set_option maxRecDepth 100000 in
set_option maxHeartbeats 1000000 in
theorem rightOnly_out (n k x : Int) (seed : Nat) (c l : Int) (w : World) (h : ¬ (1 ≤ n ∧ n ≤ 64 ∧ 0 ≤ k ∧ k < n ∧ 1 ≤ x ∧ x ≤ 1073741824)) :
    Calls Tryd.prog 8 #[.int .i64 n, .int .i64 k, .int .i64 x, .int .u64 seed, .int .i64 c, .int .i64 l] w fun e w' => e = .returned (.bool true) ∧ Below w.heap.size w w' := by
  have S := entitled_of w
  by_cases h1 : 1 ≤ n
  · by_cases h2 : n ≤ 64
    · by_cases h3 : 0 ≤ k
      · by_cases h4 : k < n
        · by_cases h5 : 1 ≤ x
          · have h6 : ¬ x ≤ 1073741824 := fun g => h ⟨h1, h2, h3, h4, h5, g⟩
            clear h
            go_enter Tryd.func8, Tryd.ntmps8
            go_wp2_with (go_at_call 45; refine S.mono ?_; rintro e w1 ⟨rfl, hB1⟩)
            go_ret
            exact ⟨rfl, hB1⟩
          · clear h
            go_enter Tryd.func8, Tryd.ntmps8
            go_wp2_with (go_at_call 45; refine S.mono ?_; rintro e w1 ⟨rfl, hB1⟩)
            go_ret
            exact ⟨rfl, hB1⟩
        · clear h
          go_enter Tryd.func8, Tryd.ntmps8
          go_wp2_with (go_at_call 45; refine S.mono ?_; rintro e w1 ⟨rfl, hB1⟩)
          go_ret
          exact ⟨rfl, hB1⟩
      · clear h
        go_enter Tryd.func8, Tryd.ntmps8
        go_wp2_with (go_at_call 45; refine S.mono ?_; rintro e w1 ⟨rfl, hB1⟩)
        go_ret
        exact ⟨rfl, hB1⟩
    · clear h
      go_enter Tryd.func8, Tryd.ntmps8
      go_wp2_with (go_at_call 45; refine S.mono ?_; rintro e w1 ⟨rfl, hB1⟩)
      go_ret
      exact ⟨rfl, hB1⟩
  · clear h
    go_enter Tryd.func8, Tryd.ntmps8
    go_wp2_with (go_at_call 45; refine S.mono ?_; rintro e w1 ⟨rfl, hB1⟩)
    go_ret
    exact ⟨rfl, hB1⟩
set_option maxRecDepth 100000 in
set_option maxHeartbeats 1000000 in
theorem rightOnly_far (n k x : Int) (seed : Nat) (c l : Int) (w : World) (n1 : 1 ≤ n) (n64 : n ≤ 64) (k0 : 0 ≤ k) (kn : k < n) (x1 : 1 ≤ x) (x2 : x ≤ 1073741824) (h : ¬ (0 ≤ c ∧ c ≤ 1048576 ∧ 0 ≤ l ∧ l ≤ 4194304)) :
    Calls Tryd.prog 8 #[.int .i64 n, .int .i64 k, .int .i64 x, .int .u64 seed, .int .i64 c, .int .i64 l] w fun e w' => e = .returned (.bool true) ∧ Below w.heap.size w w' := by
  have S := entitled_of w
  by_cases h1 : 0 ≤ c
  · by_cases h2 : c ≤ 1048576
    · by_cases h3 : 0 ≤ l
      · have h4 : ¬ l ≤ 4194304 := fun g => h ⟨h1, h2, h3, g⟩
        clear h
        go_enter Tryd.func8, Tryd.ntmps8
        go_wp2_with (go_at_call 45; refine S.mono ?_; rintro e w1 ⟨rfl, hB1⟩)
        go_ret
        exact ⟨rfl, hB1⟩
      · clear h
        go_enter Tryd.func8, Tryd.ntmps8
        go_wp2_with (go_at_call 45; refine S.mono ?_; rintro e w1 ⟨rfl, hB1⟩)
        go_ret
        exact ⟨rfl, hB1⟩
    · clear h
      go_enter Tryd.func8, Tryd.ntmps8
      go_wp2_with (go_at_call 45; refine S.mono ?_; rintro e w1 ⟨rfl, hB1⟩)
      go_ret
      exact ⟨rfl, hB1⟩
  · clear h
    go_enter Tryd.func8, Tryd.ntmps8
    go_wp2_with (go_at_call 45; refine S.mono ?_; rintro e w1 ⟨rfl, hB1⟩)
    go_ret
    exact ⟨rfl, hB1⟩
theorem rightOnly_any (n k x : Int) (seed : Nat) (hs : seed < W64) (c l : Int) (A : Nat → Addr) (w : World) (hL : DrawLaid w A) :
    Calls Tryd.prog 8 #[.int .i64 n, .int .i64 k, .int .i64 x, .int .u64 seed, .int .i64 c, .int .i64 l] w fun e w' => e = .returned (.bool true) ∧ Below w.heap.size w w' := by
  by_cases h1 : 1 ≤ n ∧ n ≤ 64 ∧ 0 ≤ k ∧ k < n ∧ 1 ≤ x ∧ x ≤ 1073741824
  · by_cases h2 : 0 ≤ c ∧ c ≤ 1048576 ∧ 0 ≤ l ∧ l ≤ 4194304
    · obtain ⟨a1, a2, a3, a4, a5, a6⟩ := h1
      obtain ⟨n', rfl⟩ : ∃ n' : Nat, n = n' := ⟨n.toNat, by omega⟩
      obtain ⟨k', rfl⟩ : ∃ k' : Nat, k = k' := ⟨k.toNat, by omega⟩
      exact rightOnly_main n' k' x seed c l A w hL hs (by omega) (by omega) (by omega) a5 a6 h2.1 h2.2.1 h2.2.2.1 h2.2.2.2
    · exact rightOnly_far n k x seed c l w h1.1 h1.2.1 h1.2.2.1 h1.2.2.2.1 h1.2.2.2.2.1 h1.2.2.2.2.2 h2
  · exact rightOnly_out n k x seed c l w h1
end Go.Proofs.YtlhffdmhbplpjabDoor
