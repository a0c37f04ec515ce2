/-
  The law ChainRewards, walked, where there is nothing to do, or too much; all of it.
-/
import Derived.Test.YtaihcceobnfmhaaGreatDoorChainRewardsWalk
namespace Go.Proofs.YtaihcceobnfmhaaGreatDoor
open Go.RowKit

set_option maxRecDepth 100000 in
set_option maxHeartbeats 1000000 in
theorem chainRewards_none (seed : Nat) (hs : seed < W64) (a : Option Addr) (cap : Nat) (A : Nat → Addr) (w : World) (hL : ChLaid w A) :
    Calls Tryz.prog 5 #[.int .u64 seed, .slice a 0 cap] w fun e w' => e = .returned (.bool true) ∧ Below w.heap.size w w' := by
  go_enter Tryz.func5, Tryz.ntmps5
  go_wp2_with fail
  refine (begun_of A w hL).mono ?_
  rintro e w1 ⟨rfl, hB1⟩
  go_wp2_with fail
  refine (pch_new seed hs A w1 (hL.below hB1)).mono ?_
  rintro e w2 ⟨cb, F2, rfl, _, _, hB2⟩
  have hB := hB1.trans (hB2.mono hB1.size)
  clear hB1 hB2
  go_wp2_with fail
  go_loopw [7] (fun i w' => i = .int .i64 0 ∧ w' = w2) (fun _ _ => 0)
  case atStart => exact ⟨rfl, rfl⟩
  case round =>
    obtain ⟨rfl, rfl⟩ := hrel
    go_wp2_with fail
    go_ret
    exact ⟨rfl, hB⟩
set_option maxRecDepth 100000 in
theorem chainRewards_many (seed : Nat) (a : Option Addr) (len cap : Nat) (h : 120 < len) (hm : len ≤ 9223372036854775807) (A : Nat → Addr) (w : World) (hL : ChLaid w A) :
    Calls Tryz.prog 5 #[.int .u64 seed, .slice a len cap] w fun e w' => e = .returned (.bool true) ∧ Below w.heap.size w w' := by
  go_enter Tryz.func5, Tryz.ntmps5
  go_wp2_with fail
  refine (begun_of A w hL).mono ?_
  rintro e w1 ⟨rfl, hB1⟩
  go_wp2
  go_ret
  exact ⟨rfl, hB1⟩
theorem chainRewards_any (seed : Nat) (hs : seed < W64) (a : Option Addr) (len cap : Nat) (A : Nat → Addr) (w : World) (hL : ChLaid w A) (hI : IssLaid w A) (s : IsCActs w a len cap) :
    Calls Tryz.prog 5 #[.int .u64 seed, .slice a len cap] w fun e w' => e = .returned (.bool true) ∧ Below w.heap.size w w' := by
  rcases s with rfl | ⟨b, off, rfl, hb, hcap, hm, hA⟩
  · exact chainRewards_none seed hs a cap A w hL
  · rcases Nat.eq_zero_or_pos len with rfl | _
    · exact chainRewards_none seed hs _ cap A w hL
    · by_cases h120 : len ≤ 120
      · exact chainRewards_walk seed hs b off len cap A w hL hI hb h120 hA
      · exact chainRewards_many seed _ len cap (by omega) (by omega) A w hL
end Go.Proofs.YtaihcceobnfmhaaGreatDoor
