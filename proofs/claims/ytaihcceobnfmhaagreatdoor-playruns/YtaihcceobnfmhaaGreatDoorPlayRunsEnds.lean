/-
  The law PlayRuns, whatever comes in.
-/
import Derived.Test.YtaihcceobnfmhaaGreatDoorPlayRunsWalkX
import Derived.Test.YtaihcceobnfmhaaGreatDoorCutRowsX
namespace Go.Proofs.YtaihcceobnfmhaaGreatDoor
open Go.RowKit

theorem playRuns_any (seed : Nat) (hs : seed < W64) (a : Option Addr) (n cap : Nat) (A : Nat → Addr) (w : World) (hL : Laid w A) (s : IsInts w a n cap) :
    Calls Tryz.prog 8 #[.int .u64 seed, .slice a n cap] w fun e w' => e = .returned (.bool true) ∧ Below w.heap.size w w' := by
  obtain ⟨W, hW, R, _⟩ := parts_read w a n cap 0 (Nat.zero_le _) s
  by_cases h : n ≤ 200
  · exact playRuns_walk seed hs a n cap W hW A w hL h R
  · refine playRuns_many seed a n cap (by omega) ?_ A w hL
    rcases s with rfl | ⟨_, _, _, _, _, _, _, _, _⟩ <;> omega
end Go.Proofs.YtaihcceobnfmhaaGreatDoor
