/-
  The law LotsNext, whatever comes in.
-/
import Derived.Test.YtlhffdmhbplpjaaDoorLotsNextWalk
import Derived.Test.YtlhffdmhbplpjaaDoorIntsIn
import Derived.Test.YtlhffdmhbplpjaaDoorU64In
namespace Go.Proofs.YtlhffdmhbplpjaaDoor
open Go.RowKit

theorem lotsNext_any (seed : Nat) (hs : seed < W64) (a : Option Addr) (len cap : Nat) (A : Nat → Addr) (w : World) (hL : Laid w A) (sl : IsInts w a len cap) :
    Calls Tryd.prog 13 #[.int .u64 seed, .slice a len cap] w fun e w' => e = .returned (.bool true) ∧ Below w.heap.size w w' := by
  rcases Nat.eq_zero_or_pos len with rfl | h0
  · refine lotsNext_walk a 0 0 0 cap seed (fun _ => 0) A w hL hs (by omega) (fun h => by omega) (fun h => by omega) (fun i hi => by omega) (fun w' hB => (ownInts_none a cap w').mono ?_)
    rintro e w2 ⟨rfl, rfl⟩
    exact ⟨none, 0, 0, rfl, fun h => by omega, fun h => by omega, fun i hi => by omega, hB⟩
  · rcases sl with rfl | ⟨b, off, W, rfl, hb, hcap, hm, hI, _⟩
    · omega
    by_cases h100 : len ≤ 100
    · refine lotsNext_walk _ b off len cap seed W A w hL hs h100 (fun _ => rfl) (fun _ => hb) hI (fun w' hB => (ownInts_some b off len cap W w' (hI.below hB hb) h0 (by omega)).mono ?_)
      rintro e w2 ⟨m, c', rfl, hm2, hI2, hB2⟩
      exact ⟨_, m, c', rfl, fun _ => rfl, fun _ => hm2, hI2, hB.trans (hB2.mono hB.size)⟩
    · exact lotsNext_many _ len cap seed w (by omega) (by omega)
end Go.Proofs.YtlhffdmhbplpjaaDoor
