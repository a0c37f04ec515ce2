/-
  The law CourtOnce, walked, whatever slice came in.
-/
import Derived.Test.YtamjnkjgdaojiaaDoorCourtOnceWalk
namespace Go.Proofs.YtamjnkjgdaojiaaDoor
open Go.RowKit

set_option maxRecDepth 100000 in
theorem courtOnce_many (a : Option Addr) (len cap : Nat) (h : 100 < len) (hm : len ≤ 9223372036854775807) (A : Nat → Addr) (w : World) (hL : Laid w A) :
    Calls Tryd.prog 6 #[.slice a len cap] w fun e w' => e = .returned (.bool true) ∧ Below w.heap.size w w' := by
  go_enter Tryd.func6, Tryd.ntmps6
  go_wp2_with fail
  refine (judged_of A w hL).mono ?_
  rintro e w1 ⟨rfl, hB1⟩
  go_wp2
  go_ret
  exact ⟨rfl, hB1⟩
theorem courtOnce_any (a : Option Addr) (len cap : Nat) (A : Nat → Addr) (w : World) (hL : Laid w A) (h : IsBrought w a len cap) :
    Calls Tryd.prog 6 #[.slice a len cap] w fun e w' => e = .returned (.bool true) ∧ Below w.heap.size w w' := by
  rcases h with rfl | ⟨b, off, rfl, hb, hl, hm, hA⟩
  · exact courtOnce_walk 0 0 0 cap A w hL a (fun g => absurd rfl g) (by omega) (fun i hi => absurd hi (Nat.not_lt_zero _))
  · by_cases h : len ≤ 100
    · exact courtOnce_walk b off len cap A w hL _ (fun _ => ⟨rfl, hb⟩) h hA
    · exact courtOnce_many _ len cap (by omega) (by omega) A w hL
end Go.Proofs.YtamjnkjgdaojiaaDoor
