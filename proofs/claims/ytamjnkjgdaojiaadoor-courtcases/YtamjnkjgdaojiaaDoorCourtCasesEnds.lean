/-
  The law CourtCases, walked, whatever slice came in.
-/
import Derived.Test.YtamjnkjgdaojiaaDoorCourtCasesWalk
namespace Go.Proofs.YtamjnkjgdaojiaaDoor
open Go.RowKit

set_option maxRecDepth 100000 in
theorem courtCases_many (a : Option Addr) (len cap : Nat) (lost : Int) (_wl : (Lit.int .i64 lost).wf = true) (h : 100 < len) (hm : len ≤ 9223372036854775807) (A : Nat → Addr) (w : World) (hL : Laid w A) :
    Calls Tryd.prog 5 #[.slice a len cap, .int .i64 lost] w fun e w' => e = .returned (.bool true) ∧ Below w.heap.size w w' := by
  go_enter Tryd.func5, Tryd.ntmps5
  go_wp2_with fail
  refine (judged_of A w hL).mono ?_
  rintro e w1 ⟨rfl, hB1⟩
  go_wp2
  go_ret
  exact ⟨rfl, hB1⟩
theorem courtCases_any (a : Option Addr) (len cap : Nat) (lost : Int) (wl : (Lit.int .i64 lost).wf = true) (A : Nat → Addr) (w : World) (hL : Laid w A) (h : IsBrought w a len cap) :
    Calls Tryd.prog 5 #[.slice a len cap, .int .i64 lost] w fun e w' => e = .returned (.bool true) ∧ Below w.heap.size w w' := by
  rcases h with rfl | ⟨b, off, rfl, hb, hl, hm, hA⟩
  · exact courtCases_walk 0 0 0 cap lost wl A w hL a (fun g => absurd rfl g) (by omega) (fun i hi => absurd hi (Nat.not_lt_zero _))
  · by_cases h : len ≤ 100
    · exact courtCases_walk b off len cap lost wl A w hL _ (fun _ => ⟨rfl, hb⟩) h hA
    · exact courtCases_many _ len cap lost wl (by omega) (by omega) A w hL
end Go.Proofs.YtamjnkjgdaojiaaDoor
