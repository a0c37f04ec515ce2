/-
  The closed fact of the laws on what is issued: half is staked.
-/
import Derived.Test.YtlhffdmhbplpjabDoorProgIssue
import Derived.Test.YtlhffdmhbplpjabDoorErrNil
namespace Go.Proofs.YtlhffdmhbplpjabDoor
open Go.RowKit

theorem issued_of (A : Nat → Addr) (w : World) (hL : IssLaid w A) :
    Calls Tryd.prog 51 #[] w fun e w' => e = .returned (.bool true) ∧ Below w.heap.size w w' := by
  have k1 : ratioC 5 10 = 0 := by decide
  have k2 : ratioN 5 10 = 500000 := by decide
  have k3 : rateC 500000 100 = 0 := by decide
  have k4 : rateN 500000 100 = 10100 := by decide
  have C := is_ratio 5 10 A w hL
  rw [k1, k2] at C
  have D : ∀ w', Below w.heap.size w w' → Hid (Calls Tryd.prog 54 #[.int .i64 500000, .int .i64 100] w' fun e w'' => ∃ ev, e = .returned (.tuple #[.int .i64 10100, ev]) ∧ ErrIs A ev 0 ∧ Below w'.heap.size w' w'') := fun w' hB => by
    have D := is_rate 500000 100 A w' (hL.below hB)
    rw [k3, k4] at D
    exact D
  clear k1 k2 k3 k4
  go_enter Tryd.func51, Tryd.ntmps51
  go_wp2_with fail
  refine C.mono ?_
  rintro e w1 ⟨ev, rfl, hE, hB1⟩
  obtain rfl := hE.nil rfl
  clear C hE
  go_wp2_with fail
  refine (D w1 hB1).out.mono ?_
  rintro e w2 ⟨ev, rfl, hE, hB2⟩
  obtain rfl := hE.nil rfl
  have hB3 := hB1.trans (hB2.mono hB1.size)
  clear hE D hB1 hB2
  go_wp2_with fail
  go_ret
  exact ⟨rfl, hB3⟩
end Go.Proofs.YtlhffdmhbplpjabDoor
