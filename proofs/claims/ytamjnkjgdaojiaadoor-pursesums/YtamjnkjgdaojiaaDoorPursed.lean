/-
  The closed fact on purses.
-/
import Derived.Test.YtamjnkjgdaojiaaDoorProgPurseActs
namespace Go.Proofs.YtamjnkjgdaojiaaDoor
open Go.RowKit

theorem ErrIs.zero {A : Nat → Addr} {e : Value} (h : ErrIs A e 0) : e = .nilIface := by
  rcases h with ⟨_, rfl⟩ | ⟨i, _, h, _⟩
  · rfl
  · omega
theorem ErrIs.some {A : Nat → Addr} {e : Value} {c : Int} (h : ErrIs A e c) (hc : c ≠ 0) : ∃ i, e = sent (A i) := by
  rcases h with ⟨h, _⟩ | ⟨i, _, _, rfl⟩
  · exact absurd h hc
  · exact ⟨i, rfl⟩
theorem five1 : none'.mintC 1 5 = 0 := by decide
theorem five2 : (none'.mint 1 5).outC 1 2 = 0 := by decide
theorem five3 : ((none'.mint 1 5).out 1 2).s 1 = 3 := by decide
theorem five4 : ((none'.mint 1 5).out 1 2).S = 5 := by decide
set_option maxRecDepth 100000 in
set_option maxHeartbeats 1000000 in
theorem pursed_of (A : Nat → Addr) (w : World) (hL : PurLaid w A) : Calls Tryd.prog 7 #[] w fun e w' => e = .returned (.bool true) ∧ Below w.heap.size w w' := by
  go_enter Tryd.func7, Tryd.ntmps7
  go_wp2_with fail
  refine (pu_new w).mono ?_
  rintro e w1 ⟨b, rfl, hb, hP, hB1⟩
  have M := pu_mint b none' none_ok 1 5 A w1 (hL.below hB1) hP
  go_wp2_with fail
  refine M.mono ?_
  rintro e w2 ⟨ev, rfl, hE, hP2, hK2⟩
  rw [five1] at hE
  obtain rfl := hE.zero
  have hB2 := hB1.trans (hK2.below hB1.size (by simp; exact hb))
  have U := pu_out b _ (none_ok.mint 1 5) 1 2 A w2 (hL.below hB2) hP2
  clear M hE hK2
  go_wp2_with fail
  refine U.mono ?_
  rintro e w3 ⟨ev, rfl, hE, hP3, hK3⟩
  rw [five2] at hE
  obtain rfl := hE.zero
  have hB3 := hB2.trans (hK3.below hB2.size (by simp; exact hb))
  have q1 := pu_has b _ ((none_ok.mint 1 5).out' 1 2) 1 w3 hP3
  have q2 := pu_supply b _ w3 hP3
  rw [five3] at q1
  rw [five4] at q2
  clear U hE hK3
  go_wp2_with fail
  refine q1.mono ?_
  rintro e w4 ⟨rfl, rfl⟩
  go_wp2_with fail
  refine q2.mono ?_
  rintro e w4 ⟨rfl, rfl⟩
  go_wp2_with fail
  go_ret
  exact ⟨rfl, hB3⟩
end Go.Proofs.YtamjnkjgdaojiaaDoor
