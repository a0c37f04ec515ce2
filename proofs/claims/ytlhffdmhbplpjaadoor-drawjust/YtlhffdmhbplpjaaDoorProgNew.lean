/-
  A new draw of the program by its contracts; the closed fact.
-/
import Derived.Test.YtlhffdmhbplpjaaDoorProgFill
namespace Go.Proofs.YtlhffdmhbplpjaaDoor
open Go.RowKit Go.Deep

set_option maxRecDepth 100000 in
/-- New hands the error of the weights on, and no draw. -/
theorem new_hands (v : Value) (w : World) (R : Value → World → Prop)
    (ck : Calls Tryd.prog 81 #[v] w fun e w' => ∃ u y, e = .returned (.tuple #[.int .i64 0, .iface u y]) ∧ R (.iface u y) w') :
    Calls Tryd.prog 50 #[v] w fun e w' => ∃ u y, e = .returned (.tuple #[.pointer none, .iface u y]) ∧ R (.iface u y) w' := by
  go_enter Tryd.func50, Tryd.ntmps50
  go_wp2_with fail
  refine ck.mono ?_
  rintro e w1 ⟨u, y, rfl, hR⟩
  have HR := hide hR
  clear hR ck
  go_wp2
  go_ret2
  exact ⟨_, _, rfl, HR.out⟩

set_option maxRecDepth 100000 in
set_option maxHeartbeats 1000000 in
theorem new_fine (b off n cap : Nat) (W : Nat → Int) (w : World) (hI : Ints w b off n W) (hb : b < w.heap.size) (hW : Weights n W) (h0 : sumTo W n ≠ 0) :
    Calls Tryd.prog 50 #[.slice (some ⟨b, off, none⟩) n cap] w fun e w' => ∃ d c, e = .returned (.tuple #[.pointer (some ⟨d, 0, none⟩), .nilIface]) ∧ w.heap.size ≤ d ∧ DrawAt w' d c n (sumTo W n) (dend n W) ∧ Below w.heap.size w w' := by
  have T := together_fine b off n cap W w hI hW h0
  have F := fill_of b off n cap W w hI hb hW
  clear h0 hI
  go_enter Tryd.func50, Tryd.ntmps50
  go_wp2_with (first | (go_at_call 81; refine T.mono ?_; rintro e w1 ⟨rfl, rfl⟩) | (go_at_call 82; refine F.mono ?_; rintro e w1 ⟨c, rfl, hc, hcol, hB⟩))
  go_ret2
  have hs := hB.size
  refine ⟨_, _, rfl, hs, ⟨cell_new _ _ _ _ _ _ rfl rfl, cell_new _ _ _ _ _ _ rfl rfl, fun k hk => ?_, fun k hk => ?_⟩, hB.alloc hs _⟩
  · rw [World.cell?_alloc_lt _ _ _ (cell_lt (hcol k hk).1)]; exact (hcol k hk).1
  · rw [World.cell?_alloc_lt _ _ _ (cell_lt (hcol k hk).2)]; exact (hcol k hk).2

/-! the closed fact -/
def two : Nat → Int := fun i => if i = 0 then 1 else 3
theorem two_weights : Weights 2 two := ⟨by omega, by omega, fun k hk => by unfold two; split <;> omega⟩
theorem two_sum : sumTo two 2 = 4 := by decide
theorem two_pick : (dend 2 two).pick 0 2 = 1 := by decide
theorem two_ints (w : World) (t : TypeId) : Ints (w.alloc (.cells #[.int .i64 1, .int .i64 3] t)) w.heap.size 0 2 two := fun i hi => by
  have : i = 0 ∨ i = 1 := by omega
  rcases this with rfl | rfl
  · exact cell_new _ _ _ _ _ _ rfl rfl
  · exact cell_new _ _ _ _ _ _ rfl rfl
set_option maxRecDepth 100000 in
set_option maxHeartbeats 1000000 in
theorem drawn_of (w : World) : Calls Tryd.prog 49 #[] w fun e w' => e = .returned (.bool true) ∧ Below w.heap.size w w' := by
  have N := new_fine w.heap.size 0 2 2 two _ (two_ints w 3) (by simp) two_weights (by rw [two_sum]; omega)
  rw [two_sum] at N
  go_enter Tryd.func49, Tryd.ntmps49
  go_wp2_with fail
  refine N.mono ?_
  rintro e w1 ⟨d, c, rfl, hd, D, hB⟩
  have hB1 : Below w.heap.size w w1 := ((Below.refl _ _).alloc (Nat.le_refl _) _).trans (hB.mono (by simp))
  have P := draw_pick_yes d c 2 0 2 4 (dend 2 two) w1 D (by omega) (by omega) (by omega)
  rw [two_pick] at P
  clear N hB
  go_wp2_with (first | (go_at_call 54; refine (draw_height d c 2 4 _ _ D).mono ?_; rintro e w' ⟨rfl, rfl⟩) | (go_at_call 55; refine (draw_columns d c 2 4 _ _ D).mono ?_; rintro e w' ⟨rfl, rfl⟩) | (go_at_call 57; refine P.mono ?_; rintro e w2 ⟨rfl, hB2⟩))
  go_ret
  exact ⟨rfl, hB1.trans (hB2.mono hB1.size)⟩
end Go.Proofs.YtlhffdmhbplpjaaDoor
