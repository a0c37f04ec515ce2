/-
  The law RightPicture, walked: for every slice of acts it returns true.
-/
import Derived.Test.YtileplhjbnmgnabGreatDoorStkAct
import Derived.Test.YtileplhjbnmgnabGreatDoorRightX
import Derived.Test.YtileplhjbnmgnabGreatDoorProgPict
import Derived.Test.YtileplhjbnmgnabGreatDoorRefPicture
import Derived.Test.YtileplhjbnmgnabGreatDoorStakedX
namespace Go.Proofs.YtileplhjbnmgnabGreatDoor
open Go.RowKit

set_option maxRecDepth 100000 in
set_option maxHeartbeats 4000000 in
theorem rightPicture_walk (b off len cap : Nat) (A : Nat → Addr) (w : World) (hL : Laid w A) (a0 : Option Addr) (hb : len ≠ 0 → a0 = some ⟨b, off, none⟩ ∧ b < w.heap.size) (h60 : len ≤ 60) (hA : Acts2 w b off len) :
    Calls Tryz.prog 4 #[.slice a0 len cap] w fun e w' => e = .returned (.bool true) ∧ Below w.heap.size w w' := by
  go_enter Tryz.func4, Tryz.ntmps4
  go_wp2_with fail
  refine (entitled_of w).mono ?_
  rintro e w1 ⟨rfl, hB1⟩
  go_wp2_with fail
  refine (ps_new _).mono ?_
  rintro e w2 ⟨sb, F2, rfl, hP2, hf2, hB2⟩
  have M2 : Sides w.heap.size w w2 F2 (fun _ => False) := ⟨fun _ _ g => g, fun k hk => Nat.le_trans hB1.size (hf2 k hk), fun _ g => g.elim, hB1.trans (hB2.mono hB1.size), Nat.le_trans hB1.size hB2.size⟩
  clear hB1 hB2 hf2
  go_wp2_with fail
  refine (rs_new _).mono ?_
  rintro e w3 ⟨rb, G3, rfl, hR3, hg3, _, hB3⟩
  have hP3 := hP2.nextB hB3
  have hW3 : Sides w.heap.size w w3 F2 G3 := ⟨fun k hk hg => by have := hP2.lt k hk; have := hg3 k hg; omega, M2.f, fun k hk => Nat.le_trans M2.size (hg3 k hk), M2.below.trans (hB3.mono M2.size), Nat.le_trans M2.size hB3.size⟩
  clear hB3 hP2 M2 hg3
  go_wp2_with fail
  go_loopw [6] (fun i w' => ∃ k : Nat, k ≤ len ∧ i = .int .i64 k ∧ Both w.heap.size w w' sb rb (4 * k) k) (fun i _ => len - (intOf i).toNat)
  case atStart => exact ⟨0, Nat.zero_le _, rfl, F2, G3, _, Sk.none_ok, Nat.le_refl _, hP3, hR3, hW3⟩
  case round =>
    obtain ⟨k, hk, rfl, F, G, S, hS, hl, hP, hR, hW⟩ := hrel
    clear hP3 hR3 hW3
    by_cases hlt : k < len
    · obtain ⟨ea, zb⟩ := hb (by omega)
      subst ea
      obtain ⟨K, O, C, N, Y, a⟩ := hA.below hW.below zb k hlt
      have a0 := a.c0
      have a1 := a.c1
      have a2 := a.c2
      have a3 := a.c3
      have a4 := a.c4
      clear hb
      go_wp2_with fail
      refine (act_of w F G sb rb S hS (4 * k) (by omega) (by omega) K O C N Y a.wO a.wY A wr hL hP hR hW).mono ?_
      rintro e w4 ⟨rfl, F4, G4, S4, hS4, hl4, hP4, hR4, hW4⟩
      have hl5 : S4.K.length ≤ k + 1 := by omega
      clear hP hR hW hS hl hl4 a0 a1 a2 a3 a4 a
      go_wp2_with fail
      refine (pr_picture F4 sb S4 hS4 _ w4 hP4).mono ?_
      rintro e w5 ⟨m1, c1, rfl, z1, hI1, hB5⟩
      have hP5 := hP4.nextB hB5
      have hR5 := hR4.nextB hB5
      have hW5 := hW4.nextB hB5
      clear hP4 hR4 hW4 hB5
      go_wp2_with fail
      refine (rk_picture G4 rb S4 hS4 w5 hR5).mono ?_
      rintro e w6 ⟨m2, c2, rfl, z2, hI2, hB6⟩
      have hP6 := hP5.nextB hB6
      have hR6 := hR5.nextB hB6
      have hW6 := hW5.nextB hB6
      have hJ : Ints w6 m1 0 3 S4.pic := fun i hi => by rw [hB6.cell (p := ⟨m1, 0 + i, none⟩) z1.2]; exact hI1 i hi
      clear hP5 hR5 hW5 hB6 hI1
      go_wp2_with fail
      refine (same_three m1 m2 c1 c2 S4.pic w6 hJ hI2).mono ?_
      rintro e w7 ⟨rfl, m, hw⟩
      have hP7 := (by rw [hw]; exact hP6.drewN m : PSk F4 w7 sb S4 (4 * k + 4))
      have hR7 := (by rw [hw]; exact hR6.drewN m : RSk G4 w7 rb S4)
      have hW7 := (by rw [hw]; exact hW6.drewN m : Sides w.heap.size w w7 F4 G4)
      clear hP6 hR6 hW6 hw hJ hI2
      go_wp2_with fail
      go_roundw
      case rel => exact ⟨k + 1, by omega, by go_num, F4, G4, S4, hS4, hl5, by rw [Nat.mul_add]; exact hP7, hR7, hW7⟩
      case measure => simp [intOf]; omega
    · obtain rfl : k = len := by omega
      have hB := hW.below
      clear hP hR hW
      go_wp2_with fail
      go_ret
      exact ⟨rfl, hB⟩
set_option maxRecDepth 100000 in
theorem rightPicture_many (a : Option Addr) (len cap : Nat) (h : 60 < len) (hm : len ≤ 9223372036854775807) (w : World) :
    Calls Tryz.prog 4 #[.slice a len cap] w fun e w' => e = .returned (.bool true) ∧ Below w.heap.size w w' := by
  go_enter Tryz.func4, Tryz.ntmps4
  go_wp2_with fail
  refine (entitled_of w).mono ?_
  rintro e w1 ⟨rfl, hB1⟩
  go_wp2
  go_ret
  exact ⟨rfl, hB1⟩
theorem rightPicture_any (a : Option Addr) (len cap : Nat) (A : Nat → Addr) (w : World) (hL : Laid w A) (h : IsActs2 w a len cap) :
    Calls Tryz.prog 4 #[.slice a len cap] w fun e w' => e = .returned (.bool true) ∧ Below w.heap.size w w' := by
  rcases h with rfl | ⟨b, off, rfl, hb, hl, hm, hA⟩
  · exact rightPicture_walk 0 0 0 cap A w hL a (fun g => absurd rfl g) (by omega) (fun i hi => absurd hi (Nat.not_lt_zero _))
  · by_cases h : len ≤ 60
    · exact rightPicture_walk b off len cap A w hL _ (fun _ => ⟨rfl, hb⟩) h hA
    · exact rightPicture_many _ len cap (by omega) (by omega) w
end Go.Proofs.YtileplhjbnmgnabGreatDoor
