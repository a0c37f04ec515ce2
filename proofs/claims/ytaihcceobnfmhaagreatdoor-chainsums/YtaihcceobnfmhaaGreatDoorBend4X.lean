/-
  part.floor, part.between, part.Bend and bakehouseref1.BendOf by their contracts.
  The bend of what is issued: its four points, laid one behind another, and its value.
-/
import Derived.Test.YtaihcceobnfmhaaGreatDoorBends
import Derived.Deep.RegionWith
import Derived.Test.YtaihcceobnfmhaaGreatDoorAidX
namespace Go.Proofs.YtaihcceobnfmhaaGreatDoor
open Go.RowKit

/-- Go's division, mended, is the floor. -/
theorem floor_neg (n d : Int) (hd : 0 < d) (h : n.tmod d < 0) : n.tdiv d - 1 = n / d := by
  have e := Int.mul_tdiv_add_tmod n d
  have b : -d < n.tmod d := by
    rcases Int.lt_or_le n 0 with hn | hn
    · have := Int.tmod_lt_of_pos (-n) hd
      rw [Int.neg_tmod] at this
      omega
    · have := Int.tmod_nonneg d hn
      omega
  generalize n.tdiv d = q at *
  generalize n.tmod d = m at *
  symm
  rw [← e, Int.mul_add_ediv_left _ _ (Int.ne_of_gt hd)]
  have : m / d = -1 := by
    have a1 : m / d < 0 := by rw [Int.ediv_lt_iff_lt_mul hd]; omega
    have a2 : -1 ≤ m / d := by rw [Int.le_ediv_iff_mul_le hd]; omega
    omega
  omega
theorem floor_pos (n d : Int) (hd : 0 < d) (h : ¬ n.tmod d < 0) : n.tdiv d = n / d := by
  have e := Int.mul_tdiv_add_tmod n d
  have b : n.tmod d < d := Int.tmod_lt_of_pos n hd
  generalize n.tdiv d = q at *
  generalize n.tmod d = m at *
  symm
  rw [← e, Int.mul_add_ediv_left _ _ (Int.ne_of_gt hd), Int.ediv_eq_zero_of_lt (by omega) b]
  omega

theorem quo_bd (n d : Int) (hd : 0 < d) (h0 : -1000000000000 ≤ n) (h1 : n ≤ 1000000000000) : -1000000000000 ≤ n / d ∧ n / d ≤ 1000000000000 := by
  refine ⟨?_, ?_⟩
  · rw [Int.le_ediv_iff_mul_le hd]
    have : -1000000000000 * d ≤ -1000000000000 * 1 := Int.mul_le_mul_of_nonpos_left (by omega) (by omega)
    omega
  · have : n / d < 1000000000001 := by
      rw [Int.ediv_lt_iff_lt_mul hd]
      have : 1000000000001 * 1 ≤ 1000000000001 * d := Int.mul_le_mul_of_nonneg_left (by omega) (by omega)
      omega
    omega

set_option maxHeartbeats 400000 in
theorem floor_calls (n d : Int) (hd : 0 < d) (hd1 : d ≤ 1000000) (h0 : -1000000000000 ≤ n) (h1 : n ≤ 1000000000000) (w : World) :
    Calls Tryz.prog 169 #[.int .i64 n, .int .i64 d] w fun e w' => e = .returned (.int .i64 (n / d)) ∧ w' = w := by
  have hz : ¬ d = 0 := by omega
  obtain ⟨b0, b1⟩ := quo_bd n d hd h0 h1
  by_cases hn : 0 ≤ n
  · have m := Int.emod_nonneg n hz
    go_enter Tryz.func169, Tryz.ntmps169
    go_wp2
    go_ret
    exact ⟨rfl, rfl⟩
  · by_cases hm : n.tmod d < 0
    · have e := floor_neg n d hd hm
      go_enter Tryz.func169, Tryz.ntmps169
      go_wp2
      go_ret
      exact ⟨rfl, rfl⟩
    · have e := floor_pos n d hd hm
      go_enter Tryz.func169, Tryz.ntmps169
      go_wp2
      go_ret
      exact ⟨rfl, rfl⟩

/-- a bend's height between two points -/
def seg (px py qx qy x : Int) : Int := py + (qy - py) * (x - px) / (qx - px)
theorem mul_bd (a b : Int) (a0 : -1000000 ≤ a) (a1 : a ≤ 1000000) (b0 : 0 ≤ b) (b1 : b ≤ 1000000) : -1000000000000 ≤ a * b ∧ a * b ≤ 1000000000000 := by
  have h1 : a * b ≤ 1000000 * b := Int.mul_le_mul_of_nonneg_right a1 b0
  have h2 : -1000000 * b ≤ a * b := Int.mul_le_mul_of_nonneg_right a0 b0
  omega

set_option maxHeartbeats 1000000 in
theorem between_calls (px py qx qy x : Int) (p0 : 0 ≤ px) (p1 : px ≤ x) (p2 : x < qx) (p3 : qx ≤ 1000000) (y0 : 0 ≤ py) (y1 : py ≤ 1000000) (z0 : 0 ≤ qy) (z1 : qy ≤ 1000000) (w : World) :
    Calls Tryz.prog 120 #[.agg #[.int .i64 px, .int .i64 py], .agg #[.int .i64 qx, .int .i64 qy], .int .i64 x] w fun e w' => e = .returned (.int .i64 (seg px py qx qy x)) ∧ Below w.heap.size w w' := by
  obtain ⟨m0, m1⟩ := mul_bd (qy - py) (x - px) (by omega) (by omega) (by omega) (by omega)
  obtain ⟨b0, b1⟩ := quo_bd ((qy - py) * (x - px)) (qx - px) (by omega) m0 m1
  have f := floor_calls ((qy - py) * (x - px)) (qx - px) (by omega) (by omega) m0 m1
  go_enter Tryz.func120, Tryz.ntmps120
  go_wp2
  go_quiet ((go_at_call 169; exact Calls.quiet_of_same (f _)))
  go_wp2
  go_ret
  exact ⟨rfl, below_drewN (((Below.refl _ _).alloc (Nat.le_refl _) _).alloc (by simp) _) _⟩

set_option maxRecDepth 100000 in
set_option maxHeartbeats 2000000 in
theorem bend_first (b off len cap : Nat) (X Y : Nat → Int) (x : Int) (w : World) (hb : b < w.heap.size) (h2 : 2 ≤ len) (h8 : len ≤ 8) (hP : Pts w b off len X Y) (hG : ∀ i, i < len → Good X Y i) (x0 : 0 ≤ x) (x1 : x ≤ 1000000) (hx : x < X 0) :
    Calls Tryz.prog 63 #[.slice (some ⟨b, off, none⟩) len cap, .int .i64 x] w fun e w' => e = .returned (.tuple #[.int .i64 (Y 0), .nilIface]) ∧ Below w.heap.size w w' := by
  have ck := check_fine b off len cap X Y w hb h2 h8 hP hG
  go_enter Tryz.func63, Tryz.ntmps63
  go_wp2_with fail
  refine ck.mono ?_
  rintro e w1 ⟨rfl, hB⟩
  have hP1 := hP.below hB hb
  obtain ⟨c0, c1⟩ := hP1 0 (by omega)
  simp only [Nat.zero_mul, Nat.add_zero] at c0 c1
  clear hP hG hP1
  go_wp2
  go_ret2
  exact ⟨rfl, hB⟩

set_option maxRecDepth 100000 in
set_option maxHeartbeats 2000000 in
theorem bend_last (b off len cap : Nat) (X Y : Nat → Int) (x : Int) (w : World) (hb : b < w.heap.size) (h2 : 2 ≤ len) (h8 : len ≤ 8) (hcap : len ≤ cap) (hP : Pts w b off len X Y) (hG : ∀ i, i < len → Good X Y i) (x0 : 0 ≤ x) (x1 : x ≤ 1000000) (hx : ∀ j, j < len → X j ≤ x) :
    Calls Tryz.prog 63 #[.slice (some ⟨b, off, none⟩) len cap, .int .i64 x] w fun e w' => e = .returned (.tuple #[.int .i64 (Y (len - 1)), .nilIface]) ∧ Below w.heap.size w w' := by
  have ck := check_fine b off len cap X Y w hb h2 h8 hP hG
  go_enter Tryz.func63, Tryz.ntmps63
  go_wp2_with fail
  refine ck.mono ?_
  rintro e w1 ⟨rfl, hB⟩
  have hP1 := hP.below hB hb
  have hb1 : b < w1.heap.size := Nat.lt_of_lt_of_le hb hB.size
  obtain ⟨c0, c1⟩ := hP1 0 (by omega)
  simp only [Nat.zero_mul, Nat.add_zero] at c0 c1
  have hX0 := hx 0 (by omega)
  clear hP hG
  go_wp2
  go_loopw [31] (fun i w' => ∃ k : Nat, k + 1 ≤ len ∧ i = .int .i64 k ∧ Below w.heap.size w w' ∧ Below w1.heap.size w1 w') (fun i _ => len - (intOf i).toNat)
  case atStart => exact ⟨0, by omega, rfl, hB, Below.refl _ _⟩
  case round =>
    obtain ⟨k, hk, rfl, hB', hB1⟩ := hrel
    have hsz := hB'.size
    have hsz1 := hB1.size
    have hP2 := hP1.below hB1 hb1
    have hbr : b < wr.heap.size := Nat.lt_of_lt_of_le hb hsz
    by_cases hlt : k < len - 1
    · obtain ⟨d0, d1⟩ := hP2 (k + 1) (by omega)
      have e : off + (k + 1) * 2 = off + 2 + k * 2 := by omega
      rw [e] at d0 d1
      have hxk := hx (k + 1) (by omega)
      clear hx hP1 hP2 c0 c1 hX0 e
      go_wp2
      go_roundw
      case rel => exact ⟨k + 1, by omega, by go_num, hB'.alloc hsz _, hB1.alloc hsz1 _⟩
      case measure => simp [intOf]; omega
    · obtain ⟨_, d1⟩ := hP2 (len - 1) (by omega)
      clear hx hP1 hP2 c0 c1 hX0
      go_wp2
      go_ret2
      exact ⟨rfl, hB'⟩

set_option maxRecDepth 100000 in
set_option maxHeartbeats 2000000 in
theorem bend_mid (b off len cap i : Nat) (X Y : Nat → Int) (x : Int) (w : World) (hb : b < w.heap.size) (h2 : 2 ≤ len) (h8 : len ≤ 8) (hcap : len ≤ cap) (hP : Pts w b off len X Y) (hG : ∀ i, i < len → Good X Y i) (x0 : 0 ≤ x) (x1 : x ≤ 1000000) (hi : i + 1 < len) (hx : ∀ j, j ≤ i → X j ≤ x) (hx1 : x < X (i + 1)) :
    Calls Tryz.prog 63 #[.slice (some ⟨b, off, none⟩) len cap, .int .i64 x] w fun e w' => e = .returned (.tuple #[.int .i64 (seg (X i) (Y i) (X (i + 1)) (Y (i + 1)) x), .nilIface]) ∧ Below w.heap.size w w' := by
  have ck := check_fine b off len cap X Y w hb h2 h8 hP hG
  obtain ⟨g1, g2, g3, g4, _⟩ := hG i (by omega)
  obtain ⟨k1, k2, k3, k4, _⟩ := hG (i + 1) hi
  have bt := between_calls (X i) (Y i) (X (i + 1)) (Y (i + 1)) x g1 (hx i (Nat.le_refl _)) hx1 k2 g3 g4 k3 k4
  go_enter Tryz.func63, Tryz.ntmps63
  go_wp2_with fail
  refine ck.mono ?_
  rintro e w1 ⟨rfl, hB⟩
  have hP1 := hP.below hB hb
  have hb1 : b < w1.heap.size := Nat.lt_of_lt_of_le hb hB.size
  obtain ⟨c0, c1⟩ := hP1 0 (by omega)
  simp only [Nat.zero_mul, Nat.add_zero] at c0 c1
  have hX0 := hx 0 (by omega)
  clear hP hG
  go_wp2
  go_loopw [31] (fun j w' => ∃ k : Nat, k ≤ i ∧ j = .int .i64 k ∧ Below w.heap.size w w' ∧ Below w1.heap.size w1 w') (fun i _ => len - (intOf i).toNat)
  case atStart => exact ⟨0, by omega, rfl, hB, Below.refl _ _⟩
  case round =>
    obtain ⟨k, hk, rfl, hB', hB1⟩ := hrel
    have hsz := hB'.size
    have hsz1 := hB1.size
    have hP2 := hP1.below hB1 hb1
    have hbr : b < wr.heap.size := Nat.lt_of_lt_of_le hb hsz
    have hin : k < len - 1 := by omega
    by_cases hlt : k < i
    · obtain ⟨d0, d1⟩ := hP2 (k + 1) (by omega)
      have e : off + (k + 1) * 2 = off + 2 + k * 2 := by omega
      rw [e] at d0 d1
      have hxk := hx (k + 1) (by omega)
      clear hx hP1 hP2 c0 c1 hX0 e bt hx1
      go_wp2
      go_roundw
      case rel => exact ⟨k + 1, by omega, by go_num, hB'.alloc hsz _, hB1.alloc hsz1 _⟩
      case measure => simp [intOf]; omega
    · obtain rfl : k = i := by omega
      obtain ⟨d0, d1⟩ := hP2 (k + 1) (by omega)
      obtain ⟨f0, f1⟩ := hP2 k (by omega)
      have e : off + (k + 1) * 2 = off + 2 + k * 2 := by omega
      rw [e] at d0 d1
      have hlen : k < len := by omega
      clear hx hP1 hP2 c0 c1 hX0 e
      go_wp2
      go_region_with (go_at_call 120; refine (bt _).mono ?_; rintro e w2 ⟨rfl, hB2⟩)
      all_goals go_wp2
      all_goals go_ret2
      all_goals refine ⟨rfl, Below.trans ?_ (hB2.mono ?_)⟩
      all_goals first | exact (hB'.alloc hsz _).drew | (simp; omega)

/-! the document's answer -/
set_option maxRecDepth 100000 in
set_option maxHeartbeats 2000000 in
theorem bendOf_first (b off len cap : Nat) (X Y : Nat → Int) (x : Int) (w : World) (h2 : 2 ≤ len) (h8 : len ≤ 8) (hP : Pts w b off len X Y) (hx : x < X 0) :
    Calls Tryz.prog 174 #[.slice (some ⟨b, off, none⟩) len cap, .int .i64 x] w fun e w' => e = .returned (.int .i64 (Y 0)) ∧ Below w.heap.size w w' := by
  obtain ⟨c0, c1⟩ := hP 0 (by omega)
  simp only [Nat.zero_mul, Nat.add_zero] at c0 c1
  clear hP
  go_enter Tryz.func174, Tryz.ntmps174
  go_wp2
  go_ret
  exact ⟨rfl, Below.refl _ _⟩
end Go.Proofs.YtaihcceobnfmhaaGreatDoor

namespace Go.Proofs.YtaihcceobnfmhaaGreatDoor
open Go.RowKit

def X4 : Nat → Int | 0 => 0 | 1 => 250000 | 2 => 500000 | _ => 1000000
def Y4 : Nat → Int | 0 => 40000 | 1 => 20000 | 2 => 10000 | _ => 5000
abbrev four4 : Array Value := #[.int .i64 0, .int .i64 40000, .int .i64 250000, .int .i64 20000, .int .i64 500000, .int .i64 10000, .int .i64 1000000, .int .i64 5000]
theorem good4 : ∀ i, i < 4 → Good X4 Y4 i := fun i hi => by
  have : i = 0 ∨ i = 1 ∨ i = 2 ∨ i = 3 := by omega
  rcases this with rfl | rfl | rfl | rfl <;> (unfold Good X4 Y4; simp)
theorem pts4 (w : World) (t : TypeId) : Pts (w.alloc (.cells four4 t)) w.heap.size 0 4 X4 Y4 := fun i hi => by
  have : i = 0 ∨ i = 1 ∨ i = 2 ∨ i = 3 := by omega
  rcases this with rfl | rfl | rfl | rfl <;> exact ⟨cell_new _ _ _ _ _ _ rfl rfl, cell_new _ _ _ _ _ _ rfl rfl⟩
/-- where a ratio lies on it -/
theorem at4 {r : Int} (h0 : 0 ≤ r) (h1 : r ≤ 1000000) : ((∀ j, j < 4 → X4 j ≤ r) ∧ Y4 3 = bendR r) ∨ ∃ i : Nat, i + 1 < 4 ∧ (∀ j, j ≤ i → X4 j ≤ r) ∧ r < X4 (i + 1) ∧ seg (X4 i) (Y4 i) (X4 (i + 1)) (Y4 (i + 1)) r = bendR r := by
  by_cases a : r < 250000
  · refine .inr ⟨0, by omega, fun j hj => ?_, a, ?_⟩
    · obtain rfl : j = 0 := by omega
      exact h0
    · show (40000 : Int) + (20000 - 40000) * (r - 0) / (250000 - 0) = _
      unfold bendR
      rw [if_pos a, Int.sub_zero, Int.sub_zero]
      rfl
  · by_cases b : r < 500000
    · refine .inr ⟨1, by omega, fun j hj => ?_, b, ?_⟩
      · have : j = 0 ∨ j = 1 := by omega
        rcases this with rfl | rfl
        · exact h0
        · show (250000 : Int) ≤ r; omega
      · show (20000 : Int) + (10000 - 20000) * (r - 250000) / (500000 - 250000) = _
        unfold bendR
        rw [if_neg a, if_pos b]
        rfl
    · by_cases c : r < 1000000
      · refine .inr ⟨2, by omega, fun j hj => ?_, c, ?_⟩
        · have : j = 0 ∨ j = 1 ∨ j = 2 := by omega
          rcases this with rfl | rfl | rfl
          · exact h0
          · show (250000 : Int) ≤ r; omega
          · show (500000 : Int) ≤ r; omega
        · show (10000 : Int) + (5000 - 10000) * (r - 500000) / (1000000 - 500000) = _
          unfold bendR
          rw [if_neg a, if_neg b, if_pos c]
          rfl
      · refine .inl ⟨fun j hj => ?_, ?_⟩
        · have : j = 0 ∨ j = 1 ∨ j = 2 ∨ j = 3 := by omega
          rcases this with rfl | rfl | rfl | rfl
          · exact h0
          · show (250000 : Int) ≤ r; omega
          · show (500000 : Int) ≤ r; omega
          · show (1000000 : Int) ≤ r; omega
        · unfold bendR
          rw [if_neg a, if_neg b, if_neg c]
          rfl
end Go.Proofs.YtaihcceobnfmhaaGreatDoor
