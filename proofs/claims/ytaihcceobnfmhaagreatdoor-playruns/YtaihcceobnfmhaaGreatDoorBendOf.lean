/-
  bakehouseref1.BendOf by its contract: a bend's height as the document tells it.
-/
import Derived.Test.YtaihcceobnfmhaaGreatDoorBend4X
namespace Go.Proofs.YtaihcceobnfmhaaGreatDoor
open Go.RowKit

theorem fall_eq (n w : Int) (hw : 0 < w) : (-n) / w = -((n + w - 1) / w) := by
  have a := Int.mul_ediv_add_emod (n + w - 1) w
  have b := Int.emod_nonneg (n + w - 1) (Int.ne_of_gt hw)
  have c := Int.emod_lt_of_pos (n + w - 1) hw
  generalize (n + w - 1) / w = q at *
  generalize (n + w - 1) % w = r at *
  rw [Int.mul_comm] at a
  have h1 : -q ≤ -n / w := by rw [Int.le_ediv_iff_mul_le hw, Int.neg_mul]; omega
  have h2 : -n / w < -q + 1 := by rw [Int.ediv_lt_iff_lt_mul hw, Int.add_mul, Int.neg_mul]; omega
  omega
theorem seg_fall (px py qx qy x : Int) (hx : px < qx) : seg px py qx qy x = py - ((py - qy) * (x - px) + (qx - px) - 1) / (qx - px) := by
  unfold seg
  have e : (qy - py) * (x - px) = -((py - qy) * (x - px)) := by rw [← Int.neg_mul]; congr 1; omega
  rw [e, fall_eq _ _ (by omega)]
  omega

set_option maxRecDepth 100000 in
set_option maxHeartbeats 4000000 in
theorem bendOf_last (b off len cap : Nat) (X Y : Nat → Int) (x : Int) (w : World) (h2 : 2 ≤ len) (h8 : len ≤ 8) (hP : Pts w b off len X Y) (hx : ∀ j, j < len → X j ≤ x) :
    Calls Tryz.prog 174 #[.slice (some ⟨b, off, none⟩) len cap, .int .i64 x] w fun e w' => e = .returned (.int .i64 (Y (len - 1))) ∧ Below w.heap.size w w' := by
  obtain ⟨c0, c1⟩ := hP 0 (by omega)
  simp only [Nat.zero_mul, Nat.add_zero] at c0 c1
  have hx0 := hx 0 (by omega)
  go_enter Tryz.func174, Tryz.ntmps174
  go_wp2
  clear c0 c1 hx0
  go_loop [5] (fun i => ∃ k : Nat, 1 ≤ k ∧ k ≤ len ∧ i = .int .i64 k) (fun i => len - (intOf i).toNat)
  case atStart => exact ⟨1, by omega, by omega, rfl⟩
  case round =>
    obtain ⟨k, hk1, hk, rfl⟩ := hrel
    by_cases hlt : k < len
    · have c0 := (hP k hlt).1
      have hxk := hx k hlt
      clear hP hx
      go_wp2
      go_round
      case rel => exact ⟨k + 1, by omega, by omega, by go_num⟩
      case measure => simp [intOf]; omega
    · obtain ⟨_, d1⟩ := hP (len - 1) (by omega)
      clear hP hx
      go_wp2
      go_ret
      exact ⟨rfl, Below.refl _ _⟩

set_option maxRecDepth 100000 in
set_option maxHeartbeats 4000000 in
theorem bendOf_mid (b off len cap i : Nat) (X Y : Nat → Int) (x : Int) (w : World) (hb : b < w.heap.size) (h8 : len ≤ 8) (hP : Pts w b off len X Y) (hG : ∀ i, i < len → Good X Y i) (hi : i + 1 < len) (hx : ∀ j, j ≤ i → X j ≤ x) (hx1 : x < X (i + 1)) :
    Calls Tryz.prog 174 #[.slice (some ⟨b, off, none⟩) len cap, .int .i64 x] w fun e w' => e = .returned (.int .i64 (seg (X i) (Y i) (X (i + 1)) (Y (i + 1)) x)) ∧ Below w.heap.size w w' := by
  obtain ⟨c0, c1⟩ := hP 0 (by omega)
  simp only [Nat.zero_mul, Nat.add_zero] at c0 c1
  have hx0 := hx 0 (by omega)
  go_enter Tryz.func174, Tryz.ntmps174
  go_wp2
  clear c0 c1 hx0
  go_loop [5] (fun j => ∃ k : Nat, 1 ≤ k ∧ k ≤ i + 1 ∧ j = .int .i64 k) (fun i => len - (intOf i).toNat)
  case atStart => exact ⟨1, by omega, by omega, rfl⟩
  case round =>
    obtain ⟨k, hk1, hk, rfl⟩ := hrel
    have hlen : k < len := by omega
    by_cases hlt : k < i + 1
    · have c0 := (hP k hlen).1
      have hxk := hx k (by omega)
      clear hP hx hG
      go_wp2
      go_round
      case rel => exact ⟨k + 1, by omega, by omega, by go_num⟩
      case measure => simp [intOf]; omega
    · obtain rfl : k = i + 1 := by omega
      obtain ⟨g1, g2, g3, g4, _⟩ := hG i (by omega)
      obtain ⟨k1, k2, k3, k4, _⟩ := hG (i + 1) hi
      obtain ⟨d0, d1⟩ := hP (i + 1) hi
      obtain ⟨f0, f1⟩ := hP i (by omega)
      have hxi := hx i (Nat.le_refl _)
      have sf := seg_fall (X i) (Y i) (X (i + 1)) (Y (i + 1)) x (by omega)
      have hil : i < len := by omega
      have hwz : ¬ X (i + 1) - X i = 0 := by omega
      clear hP hx hG
      by_cases hy : Y i ≤ Y (i + 1)
      · obtain ⟨m0, m1⟩ := mul_bd (Y (i + 1) - Y i) (x - X i) (by omega) (by omega) (by omega) (by omega)
        have m2 : 0 ≤ (Y (i + 1) - Y i) * (x - X i) := Int.mul_nonneg (by omega) (by omega)
        obtain ⟨b0, b1⟩ := quo_bd ((Y (i + 1) - Y i) * (x - X i)) (X (i + 1) - X i) (by omega) m0 m1
        clear sf
        go_wp2
        go_quiet (fail)
        go_wp2
        go_quiet (fail)
        go_wp2
        go_quiet (fail)
        go_wp2
        go_ret
        exact ⟨rfl, below_drewN (below_drewN (below_drewN ((Below.refl _ _).alloc (Nat.le_refl _) _) _) _) _⟩
      · obtain ⟨m0, m1⟩ := mul_bd (Y i - Y (i + 1)) (x - X i) (by omega) (by omega) (by omega) (by omega)
        have m2 : 0 ≤ (Y i - Y (i + 1)) * (x - X i) := Int.mul_nonneg (by omega) (by omega)
        have n1 : (Y i - Y (i + 1)) * (x - X i) + (X (i + 1) - X i) - 1 ≤ 1000000000000 := by
          have : (Y i - Y (i + 1)) * (x - X i) ≤ 1000000 * (x - X i) := Int.mul_le_mul_of_nonneg_right (by omega) (by omega)
          omega
        obtain ⟨b0, b1⟩ := quo_bd ((Y i - Y (i + 1)) * (x - X i) + (X (i + 1) - X i) - 1) (X (i + 1) - X i) (by omega) (by omega) n1
        have SF := hide sf
        clear sf
        go_wp2
        go_quiet (fail)
        go_wp2
        go_quiet (fail)
        go_wp2
        go_quiet (fail)
        go_wp2
        go_ret
        exact ⟨by rw [SF.out]; rfl, below_drewN (below_drewN (below_drewN ((Below.refl _ _).alloc (Nat.le_refl _) _) _) _) _⟩
end Go.Proofs.YtaihcceobnfmhaaGreatDoor
