/-
  The law PartBetween, walked: for every slice of points and every two ints it returns true.
-/
import Derived.Test.YtlhffdmhbplpjaaDoorBend
import Derived.Test.YtlhffdmhbplpjaaDoorPartBackWalk
namespace Go.Proofs.YtlhffdmhbplpjaaDoor
open Go.RowKit

/-- the first point that is none, if there is one -/
theorem first_bad (X Y : Nat → Int) : ∀ m : Nat, (∀ i, i < m → Good X Y i) ∨ ∃ k, k < m ∧ (∀ i, i < k → Good X Y i) ∧ (¬ OnScale X Y k ∨ (OnScale X Y k ∧ 0 < k ∧ X k ≤ X (k - 1)))
  | 0 => Or.inl fun i h => absurd h (Nat.not_lt_zero i)
  | m + 1 => by
    rcases first_bad X Y m with h | ⟨k, hk, h1, h2⟩
    · by_cases ho : OnScale X Y m
      · by_cases hr : 0 < m ∧ X m ≤ X (m - 1)
        · exact Or.inr ⟨m, by omega, h, Or.inr ⟨ho, hr.1, hr.2⟩⟩
        · refine Or.inl fun i hi => ?_
          rcases Nat.lt_or_ge i m with hm | hm
          · exact h i hm
          · obtain rfl : i = m := by omega
            exact ⟨ho.1, ho.2.1, ho.2.2.1, ho.2.2.2, fun h0 => by omega⟩
      · exact Or.inr ⟨m, by omega, h, Or.inl ho⟩
    · exact Or.inr ⟨k, by omega, h1, h2⟩
theorem rising (X Y : Nat → Int) (len : Nat) (hG : ∀ i, i < len → Good X Y i) : ∀ i j, j ≤ i → i < len → X j ≤ X i
  | 0, j, h, _ => by
    have e : j = 0 := by omega
    rw [e]; exact Int.le_refl _
  | i + 1, j, h, hi => by
    rcases Nat.lt_or_ge j (i + 1) with hj | hj
    · have a := rising X Y len hG i j (by omega) (by omega)
      have b := (hG (i + 1) hi).2.2.2.2 (by omega)
      have e : i + 1 - 1 = i := by omega
      rw [e] at b
      omega
    · obtain rfl : j = i + 1 := by omega
      exact Int.le_refl _

/-! the line between two points -/
theorem seg_start (px py qx qy : Int) : seg px py qx qy px = py := by unfold seg; rw [Int.sub_self, Int.mul_zero, Int.zero_ediv]; omega
theorem seg_end (px py qx qy : Int) (h : px < qx) : seg px py qx qy qx = qy := by unfold seg; rw [Int.mul_ediv_cancel _ (by omega)]; omega
theorem seg_up (px py qx qy s t : Int) (h : px < qx) (hy : py ≤ qy) (hst : s ≤ t) : seg px py qx qy s ≤ seg px py qx qy t := by
  unfold seg
  have : (qy - py) * (s - px) ≤ (qy - py) * (t - px) := Int.mul_le_mul_of_nonneg_left (by omega) (by omega)
  have := Int.ediv_le_ediv (show 0 < qx - px by omega) this
  omega
theorem seg_down (px py qx qy s t : Int) (h : px < qx) (hy : qy ≤ py) (hst : s ≤ t) : seg px py qx qy t ≤ seg px py qx qy s := by
  unfold seg
  have : (qy - py) * (t - px) ≤ (qy - py) * (s - px) := Int.mul_le_mul_of_nonpos_left (by omega) (by omega)
  have := Int.ediv_le_ediv (show 0 < qx - px by omega) this
  omega

/-- Bend from one point to the next, both ends with it. -/
theorem bend_at (b off len cap j : Nat) (X Y : Nat → Int) (t : Int) (w : World) (hb : b < w.heap.size) (h2 : 2 ≤ len) (h8 : len ≤ 8) (hcap : len ≤ cap) (hP : Pts w b off len X Y) (hG : ∀ i, i < len → Good X Y i) (hj : j + 1 < len) (h0 : X j ≤ t) (h1 : t ≤ X (j + 1)) :
    Calls Tryd.prog 21 #[.slice (some ⟨b, off, none⟩) len cap, .int .i64 t] w fun e w' => e = .returned (.tuple #[.int .i64 (seg (X j) (Y j) (X (j + 1)) (Y (j + 1)) t), .nilIface]) ∧ Below w.heap.size w w' := by
  have r := rising X Y len hG
  have g0 := hG j (by omega)
  have g1 := hG (j + 1) hj
  have hr := g1.2.2.2.2 (by omega)
  have e1 : j + 1 - 1 = j := by omega
  rw [e1] at hr
  rcases Int.lt_or_le t (X (j + 1)) with h | h
  · exact bend_mid b off len cap j X Y t w hb h2 h8 hcap hP hG (by have := g0.1; omega) (by have := g1.2.1; omega) hj (fun i hi => by have := r j i hi (by omega); omega) h
  · obtain rfl : t = X (j + 1) := by omega
    rw [seg_end _ _ _ _ hr]
    rcases Nat.lt_or_ge (j + 2) len with h' | h'
    · have k := bend_mid b off len cap (j + 1) X Y (X (j + 1)) w hb h2 h8 hcap hP hG g1.1 g1.2.1 h' (fun i hi => r (j + 1) i hi hj) (by have := (hG (j + 2) h').2.2.2.2 (by omega); exact this)
      rw [seg_start] at k
      exact k
    · have k := bend_last b off len cap X Y (X (j + 1)) w hb h2 h8 hcap hP hG g1.1 g1.2.1 (fun i hi => r (j + 1) i (by omega) hj)
      have e2 : len - 1 = j + 1 := by omega
      rw [e2] at k
      exact k

theorem field_code (x y : Int) (w : World) : (Instr.field 41 (.agg #[.int .i64 x, .int .i64 y]) 0).run Tryd.prog w = .ok (.int .i64 x) w := by kernel_rfl
theorem field_at (x y : Int) (w : World) : (Instr.field 41 (.agg #[.int .i64 x, .int .i64 y]) 1).run Tryd.prog w = .ok (.int .i64 y) w := by kernel_rfl

set_option maxRecDepth 100000 in
set_option maxHeartbeats 2000000 in
/-- where the law has nothing to ask: too many points -/
theorem between_many (a : Option Addr) (len cap : Nat) (k x : Int) (w : World) (h : 30 < len) (hm : len ≤ 9223372036854775807) :
    Calls Tryd.prog 6 #[.slice a len cap, .int .i64 k, .int .i64 x] w fun e w' => e = .returned (.bool true) ∧ Below w.heap.size w w' := by
  go_enter Tryd.func6, Tryd.ntmps6
  go_wp2_with (go_at_call 18; refine (parted_yes _).mono ?_; rintro e w' ⟨rfl, n, rfl⟩)
  go_ret
  exact ⟨rfl, below_drewN (Below.refl _ _) _⟩
set_option maxRecDepth 100000 in
set_option maxHeartbeats 2000000 in
/-- no bend -/
theorem between_none (a : Option Addr) (len cap : Nat) (k x : Int) (w : World) (c t : Int) (h : len ≤ 30) (hc : 0 < c)
    (bf : ∀ n, Calls Tryd.prog 22 #[.slice a len cap] (w.drewN n) fun e w' => e = .returned (.agg #[.int .i64 c, .int .i64 t]) ∧ Below (w.drewN n).heap.size (w.drewN n) w') :
    Calls Tryd.prog 6 #[.slice a len cap, .int .i64 k, .int .i64 x] w fun e w' => e = .returned (.bool true) ∧ Below w.heap.size w w' := by
  go_enter Tryd.func6, Tryd.ntmps6
  go_wp2_with fail
  refine (parted_yes _).mono ?_
  rintro e w' ⟨rfl, n, rfl⟩
  go_wp2_with fail
  refine (bf n).mono ?_
  rintro e w' ⟨rfl, hB⟩
  have fc := field_code c t
  go_wp2
  go_ret
  exact ⟨rfl, below_from hB⟩

set_option maxRecDepth 100000 in
set_option maxHeartbeats 4000000 in
/-- a bend, and nothing asked of it -/
theorem between_off (b off len cap : Nat) (X Y : Nat → Int) (k x : Int) (w : World) (hb : b < w.heap.size) (h2 : 2 ≤ len) (h8 : len ≤ 8) (hP : Pts w b off len X Y) (hG : ∀ i, i < len → Good X Y i)
    (hk : k < 1 ∨ (len : Int) ≤ k ∨ ∃ j : Nat, k = (j : Int) + 1 ∧ j + 1 < len ∧ (x < X j ∨ X (j + 1) ≤ x)) :
    Calls Tryd.prog 6 #[.slice (some ⟨b, off, none⟩) len cap, .int .i64 k, .int .i64 x] w fun e w' => e = .returned (.bool true) ∧ Below w.heap.size w w' := by
  have fc := field_code 0 (-1)
  have bf := fun n => bendFault_fine b off len cap X Y (w.drewN n) hb h2 h8 hP hG
  rcases hk with hk | hk | ⟨j, rfl, hj, hx⟩
  · clear hP hG
    go_enter Tryd.func6, Tryd.ntmps6
    go_wp2_with fail
    refine (parted_yes _).mono ?_
    rintro e w' ⟨rfl, n, rfl⟩
    go_wp2_with fail
    refine (bf n).mono ?_
    rintro e w' ⟨rfl, hB⟩
    go_wp2
    go_ret
    exact ⟨rfl, below_from hB⟩
  · have hk1 : ¬ k < 1 := by omega
    clear hP hG
    go_enter Tryd.func6, Tryd.ntmps6
    go_wp2_with fail
    refine (parted_yes _).mono ?_
    rintro e w' ⟨rfl, n, rfl⟩
    go_wp2_with fail
    refine (bf n).mono ?_
    rintro e w' ⟨rfl, hB⟩
    go_wp2
    go_ret
    exact ⟨rfl, below_from hB⟩
  · go_enter Tryd.func6, Tryd.ntmps6
    go_wp2_with fail
    refine (parted_yes _).mono ?_
    rintro e w' ⟨rfl, n, rfl⟩
    go_wp2_with fail
    refine (bf n).mono ?_
    rintro e w' ⟨rfl, hB⟩
    have hP1 : Pts w' b off len X Y := Pts.below (w := w.drewN n) hP hB hb
    have c0 := (hP1 j (by omega)).1
    have c1 := (hP1 (j + 1) hj).1
    have hj' : j < len := by omega
    clear hP hG hP1
    rcases hx with hx | hx
    · go_wp2
      go_ret
      exact ⟨rfl, below_from hB⟩
    · by_cases hx' : x < X j
      · go_wp2
        go_ret
        exact ⟨rfl, below_from hB⟩
      · go_wp2
        go_ret
        exact ⟨rfl, below_from hB⟩

set_option maxRecDepth 100000 in
set_option maxHeartbeats 4000000 in
/-- a bend, and a place between two of its points -/
theorem between_on (b off len cap j : Nat) (X Y : Nat → Int) (x : Int) (w : World) (hb : b < w.heap.size) (h2 : 2 ≤ len) (h8 : len ≤ 8) (hcap : len ≤ cap) (hP : Pts w b off len X Y) (hG : ∀ i, i < len → Good X Y i) (hj : j + 1 < len) (h0 : X j ≤ x) (h1 : x < X (j + 1)) :
    Calls Tryd.prog 6 #[.slice (some ⟨b, off, none⟩) len cap, .int .i64 ((j : Int) + 1), .int .i64 x] w fun e w' => e = .returned (.bool true) ∧ Below w.heap.size w w' := by
  have fc := field_code 0 (-1)
  have bf := fun n => bendFault_fine b off len cap X Y (w.drewN n) hb h2 h8 hP hG
  have g0 := hG j (by omega)
  have g1 := hG (j + 1) hj
  have ba := fun (t : Int) (w' : World) (hB : Below w.heap.size w w') (t0 : X j ≤ t) (t1 : t ≤ X (j + 1)) => bend_at b off len cap j X Y t w' (Nat.lt_of_lt_of_le hb hB.size) h2 h8 hcap (hP.below hB hb) hG hj t0 t1
  have hsx : 0 ≤ x ∧ x ≤ 1000000 := by have := g0.1; have := g1.2.1; omega
  go_enter Tryd.func6, Tryd.ntmps6
  go_wp2_with fail
  refine (parted_yes _).mono ?_
  rintro e w' ⟨rfl, n, rfl⟩
  go_wp2_with fail
  refine (bf n).mono ?_
  rintro e w1 ⟨rfl, hB0⟩
  have hB : Below w.heap.size w w1 := below_from hB0
  clear hB0
  have hP1 : Pts w1 b off len X Y := hP.below hB hb
  obtain ⟨c0, c1⟩ := hP1 j (by omega)
  obtain ⟨d0, d1⟩ := hP1 (j + 1) hj
  have hj' : j < len := by omega
  have hb1 : b < w1.heap.size := Nat.lt_of_lt_of_le hb hB.size
  have BA := hide ba
  clear hP hG hP1 bf ba
  have hw : X j < X (j + 1) := by omega
  have s0 := seg_start (X j) (Y j) (X (j + 1)) (Y (j + 1))
  have s1 := seg_end (X j) (Y j) (X (j + 1)) (Y (j + 1)) hw
  have up := seg_up (X j) (Y j) (X (j + 1)) (Y (j + 1))
  have down := seg_down (X j) (Y j) (X (j + 1)) (Y (j + 1))
  have hBa : ∀ o o', Below w.heap.size w ((w1.alloc o).alloc o') := fun o o' => (hB.alloc hB.size o).alloc (by have := hB.size; simp; omega) o'
  go_wp2_with fail
  have k1 := BA.out (X j) _ (hBa (.cells #[.int .i64 (X j), .int .i64 (Y j)] 49) (.cells #[.int .i64 (X (j + 1)), .int .i64 (Y (j + 1))] 49)) (Int.le_refl _) (by omega)
  rw [s0] at k1
  refine k1.mono ?_
  clear k1
  rintro e w2 ⟨rfl, hB2⟩
  have hC2 : Below w.heap.size w w2 := (hBa _ _).trans (hB2.mono (by have := hB.size; simp; omega))
  have p2 : w2.cell? ⟨w1.heap.size, 1, none⟩ = some (.int .i64 (Y j)) := by rw [hB2.cell (p := ⟨w1.heap.size, 1, none⟩) (by simp; omega)]; simp
  have q2 : w2.cell? ⟨w1.heap.size + 1, 1, none⟩ = some (.int .i64 (Y (j + 1))) := by rw [hB2.cell (p := ⟨w1.heap.size + 1, 1, none⟩) (by simp)]; simp
  have z2 : w1.heap.size + 1 < w2.heap.size := by have := hB2.size; simp at this; omega
  clear hB2 hBa hB
  go_wp2_with fail
  have k2 := BA.out x _ hC2 h0 (by omega)
  refine k2.mono ?_
  clear k2
  rintro e w3 ⟨rfl, hB3⟩
  have hC3 : Below w.heap.size w w3 := hC2.trans (hB3.mono hC2.size)
  have p3 : w3.cell? ⟨w1.heap.size, 1, none⟩ = some (.int .i64 (Y j)) := by rw [hB3.cell (p := ⟨w1.heap.size, 1, none⟩) (show w1.heap.size < w2.heap.size by omega)]; exact p2
  have q3 : w3.cell? ⟨w1.heap.size + 1, 1, none⟩ = some (.int .i64 (Y (j + 1))) := by rw [hB3.cell (p := ⟨w1.heap.size + 1, 1, none⟩) z2]; exact q2
  have z3 : w1.heap.size + 1 < w3.heap.size := Nat.lt_of_lt_of_le z2 hB3.size
  clear hB3 hC2 p2 q2 z2
  go_wp2_with fail
  have k3 := BA.out (x + 1) _ hC3 (by omega) (by omega)
  refine k3.mono ?_
  clear k3 BA
  rintro e w4 ⟨rfl, hB4⟩
  have hC4 : Below w.heap.size w w4 := hC3.trans (hB4.mono hC3.size)
  have p4 : w4.cell? ⟨w1.heap.size, 1, none⟩ = some (.int .i64 (Y j)) := by rw [hB4.cell (p := ⟨w1.heap.size, 1, none⟩) (show w1.heap.size < w3.heap.size by omega)]; exact p3
  have q4 : w4.cell? ⟨w1.heap.size + 1, 1, none⟩ = some (.int .i64 (Y (j + 1))) := by rw [hB4.cell (p := ⟨w1.heap.size + 1, 1, none⟩) z3]; exact q3
  clear hB4 hC3 p3 q3 z3
  by_cases hy : Y j ≤ Y (j + 1)
  · have a1 := up (X j) x hw hy h0
    have a2 := up x (X (j + 1)) hw hy (by omega)
    have a3 := up x (x + 1) hw hy (by omega)
    rw [s0] at a1
    rw [s1] at a2
    clear s0 s1 up down
    go_wp2
    go_ret
    exact ⟨rfl, hC4⟩
  · have a1 := down (X j) x hw (by omega) h0
    have a2 := down x (X (j + 1)) hw (by omega) (by omega)
    have a3 := down x (x + 1) hw (by omega) (by omega)
    rw [s0] at a1
    rw [s1] at a2
    clear s0 s1 up down
    go_wp2
    go_ret
    exact ⟨rfl, hC4⟩

/-- The law, for every slice of points and every two ints. -/
theorem between_walk (b off len cap : Nat) (X Y : Nat → Int) (k x : Int) (w : World) (hb : b < w.heap.size) (hcap : len ≤ cap) (hm : cap ≤ 9223372036854775807) (hP : Pts w b off len X Y) :
    Calls Tryd.prog 6 #[.slice (some ⟨b, off, none⟩) len cap, .int .i64 k, .int .i64 x] w fun e w' => e = .returned (.bool true) ∧ Below w.heap.size w w' := by
  rcases Nat.lt_or_ge 30 len with h30 | h30
  · exact between_many _ len cap k x w h30 (by omega)
  rcases Nat.lt_or_ge len 2 with h2 | h2
  · exact between_none _ len cap k x w 3 (-1) h30 (by omega) (fun n => bendFault_few _ len cap _ (Or.inl h2) (by omega))
  rcases Nat.lt_or_ge 8 len with h8 | h8
  · exact between_none _ len cap k x w 3 (-1) h30 (by omega) (fun n => bendFault_few _ len cap _ (Or.inr h8) (by omega))
  rcases first_bad X Y len with hG | ⟨k0, hk0, hG, hbad | ⟨ho, hp, hle⟩⟩
  · by_cases hk : k < 1
    · exact between_off b off len cap X Y k x w hb h2 h8 hP hG (Or.inl hk)
    by_cases hk' : (len : Int) ≤ k
    · exact between_off b off len cap X Y k x w hb h2 h8 hP hG (Or.inr (Or.inl hk'))
    obtain ⟨j, rfl⟩ : ∃ j : Nat, k = (j : Int) + 1 := ⟨(k - 1).toNat, by omega⟩
    have hj : j + 1 < len := by omega
    by_cases hx : x < X j
    · exact between_off b off len cap X Y _ x w hb h2 h8 hP hG (Or.inr (Or.inr ⟨j, rfl, hj, Or.inl hx⟩))
    by_cases hx' : X (j + 1) ≤ x
    · exact between_off b off len cap X Y _ x w hb h2 h8 hP hG (Or.inr (Or.inr ⟨j, rfl, hj, Or.inr hx'⟩))
    exact between_on b off len cap j X Y x w hb h2 h8 hcap hP hG hj (by omega) (by omega)
  · exact between_none _ len cap k x w 2 k0 h30 (by omega) (fun n => bendFault_bound b off len cap k0 X Y (w.drewN n) hb h2 h8 hP hG hk0 hbad)
  · exact between_none _ len cap k x w 3 k0 h30 (by omega) (fun n => bendFault_shape b off len cap k0 X Y (w.drewN n) hb h2 h8 hP hG hk0 ho hp hle)
theorem between_nil (a : Option Addr) (cap : Nat) (k x : Int) (w : World) :
    Calls Tryd.prog 6 #[.slice a 0 cap, .int .i64 k, .int .i64 x] w fun e w' => e = .returned (.bool true) ∧ Below w.heap.size w w' :=
  between_none a 0 cap k x w 3 (-1) (by omega) (by omega) (fun n => bendFault_few a 0 cap _ (Or.inl (by omega)) (by omega))
end Go.Proofs.YtlhffdmhbplpjaaDoor
