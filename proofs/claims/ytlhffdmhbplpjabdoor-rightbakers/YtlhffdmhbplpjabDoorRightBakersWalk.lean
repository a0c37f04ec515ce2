/-
  The law RightBakers, walked: for any weights it returns true.
-/
import Derived.Test.YtlhffdmhbplpjabDoorEntitled
import Derived.Test.YtlhffdmhbplpjabDoorFaulted2
import Derived.Test.YtlhffdmhbplpjabDoorRefBaker
import Derived.Test.YtlhffdmhbplpjabDoorLaidAll
namespace Go.Proofs.YtlhffdmhbplpjabDoor
open Go.RowKit

theorem ErrAt.tells {B : Nat} {w : World} {A : Nat → Addr} {e : Value} {z p : Int} (h : ErrAt B w A e z p) (hL : Laid w A) : Tells w e z p := by
  rcases h with ⟨i, hi, rfl, rfl, rfl⟩ | ⟨m, i, _, hi, rfl, rfl, c0, c1⟩
  · exact tells_sent hL i hi
  · exact tells_flt hL m i p hi c0 c1

set_option maxRecDepth 100000 in
set_option maxHeartbeats 4000000 in
theorem bakers_err (A : Nat → Addr) (a : Option Addr) (len cap : Nat) (hlen : len ≤ 100) (seed : Nat) (c l r : Int) (w : World) (hL : Laid w A) (G : World → Value → Prop) (z p : Int) (T : Int → Prop) (hT : Hid (∀ k k', T k → T k' → k = k'))
    (own : Hid (∀ w1, Below w.heap.size w w1 → Calls Tryd.prog 47 #[.slice a len cap] w1 fun e w2 => ∃ v', e = .returned v' ∧ G w2 v' ∧ Below w1.heap.size w1 w2))
    (P1 : Hid (∀ w1 v', Below w.heap.size w w1 → G w1 v' → Calls Tryd.prog 46 #[v', .int .u64 seed, .int .i64 c, .int .i64 l, .int .i64 r] w1 fun e w2 => ∃ k ev, e = .returned (.tuple #[.int .i64 k, ev]) ∧ T k ∧ Tells w2 ev z p ∧ Below w1.heap.size w1 w2))
    (R1 : Hid (∀ w1, Below w.heap.size w w1 → Calls Tryd.prog 48 #[.slice a len cap, .int .u64 seed, .int .i64 c, .int .i64 l, .int .i64 r] w1 fun e w2 => ∃ k, e = .returned (.tuple #[.int .i64 k, .agg #[.int .i64 z, .int .i64 p]]) ∧ T k ∧ Below w1.heap.size w1 w2))
    (z2 p2 : Int) (hz2 : 0 < z2)
    (P2 : Hid (∀ w1 v', Below w.heap.size w w1 → G w1 v' → Calls Tryd.prog 50 #[v', .int .u64 seed, .int .i64 c, .int .i64 l] w1 fun e w2 => ∃ a' cap' ev, e = .returned (.tuple #[.slice a' 0 cap', ev]) ∧ ErrAt w1.heap.size w2 A ev z2 p2 ∧ Below w1.heap.size w1 w2))
    (R2 : Hid (∀ w1, Below w.heap.size w w1 → Calls Tryd.prog 48 #[.slice a len cap, .int .u64 seed, .int .i64 c, .int .i64 l, .int .i64 0] w1 fun e w2 => ∃ k, e = .returned (.tuple #[.int .i64 k, .agg #[.int .i64 z2, .int .i64 p2]]) ∧ Below w1.heap.size w1 w2)) :
    Calls Tryd.prog 7 #[.slice a len cap, .int .u64 seed, .int .i64 c, .int .i64 l, .int .i64 r] w fun e w' => e = .returned (.bool true) ∧ Below w.heap.size w w' := by
  have step : ∀ {u v : World}, Below w.heap.size w u → Below u.heap.size u v → Below w.heap.size w v := fun a c => a.trans (c.mono a.size)
  go_enter Tryd.func7, Tryd.ntmps7
  go_wp2_with fail
  refine (entitled_of w).mono ?_
  rintro e w1 ⟨rfl, B1⟩
  go_wp2_with fail
  refine (own.out w1 B1).mono ?_
  rintro e w2 ⟨v1, rfl, hG1, B2'⟩
  have B2 := step B1 B2'
  go_wp2_with fail
  refine (P1.out w2 v1 B2 hG1).mono ?_
  rintro e w3 ⟨k1, ev1, rfl, hk1, hE1, B3'⟩
  have B3 := step B2 B3'
  clear B1 B2' hG1 B2 B3'
  go_wp2_with fail
  refine (R1.out w3 B3).mono ?_
  rintro e w4 ⟨k2, rfl, hk2, B4'⟩
  obtain rfl := hT.out _ _ hk1 hk2
  have B4 := step B3 B4'
  have hE4 := hide (hE1.below B4')
  clear hk1 hk2 hE1 B3 B4'
  have hB : Below w4.heap.size w4 (w4.alloc (.cells #[.int .i64 z, .int .i64 p] 60)) := (Below.refl _ _).alloc (Nat.le_refl _) _
  have s0 : (w4.alloc (.cells #[.int .i64 z, .int .i64 p] 60)).cell? ⟨w4.heap.size, 0, none⟩ = some (.int .i64 z) := by simp
  have s1 : (w4.alloc (.cells #[.int .i64 z, .int .i64 p] 60)).cell? ⟨w4.heap.size, 1, none⟩ = some (.int .i64 p) := by simp
  have f0 : ∀ i, (w4.alloc (.cells #[.int .i64 z, .int .i64 p] 60)).frozen? ⟨w4.heap.size, i, none⟩ = false := fun i => World.frozen?_alloc_at _ _ _ _ rfl
  have B5 := step B4 hB
  have gf : w.heap.size ≤ w4.heap.size := B4.size
  have hE5 := hide (hE4.out.below hB)
  have d1 : (k1 != k1) = false := by simp
  clear B4 hE4 hB
  go_wp2_with fail
  generalize w4.heap.size = nf at *
  generalize w4.alloc (.cells #[.int .i64 z, .int .i64 p] 60) = w5 at *
  refine (faulted2_of hE5.out).mono ?_
  rintro e w6 ⟨rfl, B6'⟩
  have B6 := step B5 B6'
  have lf : nf < w5.heap.size := cell_lt s0
  have t0 := draw_old B6' s0
  have t1 := draw_old B6' s1
  have g0 : ∀ i, w6.frozen? ⟨nf, i, none⟩ = false := fun i => by rw [B6'.frozen (p := ⟨nf, i, none⟩) lf]; exact f0 i
  clear s0 s1 f0 B5 hE5 B6' lf
  go_wp2_with fail
  refine (own.out w6 B6).mono ?_
  rintro e w7 ⟨v2, rfl, hG2, B7'⟩
  have B7 := step B6 B7'
  have l6 : nf < w6.heap.size := cell_lt t0
  have t0 := draw_old B7' t0
  have t1 := draw_old B7' t1
  have g0 : ∀ i, w7.frozen? ⟨nf, i, none⟩ = false := fun i => by rw [B7'.frozen (p := ⟨nf, i, none⟩) l6]; exact g0 i
  clear B6 B7' l6
  go_wp2_with fail
  refine (P2.out w7 v2 B7 hG2).mono ?_
  rintro e w8 ⟨a2, cap2, ev2, rfl, hE2, B8'⟩
  have B8 := step B7 B8'
  have l7 : nf < w7.heap.size := cell_lt t0
  have t0 := draw_old B8' t0
  have t1 := draw_old B8' t1
  have g0 : ∀ i, w8.frozen? ⟨nf, i, none⟩ = false := fun i => by rw [B8'.frozen (p := ⟨nf, i, none⟩) l7]; exact g0 i
  clear B7 hG2 B8'
  go_wp2_with fail
  refine (R2.out w8 B8).mono ?_
  rintro e w9 ⟨k3, rfl, B9'⟩
  have B9 := step B8 B9'
  have l8 : nf < w8.heap.size := cell_lt t0
  have t0 := draw_old B9' t0
  have t1 := draw_old B9' t1
  have g0' : w9.frozen? ⟨nf, 0, none⟩ = false := by rw [B9'.frozen (p := ⟨nf, 0, none⟩) l8]; exact g0 0
  have g1' : w9.frozen? ⟨nf, 1, none⟩ = false := by rw [B9'.frozen (p := ⟨nf, 1, none⟩) l8]; exact g0 1
  have gf9 := gf
  have E10 := hide (((hE2.below B9').setCell (q := ⟨nf, 0, none⟩) l7 (.int .i64 z2)).setCell (q := ⟨nf, 1, none⟩) l7 (.int .i64 p2))
  have B10 := (B9.setCell (p := ⟨nf, 0, none⟩) gf (.int .i64 z2)).setCell (p := ⟨nf, 1, none⟩) gf (.int .i64 p2)
  have T10 := hide (E10.out.tells (hL.below B10))
  clear B8 B9' l8 g0 hE2 E10 B9
  go_wp2_with fail
  refine T10.out |> fun h => (faulted2_of h).mono ?_
  rintro e w11 ⟨rfl, B11'⟩
  have B11 := step B10 B11'
  clear B10 B11'
  go_wp2_with fail
  go_ret
  exact ⟨rfl, B11⟩
set_option maxRecDepth 100000 in
set_option maxHeartbeats 4000000 in
theorem bakers_fine (b off len cap : Nat) (hlen : len ≤ 100) (W : Nat → Int) (seed : Nat) (c l r : Int) (w : World) (hI : Ints w b off len W) (hb : b < w.heap.size) (G : World → Value → Prop) (z p : Int) (T : Int → Prop) (hT : Hid (∀ k k', T k → T k' → k = k'))
    (own : Hid (∀ w1, Below w.heap.size w w1 → Calls Tryd.prog 47 #[.slice (some ⟨b, off, none⟩) len cap] w1 fun e w2 => ∃ v', e = .returned v' ∧ G w2 v' ∧ Below w1.heap.size w1 w2))
    (P1 : Hid (∀ w1 v', Below w.heap.size w w1 → G w1 v' → Calls Tryd.prog 46 #[v', .int .u64 seed, .int .i64 c, .int .i64 l, .int .i64 r] w1 fun e w2 => ∃ k ev, e = .returned (.tuple #[.int .i64 k, ev]) ∧ T k ∧ Tells w2 ev z p ∧ Below w1.heap.size w1 w2))
    (R1 : Hid (∀ w1, Below w.heap.size w w1 → Calls Tryd.prog 48 #[.slice (some ⟨b, off, none⟩) len cap, .int .u64 seed, .int .i64 c, .int .i64 l, .int .i64 r] w1 fun e w2 => ∃ k, e = .returned (.tuple #[.int .i64 k, .agg #[.int .i64 z, .int .i64 p]]) ∧ T k ∧ Below w1.heap.size w1 w2))
    (T2 : Nat → Int → Prop) (hT2 : Hid (∀ i k k', T2 i k → T2 i k' → k = k')) (heavy : Hid (∀ i k, T2 i k → ∃ j : Nat, k = j ∧ j < len ∧ W j ≠ 0))
    (P2 : Hid (∀ w1 v', Below w.heap.size w w1 → G w1 v' → Calls Tryd.prog 50 #[v', .int .u64 seed, .int .i64 c, .int .i64 l] w1 fun e w2 => ∃ m cap' K, e = .returned (.tuple #[.slice (some ⟨m, 0, none⟩) 8 cap', .nilIface]) ∧ (w1.heap.size ≤ m ∧ m < w2.heap.size) ∧ Ints w2 m 0 8 K ∧ (∀ i : Nat, i < 8 → T2 i (K i)) ∧ Below w1.heap.size w1 w2))
    (R2 : Hid (∀ (i : Nat) (w1 : World), i < 8 → Below w.heap.size w w1 → Calls Tryd.prog 48 #[.slice (some ⟨b, off, none⟩) len cap, .int .u64 seed, .int .i64 c, .int .i64 l, .int .i64 i] w1 fun e w2 => ∃ k, e = .returned (.tuple #[.int .i64 k, .agg #[.int .i64 0, .int .i64 (-1)]]) ∧ T2 i k ∧ Below w1.heap.size w1 w2)) :
    Calls Tryd.prog 7 #[.slice (some ⟨b, off, none⟩) len cap, .int .u64 seed, .int .i64 c, .int .i64 l, .int .i64 r] w fun e w' => e = .returned (.bool true) ∧ Below w.heap.size w w' := by
  have step : ∀ {u v : World}, Below w.heap.size w u → Below u.heap.size u v → Below w.heap.size w v := fun a c => a.trans (c.mono a.size)
  go_enter Tryd.func7, Tryd.ntmps7
  go_wp2_with fail
  refine (entitled_of w).mono ?_
  rintro e w1 ⟨rfl, B1⟩
  go_wp2_with fail
  refine (own.out w1 B1).mono ?_
  rintro e w2 ⟨v1, rfl, hG1, B2'⟩
  have B2 := step B1 B2'
  go_wp2_with fail
  refine (P1.out w2 v1 B2 hG1).mono ?_
  rintro e w3 ⟨k1, ev1, rfl, hk1, hE1, B3'⟩
  have B3 := step B2 B3'
  clear B1 B2' hG1 B2 B3'
  go_wp2_with fail
  refine (R1.out w3 B3).mono ?_
  rintro e w4 ⟨k2, rfl, hk2, B4'⟩
  obtain rfl := hT.out _ _ hk1 hk2
  have B4 := step B3 B4'
  have hE4 := hide (hE1.below B4')
  clear hk1 hk2 hE1 B3 B4'
  have hB : Below w4.heap.size w4 (w4.alloc (.cells #[.int .i64 z, .int .i64 p] 60)) := (Below.refl _ _).alloc (Nat.le_refl _) _
  have s0 : (w4.alloc (.cells #[.int .i64 z, .int .i64 p] 60)).cell? ⟨w4.heap.size, 0, none⟩ = some (.int .i64 z) := by simp
  have s1 : (w4.alloc (.cells #[.int .i64 z, .int .i64 p] 60)).cell? ⟨w4.heap.size, 1, none⟩ = some (.int .i64 p) := by simp
  have f0 : ∀ i, (w4.alloc (.cells #[.int .i64 z, .int .i64 p] 60)).frozen? ⟨w4.heap.size, i, none⟩ = false := fun i => World.frozen?_alloc_at _ _ _ _ rfl
  have B5 := step B4 hB
  have gf : w.heap.size ≤ w4.heap.size := B4.size
  have hE5 := hide (hE4.out.below hB)
  have d1 : (k1 != k1) = false := by simp
  clear B4 hE4 hB
  go_wp2_with fail
  generalize w4.heap.size = nf at *
  generalize w4.alloc (.cells #[.int .i64 z, .int .i64 p] 60) = w5 at *
  refine (faulted2_of hE5.out).mono ?_
  rintro e w6 ⟨rfl, B6'⟩
  have B6 := step B5 B6'
  have lf : nf < w5.heap.size := cell_lt s0
  have t0 := draw_old B6' s0
  have t1 := draw_old B6' s1
  have g0 : ∀ i, w6.frozen? ⟨nf, i, none⟩ = false := fun i => by rw [B6'.frozen (p := ⟨nf, i, none⟩) lf]; exact f0 i
  clear s0 s1 f0 B5 hE5 B6' lf
  go_wp2_with fail
  refine (own.out w6 B6).mono ?_
  rintro e w7 ⟨v2, rfl, hG2, B7'⟩
  have B7 := step B6 B7'
  have l6 : nf < w6.heap.size := cell_lt t0
  have t0 := draw_old B7' t0
  have t1 := draw_old B7' t1
  have g0 : ∀ i, w7.frozen? ⟨nf, i, none⟩ = false := fun i => by rw [B7'.frozen (p := ⟨nf, i, none⟩) l6]; exact g0 i
  clear B6 B7' l6
  go_wp2_with fail
  refine (P2.out w7 v2 B7 hG2).mono ?_
  rintro e w8 ⟨m, cap2, K, rfl, ⟨hm0, hm1⟩, hK, hT8, B8'⟩
  have B8 := step B7 B8'
  have l7 : nf < w7.heap.size := cell_lt t0
  have t0 := draw_old B8' t0
  have t1 := draw_old B8' t1
  have g0 : ∀ i, w8.frozen? ⟨nf, i, none⟩ = false := fun i => by rw [B8'.frozen (p := ⟨nf, i, none⟩) l7]; exact g0 i
  have nm : nf ≠ m := by omega
  have HT8 := hide hT8
  clear B7 hG2 B8' hT8
  go_wp2_with fail
  refine (R2.out 0 w8 (by omega) B8).mono ?_
  rintro e w9 ⟨k3, rfl, _, B9'⟩
  have B9 := step B8 B9'
  have l8 : nf < w8.heap.size := cell_lt t0
  have t0 := draw_old B9' t0
  have t1 := draw_old B9' t1
  have g0' : w9.frozen? ⟨nf, 0, none⟩ = false := by rw [B9'.frozen (p := ⟨nf, 0, none⟩) l8]; exact g0 0
  have g1' : w9.frozen? ⟨nf, 1, none⟩ = false := by rw [B9'.frozen (p := ⟨nf, 1, none⟩) l8]; exact g0 1
  have B10 := (B9.setCell (p := ⟨nf, 0, none⟩) gf (.int .i64 0)).setCell (p := ⟨nf, 1, none⟩) gf (.int .i64 (-1))
  have K10 : Ints ((w9.setCell ⟨nf, 0, none⟩ (.int .i64 0)).setCell ⟨nf, 1, none⟩ (.int .i64 (-1))) m 0 8 K := fun i hi => by
    rw [World.cell?_setCell_other _ _ _ _ (by simp), World.cell?_setCell_other _ _ _ _ (by simp)]
    exact (hK.below B9' hm1) i hi
  have lm10 : m < ((w9.setCell ⟨nf, 0, none⟩ (.int .i64 0)).setCell ⟨nf, 1, none⟩ (.int .i64 (-1))).heap.size := by
    simp [World.setCell]
    exact Nat.lt_of_lt_of_le hm1 B9'.size
  clear B8 B9' l8 g0 hK B9
  go_wp2_with fail
  go_loopw [17] (fun i wr => ∃ j : Nat, j ≤ 8 ∧ i = .int .i64 j ∧ Ints wr m 0 8 K ∧ m < wr.heap.size ∧ Below w.heap.size w wr) (fun i _ => 8 - (intOf i).toNat)
  case atStart => exact ⟨0, Nat.zero_le _, rfl, K10, lm10, B10⟩
  case round =>
    clear K10 lm10 B10 t0 t1 g0' g1'
    obtain ⟨j, hj, rfl, hK, hm, hB⟩ := hrel
    by_cases hlt : j < 8
    · go_wp2_with fail
      refine (R2.out j wr hlt hB).mono ?_
      rintro e w11 ⟨k4, rfl, hk4, B11'⟩
      have e4 := hT2.out j _ _ (HT8.out j hlt) hk4
      obtain ⟨q, hq, hq1, hq2⟩ := heavy.out j _ hk4
      have B11 := step hB B11'
      have hA : Below w11.heap.size w11 (w11.alloc (.cells #[.int .i64 0, .int .i64 (-1)] 60)) := (Below.refl _ _).alloc (Nat.le_refl _) _
      have K11 := hK.below B11' hm
      have m11 : m < w11.heap.size := Nat.lt_of_lt_of_le hm B11'.size
      have K12 := K11.below hA m11
      have B12 := step B11 hA
      have c1 := K12 j hlt
      have c2 := (hI.below B12 hb) q hq1
      rw [e4, hq, Nat.zero_add] at c1
      rw [hq]
      have d1 : ((q : Int) != (q : Int)) = false := by simp
      have d2 : (W q == 0) = false := by simp; exact hq2
      have m12 : m < (w11.alloc (.cells #[.int .i64 0, .int .i64 (-1)] 60)).heap.size := by simp; omega
      clear hK hB K11 B11 B11' hA e4 hq hq2 hk4 m11
      go_wp2_with fail
      go_roundw
      case rel => exact ⟨j + 1, by omega, by go_num, K12, m12, B12⟩
      case measure => simp [intOf]; omega
    · obtain rfl : j = 8 := by omega
      go_wp2_with fail
      go_ret
      exact ⟨rfl, hB⟩
end Go.Proofs.YtlhffdmhbplpjabDoor
