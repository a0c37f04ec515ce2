/-
  Bends: part.Check and bakehouseref1.BendFault by their contracts, case by case.
-/
import Derived.Test.YtaihcceobnfmhaaGreatDoorAidX
import Derived.Test.YtaihcceobnfmhaaGreatDoorProgPurseX
import Derived.Deep.SlicePairs
namespace Go.Proofs.YtaihcceobnfmhaaGreatDoor
open Go.RowKit

/-- so many points laid one behind another -/
def Pts (w : World) (b off len : Nat) (X Y : Nat → Int) : Prop :=
  ∀ i, i < len → w.cell? ⟨b, off + i * 2, none⟩ = some (.int .i64 (X i)) ∧ w.cell? ⟨b, off + i * 2 + 1, none⟩ = some (.int .i64 (Y i))
theorem Pts.below {w w' : World} {b off len : Nat} {X Y : Nat → Int} (h : Pts w b off len X Y) (hB : Below w.heap.size w w') (hb : b < w.heap.size) : Pts w' b off len X Y := fun i hi =>
  ⟨by rw [hB.cell (p := ⟨b, off + i * 2, none⟩) hb]; exact (h i hi).1, by rw [hB.cell (p := ⟨b, off + i * 2 + 1, none⟩) hb]; exact (h i hi).2⟩
/-- the i-th point is on the scale -/
def OnScale (X Y : Nat → Int) (i : Nat) : Prop := 0 ≤ X i ∧ X i ≤ 1000000 ∧ 0 ≤ Y i ∧ Y i ≤ 1000000
/-- the i-th point is one of a bend -/
def Good (X Y : Nat → Int) (i : Nat) : Prop := 0 ≤ X i ∧ X i ≤ 1000000 ∧ 0 ≤ Y i ∧ Y i ≤ 1000000 ∧ (0 < i → X (i - 1) < X i)

theorem check_few (a : Option Addr) (len cap : Nat) (w : World) (p : Addr) (hE : w.cell? ⟨3, 0, none⟩ = some (sent p)) (h : len < 2 ∨ 8 < len) (hm : len ≤ 9223372036854775807) :
    Calls Tryz.prog 119 #[.slice a len cap] w fun e w' => e = .returned (sent p) ∧ w' = w := by
  rcases h with h | h
  · go_enter Tryz.func119, Tryz.ntmps119
    go_wp2
    go_ret
    exact ⟨rfl, rfl⟩
  · have h' : ¬ len < 2 := by omega
    go_enter Tryz.func119, Tryz.ntmps119
    go_wp2
    go_ret
    exact ⟨rfl, rfl⟩

set_option maxRecDepth 100000 in
set_option maxHeartbeats 1000000 in
theorem check_fine (b off len cap : Nat) (X Y : Nat → Int) (w : World) (hb : b < w.heap.size) (h2 : 2 ≤ len) (h8 : len ≤ 8) (hP : Pts w b off len X Y) (hG : ∀ i, i < len → Good X Y i) :
    Calls Tryz.prog 119 #[.slice (some ⟨b, off, none⟩) len cap] w fun e w' => e = .returned .nilIface ∧ Below w.heap.size w w' := by
  go_enter Tryz.func119, Tryz.ntmps119
  go_wp2
  go_loopw [16] (fun i w' => ∃ k : Nat, k ≤ len ∧ i = .int .i64 k ∧ Below w.heap.size w w') (fun i _ => len - (intOf i).toNat)
  case atStart => exact ⟨0, Nat.zero_le _, rfl, Below.refl _ _⟩
  case round =>
    obtain ⟨k, hk, rfl, hB⟩ := hrel
    by_cases hlt : k < len
    · have hc := hP.below hB hb k hlt
      obtain ⟨c0, c1⟩ := hc
      obtain ⟨g1, g2, g3, g4, g5⟩ := hG k hlt
      have hsz := hB.size
      have hbr : b < wr.heap.size := Nat.lt_of_lt_of_le hb hsz
      rcases Nat.eq_zero_or_pos k with hz | hz
      · have hd : decide (0 < k) = false := by simp; omega
        have HZ : Hid (k = 0) := hz
        clear hz hP hG g5
        go_wp2
        go_quiet (fail)
        go_wp2
        go_roundw
        case rel => exact ⟨k + 1, by omega, by go_num, below_drewN (hB.alloc hsz _) _⟩
        case measure => simp [intOf]; omega
      · obtain ⟨j, rfl⟩ : ∃ j, k = j + 1 := ⟨k - 1, by omega⟩
        have c2 := (hP.below hB hb j (by omega)).1
        have g6 : X j < X (j + 1) := g5 (by omega)
        clear hz
        clear hP hG g5
        go_wp2
        go_quiet (fail)
        go_wp2
        go_roundw
        case rel => exact ⟨j + 2, by omega, by go_num, below_drewN (hB.alloc hsz _) _⟩
        case measure => simp [intOf]; omega
    · go_wp2
      go_ret
      exact ⟨rfl, hB⟩

set_option maxRecDepth 100000 in
set_option maxHeartbeats 2000000 in
theorem check_bound (b off len cap k0 : Nat) (X Y : Nat → Int) (w : World) (p : Addr) (hE : w.cell? ⟨0, 0, none⟩ = some (sent p)) (hgl : 0 < w.heap.size) (hb : b < w.heap.size) (h2 : 2 ≤ len) (h8 : len ≤ 8) (hP : Pts w b off len X Y) (hG : ∀ i, i < k0 → Good X Y i) (hk0 : k0 < len) (hbad : ¬ OnScale X Y k0) :
    Calls Tryz.prog 119 #[.slice (some ⟨b, off, none⟩) len cap] w fun e w' => ∃ n, e = .returned (.iface 147 (.pointer (some ⟨n, 0, none⟩))) ∧ w.heap.size ≤ n ∧ w'.cell? ⟨n, 0, none⟩ = some (.int .i64 k0) ∧ w'.cell? ⟨n, 1, none⟩ = some (sent p) ∧ Below w.heap.size w w' := by
  go_enter Tryz.func119, Tryz.ntmps119
  go_wp2
  go_loopw [16] (fun i w' => ∃ k : Nat, k ≤ k0 ∧ i = .int .i64 k ∧ Below w.heap.size w w') (fun i _ => len - (intOf i).toNat)
  case atStart => exact ⟨0, Nat.zero_le _, rfl, Below.refl _ _⟩
  case round =>
    obtain ⟨k, hk, rfl, hB⟩ := hrel
    have hsz := hB.size
    have hbr : b < wr.heap.size := Nat.lt_of_lt_of_le hb hsz
    by_cases hlt : k < k0
    · obtain ⟨c0, c1⟩ := hP.below hB hb k (by omega)
      obtain ⟨g1, g2, g3, g4, g5⟩ := hG k hlt
      have hlt' : k < len := by omega
      rcases Nat.eq_zero_or_pos k with hz | hz
      · have hd : decide (0 < k) = false := by simp; omega
        have HZ : Hid (k = 0) := hz
        clear hz hP hG g5 hE hbad
        go_wp2
        go_quiet (fail)
        go_wp2
        go_roundw
        case rel => exact ⟨k + 1, by omega, by go_num, below_drewN (hB.alloc hsz _) _⟩
        case measure => simp [intOf]; omega
      · obtain ⟨j, rfl⟩ : ∃ j, k = j + 1 := ⟨k - 1, by omega⟩
        have c2 := (hP.below hB hb j (by omega)).1
        have g6 : X j < X (j + 1) := g5 (by omega)
        clear hz
        clear hP hG g5 hE hbad
        go_wp2
        go_quiet (fail)
        go_wp2
        go_roundw
        case rel => exact ⟨j + 2, by omega, by go_num, below_drewN (hB.alloc hsz _) _⟩
        case measure => simp [intOf]; omega
    · obtain rfl : k = k0 := by omega
      obtain ⟨c0, c1⟩ := hP.below hB hb k hk0
      have hE' : wr.cell? ⟨0, 0, none⟩ = some (sent p) := by rw [hB.cell (p := ⟨0, 0, none⟩) hgl]; exact hE
      have hE2 : ∀ o, (wr.alloc o).cell? ⟨0, 0, none⟩ = some (sent p) := fun o => by rw [World.cell?_alloc_lt _ _ ⟨0, 0, none⟩ (Nat.lt_of_lt_of_le hgl hsz)]; exact hE'
      clear hE'
      clear hP hG hE
      unfold OnScale at hbad
      by_cases x0 : 0 ≤ X k
      · by_cases x1 : X k ≤ 1000000
        · by_cases y0 : 0 ≤ Y k
          · have y1 : ¬ Y k ≤ 1000000 := by omega
            clear hbad
            go_wp2
            go_ret
            refine ⟨_, rfl, by omega, ?_, ?_, (hB.alloc hsz _).alloc (by simp; omega) _⟩
            · simp
            · simp
          · clear hbad
            go_wp2
            go_ret
            refine ⟨_, rfl, by omega, ?_, ?_, (hB.alloc hsz _).alloc (by simp; omega) _⟩
            · simp
            · simp
        · clear hbad
          go_wp2
          go_ret
          refine ⟨_, rfl, by omega, ?_, ?_, (hB.alloc hsz _).alloc (by simp; omega) _⟩
          · simp
          · simp
      · clear hbad
        go_wp2
        go_ret
        refine ⟨_, rfl, by omega, ?_, ?_, (hB.alloc hsz _).alloc (by simp; omega) _⟩
        · simp
        · simp

set_option maxRecDepth 100000 in
set_option maxHeartbeats 2000000 in
theorem check_shape (b off len cap k0 : Nat) (X Y : Nat → Int) (w : World) (p : Addr) (hE : w.cell? ⟨3, 0, none⟩ = some (sent p)) (hgl : 3 < w.heap.size) (hb : b < w.heap.size) (h2 : 2 ≤ len) (h8 : len ≤ 8) (hP : Pts w b off len X Y) (hG : ∀ i, i < k0 → Good X Y i) (hk0 : k0 < len) (hon : OnScale X Y k0) (hpos : 0 < k0) (hle : X k0 ≤ X (k0 - 1)) :
    Calls Tryz.prog 119 #[.slice (some ⟨b, off, none⟩) len cap] w fun e w' => ∃ n, e = .returned (.iface 147 (.pointer (some ⟨n, 0, none⟩))) ∧ w.heap.size ≤ n ∧ w'.cell? ⟨n, 0, none⟩ = some (.int .i64 k0) ∧ w'.cell? ⟨n, 1, none⟩ = some (sent p) ∧ Below w.heap.size w w' := by
  go_enter Tryz.func119, Tryz.ntmps119
  go_wp2
  go_loopw [16] (fun i w' => ∃ k : Nat, k ≤ k0 ∧ i = .int .i64 k ∧ Below w.heap.size w w') (fun i _ => len - (intOf i).toNat)
  case atStart => exact ⟨0, Nat.zero_le _, rfl, Below.refl _ _⟩
  case round =>
    obtain ⟨k, hk, rfl, hB⟩ := hrel
    have hsz := hB.size
    have hbr : b < wr.heap.size := Nat.lt_of_lt_of_le hb hsz
    by_cases hlt : k < k0
    · obtain ⟨c0, c1⟩ := hP.below hB hb k (by omega)
      obtain ⟨g1, g2, g3, g4, g5⟩ := hG k hlt
      have hlt' : k < len := by omega
      rcases Nat.eq_zero_or_pos k with hz | hz
      · have hd : decide (0 < k) = false := by simp; omega
        have HZ : Hid (k = 0) := hz
        clear hz hP hG g5 hE 
        go_wp2
        go_quiet (fail)
        go_wp2
        go_roundw
        case rel => exact ⟨k + 1, by omega, by go_num, below_drewN (hB.alloc hsz _) _⟩
        case measure => simp [intOf]; omega
      · obtain ⟨j, rfl⟩ : ∃ j, k = j + 1 := ⟨k - 1, by omega⟩
        have c2 := (hP.below hB hb j (by omega)).1
        have g6 : X j < X (j + 1) := g5 (by omega)
        clear hz
        clear hP hG g5 hE hon hle
        go_wp2
        go_quiet (fail)
        go_wp2
        go_roundw
        case rel => exact ⟨j + 2, by omega, by go_num, below_drewN (hB.alloc hsz _) _⟩
        case measure => simp [intOf]; omega
    · obtain rfl : k = k0 := by omega
      obtain ⟨c0, c1⟩ := hP.below hB hb k hk0
      have hE' : wr.cell? ⟨3, 0, none⟩ = some (sent p) := by rw [hB.cell (p := ⟨3, 0, none⟩) hgl]; exact hE
      have hE2 : ∀ o, (wr.alloc o).cell? ⟨3, 0, none⟩ = some (sent p) := fun o => by rw [World.cell?_alloc_lt _ _ ⟨3, 0, none⟩ (Nat.lt_of_lt_of_le hgl hsz)]; exact hE'
      clear hE'
      obtain ⟨j, rfl⟩ : ∃ j, k = j + 1 := ⟨k - 1, by omega⟩
      have c2 := (hP.below hB hb j (by omega)).1
      have g6 : X (j + 1) ≤ X j := hle
      obtain ⟨g1, g2, g3, g4⟩ := hon
      have hE3 : ∀ o n, ((wr.alloc o).drewN n).cell? ⟨3, 0, none⟩ = some (sent p) := fun o n => by rw [drew_cell]; exact hE2 o
      clear hP hG hE hle hpos hE2
      go_wp2
      go_quiet (fail)
      go_wp2
      go_ret
      refine ⟨_, rfl, ?_, ?_, ?_, (below_drewN (hB.alloc hsz _) _).alloc ?_ _⟩
      · omega
      · exact cell_new _ _ _ _ _ _ (by simp) (by simp)
      · exact cell_new _ _ _ _ _ _ (by simp) (by simp)
      · simp; omega

theorem fine_calls (w : World) : Calls Tryz.prog 200 #[] w fun e w' => e = .returned (.agg #[.int .i64 0, .int .i64 (-1)]) ∧ w' = w.alloc (.cells #[.int .i64 0, .int .i64 (-1)] 114) := by
  go_enter Tryz.func200, Tryz.ntmps200
  go_wp2
  exact bodyPost_ret (v := .agg #[.int .i64 0, .int .i64 (-1)]) (by simp [results, Tryz.results200, go_sem]) rfl ⟨rfl, rfl⟩
theorem bare_calls (c : Int) (w : World) : Calls Tryz.prog 181 #[.int .i64 c] w fun e w' => e = .returned (.agg #[.int .i64 c, .int .i64 (-1)]) ∧ w' = w.alloc (.cells #[.int .i64 c, .int .i64 (-1)] 114) := by
  go_enter Tryz.func181, Tryz.ntmps181
  go_wp2
  exact bodyPost_ret (v := .agg #[.int .i64 c, .int .i64 (-1)]) (by simp [results, Tryz.results181, go_sem]) rfl ⟨rfl, rfl⟩

end Go.Proofs.YtaihcceobnfmhaaGreatDoor
