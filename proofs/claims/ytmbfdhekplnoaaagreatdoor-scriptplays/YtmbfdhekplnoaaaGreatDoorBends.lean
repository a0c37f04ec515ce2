/-
  Bends: part.Check and bakehouseref1.BendFault by their contracts, case by case.
-/
import Derived.Test.YtmbfdhekplnoaaaGreatDoorIssueMathX
import Derived.Test.YtmbfdhekplnoaaaGreatDoorProgPurseActsX
import Derived.Deep.SlicePairs
namespace Go.Proofs.YtmbfdhekplnoaaaGreatDoor
open Go.RowKit

def Pts (w : World) (b off len : Nat) (X Y : Nat → Int) : Prop :=
  ∀ i, i < len → w.cell? ⟨b, off + i * 2, none⟩ = some (.int .i64 (X i)) ∧ w.cell? ⟨b, off + i * 2 + 1, none⟩ = some (.int .i64 (Y i))
theorem Pts.below {w w' : World} {b off len : Nat} {X Y : Nat → Int} (h : Pts w b off len X Y) (hB : Below w.heap.size w w') (hb : b < w.heap.size) : Pts w' b off len X Y := fun i hi =>
  ⟨by rw [hB.cell (p := ⟨b, off + i * 2, none⟩) hb]; exact (h i hi).1, by rw [hB.cell (p := ⟨b, off + i * 2 + 1, none⟩) hb]; exact (h i hi).2⟩
def Good (X Y : Nat → Int) (i : Nat) : Prop := 0 ≤ X i ∧ X i ≤ 1000000 ∧ 0 ≤ Y i ∧ Y i ≤ 1000000 ∧ (0 < i → X (i - 1) < X i)

theorem check_few (a : Option Addr) (len cap : Nat) (w : World) (p : Addr) (hE : w.cell? ⟨2, 0, none⟩ = some (sent p)) (h : len < 2 ∨ 8 < len) (hm : len ≤ 9223372036854775807) :
    Calls Tryz.prog 304 #[.slice a len cap] w fun e w' => e = .returned (sent p) ∧ w' = w := by
  rcases h with h | h
  · go_enter Tryz.func304, Tryz.ntmps304
    go_wp2
    go_ret
    exact ⟨rfl, rfl⟩
  · have h' : ¬ len < 2 := by omega
    go_enter Tryz.func304, Tryz.ntmps304
    go_wp2
    go_ret
    exact ⟨rfl, rfl⟩

set_option maxRecDepth 100000 in
set_option maxHeartbeats 1000000 in
theorem check_fine (b off len cap : Nat) (X Y : Nat → Int) (w : World) (hb : b < w.heap.size) (h2 : 2 ≤ len) (h8 : len ≤ 8) (hP : Pts w b off len X Y) (hG : ∀ i, i < len → Good X Y i) :
    Calls Tryz.prog 304 #[.slice (some ⟨b, off, none⟩) len cap] w fun e w' => e = .returned .nilIface ∧ Below w.heap.size w w' := by
  go_enter Tryz.func304, Tryz.ntmps304
  go_wp2
  go_loopw [16] (fun i w' => ∃ k : Nat, k ≤ len ∧ i = .int .i64 k ∧ Below w.heap.size w w') (fun i _ => len - (intOf i).toNat)
  case atStart => exact ⟨0, Nat.zero_le _, rfl, Below.refl _ _⟩
  case round =>
    obtain ⟨k, hk, rfl, hB⟩ := hrel
    by_cases hlt : k < len
    · have hc := hP.below hB hb k hlt
      obtain ⟨c0, c1⟩ := hc
      obtain ⟨g1, g2, g3, g4, g5⟩ := hG k hlt
      have hsz := hB.size
      have hbr : b < wr.heap.size := Nat.lt_of_lt_of_le hb hsz
      rcases Nat.eq_zero_or_pos k with hz | hz
      · have hd : decide (0 < k) = false := by simp; omega
        have HZ : Hid (k = 0) := hz
        clear hz hP hG g5
        go_wp2
        go_quiet (fail)
        go_wp2
        go_roundw
        case rel => exact ⟨k + 1, by omega, by go_num, below_drewN (hB.alloc hsz _) _⟩
        case measure => simp [intOf]; omega
      · obtain ⟨j, rfl⟩ : ∃ j, k = j + 1 := ⟨k - 1, by omega⟩
        have c2 := (hP.below hB hb j (by omega)).1
        have g6 : X j < X (j + 1) := g5 (by omega)
        clear hz
        clear hP hG g5
        go_wp2
        go_quiet (fail)
        go_wp2
        go_roundw
        case rel => exact ⟨j + 2, by omega, by go_num, below_drewN (hB.alloc hsz _) _⟩
        case measure => simp [intOf]; omega
    · go_wp2
      go_ret
      exact ⟨rfl, hB⟩

end Go.Proofs.YtmbfdhekplnoaaaGreatDoor
