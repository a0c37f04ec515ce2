/-
  Rows of answers: a slice that reads as so many numbers; two that read alike are the same (bakehouseref1.SameInts).
-/
import Derived.Test.YtnbmelnacopdpaaGreatDoorRightMathX
import Derived.Test.YtnbmelnacopdpaaGreatDoorIntsOwn
import Derived.Laws.AppendOwn
import Derived.Deep.AppendLies
import Derived.Deep.QuietTactic
import Derived.BigQuiet
namespace Go.Proofs.YtnbmelnacopdpaaGreatDoor
open Go.RowKit

/-- a slice that reads as so many numbers -/
def RowV (w : World) (v : Value) (n : Nat) (K : Nat → Int) : Prop := ∃ a cap, v = .slice a n cap ∧ ∀ i, i < n → ∃ b off, a = some ⟨b, off, none⟩ ∧ b < w.heap.size ∧ w.cell? ⟨b, off + i, none⟩ = some (.int .i64 (K i))
theorem RowV.below {w w' : World} {v : Value} {n : Nat} {K : Nat → Int} (h : RowV w v n K) (hB : Below w.heap.size w w') : RowV w' v n K := by
  obtain ⟨a, cap, rfl, h⟩ := h
  refine ⟨a, cap, rfl, fun i hi => ?_⟩
  obtain ⟨b, off, e, hb, c⟩ := h i hi
  exact ⟨b, off, e, Nat.lt_of_lt_of_le hb hB.size, by rw [hB.cell (p := ⟨b, off + i, none⟩) hb]; exact c⟩
theorem RowV.congr {w : World} {v : Value} {n : Nat} {K K' : Nat → Int} (h : RowV w v n K) (e : ∀ i, i < n → K i = K' i) : RowV w v n K' := by
  obtain ⟨a, cap, rfl, h⟩ := h
  refine ⟨a, cap, rfl, fun i hi => ?_⟩
  rw [← e i hi]
  exact h i hi
theorem drewN_again (w : World) (m n : Nat) : (w.drewN m).drewN n = w.drewN (m + n) := by simp [World.drewN, Nat.add_assoc]
set_option maxRecDepth 100000 in
theorem sameInts_of (va vb : Value) (n : Nat) (hn : n ≤ 1000) (K : Nat → Int) (w : World) (hA : RowV w va n K) (hB : RowV w vb n K) :
    Calls Tryz.prog 10 #[va, vb] w fun e w' => e = .returned (.bool true) ∧ ∃ m, w' = w.drewN m := by
  obtain ⟨a, ca, rfl, hA⟩ := hA
  obtain ⟨b, cb, rfl, hB⟩ := hB
  have dn : ((n : Int) != (n : Int)) = false := by simp
  go_enter Tryz.func10, Tryz.ntmps10
  go_wp2
  go_loopw [5] (fun i wr => ∃ k : Nat, k ≤ n ∧ i = .int .i64 k ∧ ∃ m, wr = w.drewN m) (fun i _ => n - (intOf i).toNat)
  case atStart => exact ⟨0, Nat.zero_le _, rfl, 0, rfl⟩
  case round =>
    obtain ⟨k, hk, rfl, m, hw⟩ := hrel
    clear dn
    by_cases hlt : k < n
    · obtain ⟨b1, o1, rfl, _, c0'⟩ := hA k hlt
      obtain ⟨b2, o2, rfl, _, c1'⟩ := hB k hlt
      have c0 : wr.cell? ⟨b1, o1 + k, none⟩ = some (.int .i64 (K k)) := by rw [hw]; exact c0'
      have c1 : wr.cell? ⟨b2, o2 + k, none⟩ = some (.int .i64 (K k)) := by rw [hw]; exact c1'
      have HW := hide hw
      have d : (K k != K k) = false := by simp
      clear hA hB c0' c1' hw
      go_wp2
      go_quiet (fail)
      go_wp2
      go_roundw
      case rel => exact ⟨k + 1, by omega, by go_num, _, by rw [HW.out, drewN_again]⟩
      case measure => simp [intOf]; omega
    · obtain rfl : k = n := by omega
      have HW := hide hw
      clear hw hA hB
      go_wp2
      go_ret
      exact ⟨rfl, m, HW.out⟩
def kRow (K : Nat → Int) : Nat → List Value
  | 0 => []
  | k + 1 => kRow K k ++ [.int .i64 (K k)]
theorem kRow_len (K : Nat → Int) : ∀ k, (kRow K k).length = k
  | 0 => rfl
  | k + 1 => by simp [kRow, kRow_len K k]
theorem kRow_at (K : Nat → Int) (k i : Nat) (h : i < k) : (kRow K k)[i]? = some (.int .i64 (K i)) := by
  induction k with
  | zero => omega
  | succ k ih =>
    rcases Nat.lt_or_eq_of_le (Nat.le_of_lt_succ h) with l | l
    · rw [kRow, List.getElem?_append_left (by rw [kRow_len]; exact l)]; exact ih l
    · subst l; rw [kRow, List.getElem?_append_right (by rw [kRow_len]; omega), kRow_len]; simp
theorem kRow_congr {K K' : Nat → Int} : ∀ k, (∀ i, i < k → K i = K' i) → kRow K k = kRow K' k
  | 0, _ => rfl
  | k + 1, h => by rw [kRow, kRow, kRow_congr k (fun i hi => h i (by omega)), h k (by omega)]
theorem kRow_next (K : Nat → Int) (k : Nat) (x : Int) : kRow (fun i => if i = k then x else K i) (k + 1) = kRow K k ++ [.int .i64 x] := by
  show kRow _ k ++ [.int .i64 (if k = k then x else K k)] = _
  rw [if_pos rfl, kRow_congr k (fun i hi => if_neg (by omega))]
theorem row_reads {w : World} {B n : Nat} {v : Value} {K : Nat → Int} (h : w.ownsRow B 3 1 v n (kRow K n)) : RowV w v n K := by
  rcases h.2 with ⟨e, h0⟩ | ⟨m, cap, cur, e, _, _, _, _, _⟩
  · subst h0
    exact ⟨none, 0, e, fun i hi => by omega⟩
  · subst e
    refine ⟨_, _, rfl, fun i hi => ⟨m, 0, rfl, (h.lt m rfl).2, ?_⟩⟩
    rw [Nat.zero_add]
    exact (h.cellAt i (by omega)).trans (kRow_at K n i hi)

/-! scripts -/
/-- a slice of numbers that lies beside F -/
def Script (w : World) (F : Nat → Prop) (v : Value) (n : Nat) (W : Nat → Int) : Prop := ∃ a cap, v = .slice a n cap ∧ n ≤ cap ∧ ∀ i, i < n → ∃ b off, a = some ⟨b, off, none⟩ ∧ b < w.heap.size ∧ ¬ F b ∧ w.cell? ⟨b, off + i, none⟩ = some (.int .i64 (W i)) ∧ W i ≤ 9223372036854775807
theorem ownInts_cap (b off n cap : Nat) (W : Nat → Int) (w : World) (hI : Ints w b off n W) (h0 : 0 < n) (h1 : n ≤ 1000) :
    Calls Tryz.prog 8 #[.slice (some ⟨b, off, none⟩) n cap] w fun e w' => ∃ m cap', e = .returned (.slice (some ⟨m, 0, none⟩) n cap') ∧ n ≤ cap' ∧ m < w'.heap.size ∧ Ints w' m 0 n W ∧ Below w.heap.size w w' ∧ w.heap.size ≤ m := by
  go_enter Tryz.func8, Tryz.ntmps8
  go_wp2_with (at_builtin; refine wpList_append_by _ rfl (.tmp 4) (.tmp 5) 23 rfl _ _ rfl rfl _ _ (append_run_ints _ b off n cap W _ hI h0 h1) ?_)
  go_ret
  exact ⟨_, _, rfl, grownCap_ge _ _ _ _, by simp, fun i hi => by rw [Nat.zero_add]; exact cell_new _ _ _ _ _ _ rfl (copyCells_ints w n W i hi), ((Below.refl _ _).drew).alloc (Nat.le_refl _) _, Nat.le_refl _⟩
/-- a copy of one's own -/
theorem own_of (v : Value) (n : Nat) (hn : n ≤ 1000) (W : Nat → Int) (hW : ∀ i, i < n → W i ≤ 9223372036854775807) (w : World) (h : RowV w v n W) :
    Calls Tryz.prog 8 #[v] w fun e w' => ∃ u, e = .returned u ∧ (∀ F : Nat → Prop, (∀ k, F k → k < w.heap.size) → Script w' F u n W) ∧ Below w.heap.size w w' := by
  obtain ⟨a, cap, rfl, h⟩ := h
  rcases Nat.eq_zero_or_pos n with rfl | h0
  · exact (ownInts_none a cap w).mono fun e w' ⟨h1, h2⟩ => ⟨_, h1, fun F _ => ⟨_, _, rfl, Nat.zero_le _, fun i hi => by omega⟩, by rw [h2]; exact Below.refl _ _⟩
  · obtain ⟨b, off, rfl, _, _⟩ := h 0 h0
    have hI : Ints w b off n W := fun i hi => by
      obtain ⟨b', off', e, _, c⟩ := h i hi
      cases e
      exact c
    exact (ownInts_cap b off n cap W w hI h0 hn).mono fun _ _ ⟨m, _, h1, hc, h2, h3, h4, h5⟩ => ⟨_, h1, fun F hF => ⟨_, _, rfl, hc, fun i hi => ⟨m, 0, rfl, h2, fun g => absurd (hF m g) (Nat.not_lt.2 h5), h3 i hi, hW i hi⟩⟩, h4⟩
/-- nothing is appended -/
theorem append_owned_empty (w : World) (base : Nat) (ty : TypeId) (v : Value) (n : Nat) (xs : List Value) (a : Option Addr) (c : Nat) (hown : w.ownsRow base 3 1 v n xs) :
    (Builtin.append_ #[23, 23] ty #[v, .slice a 0 c]).run Tryz.prog w = .ok v w := by
  obtain ⟨i, hi, hz, hs, hb⟩ := info_parts Tryz.infoInts
  rcases hown.2 with ⟨rfl, rfl⟩ | ⟨g, cap, cur, rfl, _, _, hnc, _⟩
  · cases a <;> simp [Builtin.append_, run_underlying Tryz.underlying23, sizeOf, typeInfo, hi, Builtin.lenOf, Builtin.firstCells, loadCells, loadCellsFrom]
  · cases a <;> simp [Builtin.append_, run_underlying Tryz.underlying23, sizeOf, typeInfo, hi, Builtin.lenOf, Builtin.firstCells, hnc, storeCells, loadCells, loadCellsFrom]
end Go.Proofs.YtnbmelnacopdpaaGreatDoor
