/-
  A slice of numbers that came in: what its reading gives a walk.
  Plays, plainly: what each number of a script makes of a chain, and its answer; one alone; cut in two it is the same.
  Rows of answers: a slice that reads as so many numbers; two that read alike are the same (bakehouseref1.SameInts).
-/
import Derived.Test.YtaihcceobnfmhaaGreatDoorSentX
import Derived.Test.YtaihcceobnfmhaaGreatDoorProgChainTellsX
import Derived.ChangeSlices
import Derived.Test.YtaihcceobnfmhaaGreatDoorProgPictX
import Derived.Test.YtaihcceobnfmhaaGreatDoorProgPurseX
import Derived.Test.YtaihcceobnfmhaaGreatDoorIntsOwn
import Derived.Laws.AppendOwn
import Derived.Deep.AppendLies
import Derived.Deep.QuietTactic
import Derived.BigQuiet
namespace Go.Proofs.YtaihcceobnfmhaaGreatDoor
open Go.ChangeShapes Go.WideShapes Go.ChangeAt Go.RowKit

theorem Tryz.cellsOfInt : Tryz.prog.cellsOf 3 = 1 := by kernel_rfl
/-- empty, or so many numbers one behind another -/
def IsInts (W : World) (a : Option Addr) (len cap : Nat) : Prop :=
  (len = 0) ∨ ∃ (b off : Nat) (X : Nat → Int), a = some ⟨b, off, none⟩ ∧ b < W.heap.size ∧ len ≤ cap ∧ cap ≤ 9223372036854775807 ∧ Ints W b off len X ∧ ∀ i, i < len → (Lit.int .i64 (X i)).wf = true
set_option maxRecDepth 100000 in
theorem ints_of {H : Type} {enc : TypeId × Value → H} {W : World} {a : Option Addr} {len cap : Nat} {d : DataW H} {p : List MemPlace}
    (h : DataW.Trod enc Tryz.prog W 0 (fun _ => true) true 31 (.slice a len cap) d p) : IsInts W a len cap := by
  obtain ⟨fuel, hf⟩ := h
  rcases Nat.eq_zero_or_pos len with h0 | h0
  · exact .inl h0
  rcases open_ints Tryz.underlying31 Tryz.underlying3 Tryz.cellsOfInt hf with ⟨hcs, _⟩ | ⟨x, l, c, zs, hcs, _, hl, hm, hz, _, hx, hw⟩
  · simp [Value.cells] at hcs
    omega
  · simp [Value.cells] at hcs
    obtain ⟨rfl, rfl, rfl⟩ := hcs
    have hz' : zs.length = cap := by simpa using hz
    obtain ⟨b, off, spot⟩ := x
    have hc0 := hx 0 (by omega)
    have hspot : spot = none := by simpa [Addr.add] using World.cell?_spot hc0
    subst hspot
    refine .inr ⟨b, off, fun i => zs.getD i 0, rfl, cell_lt hc0, hl, hm, fun i hi => ?_, fun i hi => ?_⟩
    · have := hx i (by omega)
      rw [add_plain] at this
      exact this
    · refine hw _ ?_
      show zs.getD i 0 ∈ zs
      rw [List.getD_eq_getElem?_getD, List.getElem?_eq_getElem (by omega), Option.getD_some]
      exact List.getElem_mem _
end Go.Proofs.YtaihcceobnfmhaaGreatDoor

namespace Go.Proofs.YtaihcceobnfmhaaGreatDoor

def pO (v : Int) : Int := v / 8 % 6
def pB (v : Int) : Int := v / 8 / 6 % 3
def pN (v : Int) : Int := v / 8 / 18 % 2000 + 1
def pR (v : Int) : Int := v / 8 % 8
def pE (C : Ch) (v : Int) : Ev := (pB v, (C.cyc : Int) - v / 8 / 18 % 4, v / 8 / 72 % 5)
/-- a number of a play: its answer, and what the chain becomes -/
inductive Played (C : Ch) (v : Int) : Int → Ch → Prop
  | neg (h : v < 0) : Played C v (-1) C
  | pay (h0 : 0 ≤ v) (h : v % 8 = 0) : Played C v (C.p.moveC (pO v) (pB v) (pN v)) (C.pay (pO v) (pB v) (pN v))
  | stake (h0 : 0 ≤ v) (h : v % 8 = 1) : Played C v (C.stakeC (pO v) (pB v) (pN v)) (C.stake (pO v) (pB v) (pN v))
  | unstake (h0 : 0 ≤ v) (h : v % 8 = 2) : Played C v (C.s.leaveC (pO v) (pB v) (pN v) C.cyc) (C.unstake (pO v) (pB v) (pN v))
  | free (h0 : 0 ≤ v) (h : v % 8 = 3) : Played C v (C.s.freeC (pO v) C.cyc) (C.free (pO v))
  | accuse (h0 : 0 ≤ v) (h : v % 8 = 4) : Played C v (C.c.accC (pO v) (pE C v) C.cyc) (C.accuse (pO v) (pE C v))
  | bake (h0 : 0 ≤ v) (h : 5 ≤ v % 8) (k : Int) (T : Turn 3 C.pic C.seed C.cyc C.lev (pR v) k) : Played C v 0 (C.bake k)
theorem Played.one {C C1 C2 : Ch} {v e1 e2 : Int} (h : Played C v e1 C1) (g : Played C v e2 C2) : e1 = e2 ∧ C1 = C2 := by
  cases h <;> cases g <;> first
    | exact ⟨rfl, rfl⟩
    | (exfalso; omega)
    | (rename_i k T _ _ k' T'; obtain rfl := T.one T'; exact ⟨rfl, rfl⟩)
theorem Played.went {C C' : Ch} {v e : Int} {i : Nat} (h : Played C v e C') (hC : C.Ok) (f : C.Fit i) : ∃ n, C.Went C' n i := by
  cases h with
  | neg h => exact ⟨_, .same hC f⟩
  | pay => exact ⟨_, .pay hC f _ _ _⟩
  | stake => exact ⟨_, .stake hC f _ _ _⟩
  | unstake => exact ⟨_, .unstake hC f _ _ _⟩
  | free => exact ⟨_, .free hC f _⟩
  | accuse => exact ⟨_, .accuse hC f _ _⟩
  | bake h0 h k T => exact ⟨_, .bake hC f k⟩
/-- the first so many numbers of a script: their answers, and what the chain becomes -/
def RanTo (C0 : Ch) (W : Nat → Int) : Nat → (Nat → Int) → Ch → Prop
  | 0, _, C => C = C0
  | n + 1, K, C => ∃ C1, RanTo C0 W n K C1 ∧ Played C1 (W n) (K n) C
theorem RanTo.one {C0 : Ch} {W : Nat → Int} : ∀ (n : Nat) {K K' : Nat → Int} {C C' : Ch}, RanTo C0 W n K C → RanTo C0 W n K' C' → C = C' ∧ ∀ i, i < n → K i = K' i
  | 0, _, _, _, _, h, g => ⟨h.trans g.symm, fun i hi => by omega⟩
  | n + 1, K, K', C, C', ⟨D, h, p⟩, ⟨D', h', p'⟩ => by
    obtain ⟨rfl, e⟩ := RanTo.one n h h'
    obtain ⟨e1, e2⟩ := p.one p'
    refine ⟨e2, fun i hi => ?_⟩
    rcases Nat.lt_or_eq_of_le (Nat.le_of_lt_succ hi) with l | l
    · exact e i l
    · rw [l]; exact e1
theorem RanTo.congr {C0 : Ch} {W V : Nat → Int} {K K' : Nat → Int} : ∀ (n : Nat) {C : Ch}, (∀ i, i < n → W i = V i) → (∀ i, i < n → K i = K' i) → RanTo C0 W n K C → RanTo C0 V n K' C
  | 0, _, _, _, h => h
  | n + 1, _, hW, hK, ⟨D, h, p⟩ => ⟨D, RanTo.congr n (fun i hi => hW i (by omega)) (fun i hi => hK i (by omega)) h, by rw [← hW n (by omega), ← hK n (by omega)]; exact p⟩
/-- one behind the other -/
theorem RanTo.cut {C0 C1 : Ch} {W : Nat → Int} {c : Nat} {K K' : Nat → Int} (h : RanTo C0 W c K C1) : ∀ (m : Nat) {C2 : Ch}, RanTo C1 (fun i => W (c + i)) m K' C2 → RanTo C0 W (c + m) (fun i => if i < c then K i else K' (i - c)) C2
  | 0, C2, g => by
    have g : C2 = C1 := g
    subst g
    exact RanTo.congr c (fun _ _ => rfl) (fun i hi => (if_pos hi).symm) h
  | m + 1, _, ⟨D, g, p⟩ => by
    refine ⟨D, RanTo.cut h m g, ?_⟩
    show Played D (W (c + m)) (if c + m < c then K (c + m) else K' (c + m - c)) _
    rw [if_neg (by omega), Nat.add_sub_cancel_left]
    exact p
theorem RanTo.ok {C0 : Ch} {W : Nat → Int} (h0 : C0.Ok) {j : Nat} (f0 : C0.Fit j) : ∀ (n : Nat) {K : Nat → Int} {C : Ch}, RanTo C0 W n K C → C.Ok ∧ C.Fit (j + n)
  | 0, _, C, h => by
    have h : C = C0 := h
    rw [h]; exact ⟨h0, f0⟩
  | n + 1, _, _, ⟨D, h, p⟩ => by
    obtain ⟨a, b⟩ := RanTo.ok h0 f0 n h
    obtain ⟨m, g⟩ := p.went a b
    exact ⟨g.ok, g.fit⟩
end Go.Proofs.YtaihcceobnfmhaaGreatDoor

namespace Go.Proofs.YtaihcceobnfmhaaGreatDoor
open Go.RowKit

/-- a slice that reads as so many numbers -/
def RowV (w : World) (v : Value) (n : Nat) (K : Nat → Int) : Prop := ∃ a cap, v = .slice a n cap ∧ ∀ i, i < n → ∃ b off, a = some ⟨b, off, none⟩ ∧ b < w.heap.size ∧ w.cell? ⟨b, off + i, none⟩ = some (.int .i64 (K i))
theorem RowV.below {w w' : World} {v : Value} {n : Nat} {K : Nat → Int} (h : RowV w v n K) (hB : Below w.heap.size w w') : RowV w' v n K := by
  obtain ⟨a, cap, rfl, h⟩ := h
  refine ⟨a, cap, rfl, fun i hi => ?_⟩
  obtain ⟨b, off, e, hb, c⟩ := h i hi
  exact ⟨b, off, e, Nat.lt_of_lt_of_le hb hB.size, by rw [hB.cell (p := ⟨b, off + i, none⟩) hb]; exact c⟩
theorem RowV.congr {w : World} {v : Value} {n : Nat} {K K' : Nat → Int} (h : RowV w v n K) (e : ∀ i, i < n → K i = K' i) : RowV w v n K' := by
  obtain ⟨a, cap, rfl, h⟩ := h
  refine ⟨a, cap, rfl, fun i hi => ?_⟩
  rw [← e i hi]
  exact h i hi
theorem drewN_again (w : World) (m n : Nat) : (w.drewN m).drewN n = w.drewN (m + n) := by simp [World.drewN, Nat.add_assoc]
set_option maxRecDepth 100000 in
theorem sameInts_of (va vb : Value) (n : Nat) (hn : n ≤ 1000) (K : Nat → Int) (w : World) (hA : RowV w va n K) (hB : RowV w vb n K) :
    Calls Tryz.prog 34 #[va, vb] w fun e w' => e = .returned (.bool true) ∧ ∃ m, w' = w.drewN m := by
  obtain ⟨a, ca, rfl, hA⟩ := hA
  obtain ⟨b, cb, rfl, hB⟩ := hB
  have dn : ((n : Int) != (n : Int)) = false := by simp
  go_enter Tryz.func34, Tryz.ntmps34
  go_wp2
  go_loopw [5] (fun i wr => ∃ k : Nat, k ≤ n ∧ i = .int .i64 k ∧ ∃ m, wr = w.drewN m) (fun i _ => n - (intOf i).toNat)
  case atStart => exact ⟨0, Nat.zero_le _, rfl, 0, rfl⟩
  case round =>
    obtain ⟨k, hk, rfl, m, hw⟩ := hrel
    clear dn
    by_cases hlt : k < n
    · obtain ⟨b1, o1, rfl, _, c0'⟩ := hA k hlt
      obtain ⟨b2, o2, rfl, _, c1'⟩ := hB k hlt
      have c0 : wr.cell? ⟨b1, o1 + k, none⟩ = some (.int .i64 (K k)) := by rw [hw]; exact c0'
      have c1 : wr.cell? ⟨b2, o2 + k, none⟩ = some (.int .i64 (K k)) := by rw [hw]; exact c1'
      have HW := hide hw
      have d : (K k != K k) = false := by simp
      clear hA hB c0' c1' hw
      go_wp2
      go_quiet (fail)
      go_wp2
      go_roundw
      case rel => exact ⟨k + 1, by omega, by go_num, _, by rw [HW.out, drewN_again]⟩
      case measure => simp [intOf]; omega
    · obtain rfl : k = n := by omega
      have HW := hide hw
      clear hw hA hB
      go_wp2
      go_ret
      exact ⟨rfl, m, HW.out⟩
def kRow (K : Nat → Int) : Nat → List Value
  | 0 => []
  | k + 1 => kRow K k ++ [.int .i64 (K k)]
theorem kRow_len (K : Nat → Int) : ∀ k, (kRow K k).length = k
  | 0 => rfl
  | k + 1 => by simp [kRow, kRow_len K k]
theorem kRow_at (K : Nat → Int) (k i : Nat) (h : i < k) : (kRow K k)[i]? = some (.int .i64 (K i)) := by
  induction k with
  | zero => omega
  | succ k ih =>
    rcases Nat.lt_or_eq_of_le (Nat.le_of_lt_succ h) with l | l
    · rw [kRow, List.getElem?_append_left (by rw [kRow_len]; exact l)]; exact ih l
    · subst l; rw [kRow, List.getElem?_append_right (by rw [kRow_len]; omega), kRow_len]; simp
theorem kRow_congr {K K' : Nat → Int} : ∀ k, (∀ i, i < k → K i = K' i) → kRow K k = kRow K' k
  | 0, _ => rfl
  | k + 1, h => by rw [kRow, kRow, kRow_congr k (fun i hi => h i (by omega)), h k (by omega)]
theorem kRow_next (K : Nat → Int) (k : Nat) (x : Int) : kRow (fun i => if i = k then x else K i) (k + 1) = kRow K k ++ [.int .i64 x] := by
  show kRow _ k ++ [.int .i64 (if k = k then x else K k)] = _
  rw [if_pos rfl, kRow_congr k (fun i hi => if_neg (by omega))]
theorem row_reads {w : World} {B n : Nat} {v : Value} {K : Nat → Int} (h : w.ownsRow B 3 1 v n (kRow K n)) : RowV w v n K := by
  rcases h.2 with ⟨e, h0⟩ | ⟨m, cap, cur, e, _, _, _, _, _⟩
  · subst h0
    exact ⟨none, 0, e, fun i hi => by omega⟩
  · subst e
    refine ⟨_, _, rfl, fun i hi => ⟨m, 0, rfl, (h.lt m rfl).2, ?_⟩⟩
    rw [Nat.zero_add]
    exact (h.cellAt i (by omega)).trans (kRow_at K n i hi)

/-! scripts -/
/-- a slice of numbers that lies beside F -/
def Script (w : World) (F : Nat → Prop) (v : Value) (n : Nat) (W : Nat → Int) : Prop := ∃ a cap, v = .slice a n cap ∧ n ≤ cap ∧ ∀ i, i < n → ∃ b off, a = some ⟨b, off, none⟩ ∧ b < w.heap.size ∧ ¬ F b ∧ w.cell? ⟨b, off + i, none⟩ = some (.int .i64 (W i)) ∧ W i ≤ 9223372036854775807
theorem ownInts_cap (b off n cap : Nat) (W : Nat → Int) (w : World) (hI : Ints w b off n W) (h0 : 0 < n) (h1 : n ≤ 1000) :
    Calls Tryz.prog 32 #[.slice (some ⟨b, off, none⟩) n cap] w fun e w' => ∃ m cap', e = .returned (.slice (some ⟨m, 0, none⟩) n cap') ∧ n ≤ cap' ∧ m < w'.heap.size ∧ Ints w' m 0 n W ∧ Below w.heap.size w w' ∧ w.heap.size ≤ m := by
  go_enter Tryz.func32, Tryz.ntmps32
  go_wp2_with (at_builtin; refine wpList_append_by _ rfl (.tmp 4) (.tmp 5) 31 rfl _ _ rfl rfl _ _ (append_run_ints _ b off n cap W _ hI h0 h1) ?_)
  go_ret
  exact ⟨_, _, rfl, grownCap_ge _ _ _ _, by simp, fun i hi => by rw [Nat.zero_add]; exact cell_new _ _ _ _ _ _ rfl (copyCells_ints w n W i hi), ((Below.refl _ _).drew).alloc (Nat.le_refl _) _, Nat.le_refl _⟩
/-- a copy of one's own -/
theorem own_of (v : Value) (n : Nat) (hn : n ≤ 1000) (W : Nat → Int) (hW : ∀ i, i < n → W i ≤ 9223372036854775807) (w : World) (h : RowV w v n W) :
    Calls Tryz.prog 32 #[v] w fun e w' => ∃ u, e = .returned u ∧ (∀ F : Nat → Prop, (∀ k, F k → k < w.heap.size) → Script w' F u n W) ∧ Below w.heap.size w w' := by
  obtain ⟨a, cap, rfl, h⟩ := h
  rcases Nat.eq_zero_or_pos n with rfl | h0
  · exact (ownInts_none a cap w).mono fun e w' ⟨h1, h2⟩ => ⟨_, h1, fun F _ => ⟨_, _, rfl, Nat.zero_le _, fun i hi => by omega⟩, by rw [h2]; exact Below.refl _ _⟩
  · obtain ⟨b, off, rfl, _, _⟩ := h 0 h0
    have hI : Ints w b off n W := fun i hi => by
      obtain ⟨b', off', e, _, c⟩ := h i hi
      cases e
      exact c
    exact (ownInts_cap b off n cap W w hI h0 hn).mono fun _ _ ⟨m, _, h1, hc, h2, h3, h4, h5⟩ => ⟨_, h1, fun F hF => ⟨_, _, rfl, hc, fun i hi => ⟨m, 0, rfl, h2, fun g => absurd (hF m g) (Nat.not_lt.2 h5), h3 i hi, hW i hi⟩⟩, h4⟩
/-- nothing is appended -/
theorem append_owned_empty (w : World) (base : Nat) (ty : TypeId) (v : Value) (n : Nat) (xs : List Value) (a : Option Addr) (c : Nat) (hown : w.ownsRow base 3 1 v n xs) :
    (Builtin.append_ #[31, 31] ty #[v, .slice a 0 c]).run Tryz.prog w = .ok v w := by
  obtain ⟨i, hi, hz, hs, hb⟩ := info_parts Tryz.infoInts
  rcases hown.2 with ⟨rfl, rfl⟩ | ⟨g, cap, cur, rfl, _, _, hnc, _⟩
  · cases a <;> simp [Builtin.append_, run_underlying Tryz.underlying31, sizeOf, typeInfo, hi, Builtin.lenOf, Builtin.firstCells, loadCells, loadCellsFrom]
  · cases a <;> simp [Builtin.append_, run_underlying Tryz.underlying31, sizeOf, typeInfo, hi, Builtin.lenOf, Builtin.firstCells, hnc, storeCells, loadCells, loadCellsFrom]
end Go.Proofs.YtaihcceobnfmhaaGreatDoor
