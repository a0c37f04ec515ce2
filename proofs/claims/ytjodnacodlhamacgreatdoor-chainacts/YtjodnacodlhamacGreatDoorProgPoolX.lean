/-
  plain.Code of this program by its contracts: nil, a sentinel, a fault with a sentinel in it, another error.
  What Code tells of an error, by its number.
  The program's pool by its contracts: what it tells.
-/
import Derived.Test.YtjodnacodlhamacGreatDoorErrsAs
import Derived.Test.YtjodnacodlhamacGreatDoorProgPurseX
import Derived.Test.YtjodnacodlhamacGreatDoorPart
import Derived.Test.YtjodnacodlhamacGreatDoorAidX
import Derived.Maps.OwnSet
import Derived.Maps.OwnOps
import Derived.Deep.QuietTactic
import Derived.BigQuiet
namespace Go.Proofs.YtjodnacodlhamacGreatDoor
open Go.RowKit

/-- package api's ten sentinels in the order of their numbers, and package errors' handle, as they lie in memory -/
structure Laid (w : World) (A : Nat → Addr) : Prop where
  v0 : w.cell? ⟨2, 0, none⟩ = some (sent (A 0))
  v1 : w.cell? ⟨0, 0, none⟩ = some (sent (A 1))
  v2 : w.cell? ⟨3, 0, none⟩ = some (sent (A 2))
  v3 : w.cell? ⟨4, 0, none⟩ = some (sent (A 3))
  v4 : w.cell? ⟨5, 0, none⟩ = some (sent (A 4))
  v5 : w.cell? ⟨6, 0, none⟩ = some (sent (A 5))
  v6 : w.cell? ⟨7, 0, none⟩ = some (sent (A 6))
  v7 : w.cell? ⟨8, 0, none⟩ = some (sent (A 7))
  v8 : w.cell? ⟨1, 0, none⟩ = some (sent (A 8))
  v9 : w.cell? ⟨9, 0, none⟩ = some (sent (A 9))
  h : w.cell? ⟨10, 0, none⟩ = some hErr
  plain : ∀ i, i < 10 → Plain w (A i)
  apart : ∀ i j, i < 10 → j < 10 → i ≠ j → A i ≠ A j
theorem old_cell {w w' : World} (hB : Below w.heap.size w w') {a : Addr} {v : Value} (h : w.cell? a = some v) : w'.cell? a = some v := by
  rw [hB.cell (cell_lt h)]; exact h
theorem Laid.below {w w' : World} {A : Nat → Addr} (h : Laid w A) (hB : Below w.heap.size w w') : Laid w' A :=
  ⟨old_cell hB h.v0, old_cell hB h.v1, old_cell hB h.v2, old_cell hB h.v3, old_cell hB h.v4, old_cell hB h.v5, old_cell hB h.v6, old_cell hB h.v7, old_cell hB h.v8, old_cell hB h.v9, old_cell hB h.h, fun i hi => (h.plain i hi).below hB, h.apart⟩
theorem Laid.drewN {w : World} {A : Nat → Addr} (h : Laid w A) (n : Nat) : Laid (w.drewN n) A := h.below (below_drewN (Below.refl _ _) n)

/-- the ten, in a row -/
abbrev ten (A : Nat → Addr) : Array Value := #[sent (A 0), sent (A 1), sent (A 2), sent (A 3), sent (A 4), sent (A 5), sent (A 6), sent (A 7), sent (A 8), sent (A 9)]
theorem ten_at (A : Nat → Addr) : ∀ i, i < 10 → (ten A)[i]? = some (sent (A i))
  | 0, _ => rfl | 1, _ => rfl | 2, _ => rfl | 3, _ => rfl | 4, _ => rfl | 5, _ => rfl | 6, _ => rfl | 7, _ => rfl | 8, _ => rfl | 9, _ => rfl
  | n + 10, h => absurd h (by omega)

theorem code_nil (w : World) : Calls Tryz.prog 39 #[.nilIface] w fun e w' => e = .returned (.tuple #[.int .i64 0, .int .i64 (-1)]) ∧ w' = w := by
  go_enter Tryz.func39, Tryz.ntmps39
  go_wp2
  go_ret2
  exact ⟨rfl, rfl⟩

/-- what errors.Is tells of an error: the k-th sentinel's (k = 10: none's) -/
def IsAt (w : World) (A : Nat → Addr) (x : Value) (k : Nat) : Prop :=
  ∀ w' i, Below w.heap.size w w' → i < 10 → Calls Tryz.prog 99 #[x, sent (A i)] w' fun e w'' => e = .returned (.bool (decide (i = k))) ∧ w'' = w'

set_option maxRecDepth 100000 in
set_option maxHeartbeats 2000000 in
/-- an error that is the k-th sentinel's, and no fault -/
theorem code_plain (u : TypeId) (y : Value) (A : Nat → Addr) (k : Nat) (w : World) (hL : Laid w A) (hk : k < 10) (hI : IsAt w A (.iface u y) k)
    (hA : ∀ w' t, Below w.heap.size w w' → Calls Tryz.prog 98 #[.iface u y, .iface 131 (.pointer (some t))] w' fun e w'' => e = .returned (.bool false) ∧ Below w'.heap.size w' w'') :
    Calls Tryz.prog 39 #[.iface u y] w fun e w' => e = .returned (.tuple #[.int .i64 (k + 1), .int .i64 (-1)]) ∧ Below w.heap.size w w' := by
  go_enter Tryz.func39, Tryz.ntmps39
  go_wp2_with fail
  refine (hA _ _ ((Below.refl _ _).alloc (Nat.le_refl _) _)).mono ?_
  rintro e w1 ⟨rfl, hB0⟩
  have hB : Below w.heap.size w w1 := ((Below.refl _ _).alloc (Nat.le_refl _) _).trans (hB0.mono (by simp))
  obtain ⟨v0, v1, v2, v3, v4, v5, v6, v7, v8, v9, _, _, _⟩ := hL.below hB
  clear hB0 hA hL
  go_wp2_with fail
  go_loop [3, 28] (fun a i => a = .int .i64 (-1) ∧ ∃ m : Nat, m ≤ k ∧ i = .int .i64 m) (fun _ i => 10 - (intOf i).toNat)
  case atStart => exact ⟨rfl, 0, Nat.zero_le _, rfl⟩
  case round =>
    obtain ⟨rfl, m, hm, rfl⟩ := hrel
    have hBl : Below w.heap.size w (w1.alloc (.cells (ten A) 27)) := hB.alloc hB.size _
    by_cases hmk : m = k
    · subst hmk
      have hc : (w1.alloc (.cells (ten A) 27)).cell? ⟨w1.heap.size, m, none⟩ = some (sent (A m)) := cell_new _ _ _ _ _ _ rfl (ten_at A m hk)
      have hi := hI _ m hBl hk
      have e1 : decide (m = m) = true := by simp
      rw [e1] at hi
      have HI := hide hi
      clear hi e1
      go_wp2_with fail
      refine HI.out.mono ?_
      rintro e w2 ⟨rfl, rfl⟩
      go_wp2
      go_ret2
      exact ⟨rfl, hBl⟩
    · have hm10 : m < 10 := by omega
      have hc : (w1.alloc (.cells (ten A) 27)).cell? ⟨w1.heap.size, m, none⟩ = some (sent (A m)) := cell_new _ _ _ _ _ _ rfl (ten_at A m hm10)
      have hi := hI _ m hBl hm10
      have e1 : decide (m = k) = false := by simp [hmk]
      rw [e1] at hi
      have HI := hide hi
      have HM := hide hmk
      clear hi e1 hmk
      go_wp2_with fail
      refine HI.out.mono ?_
      rintro e w2 ⟨rfl, rfl⟩
      go_wp2
      go_round
      case rel => exact ⟨rfl, m + 1, by have := HM.out; omega, by go_num⟩
      case measure => simp [intOf]; omega
set_option maxRecDepth 100000 in
set_option maxHeartbeats 2000000 in
/-- an error that is none of the sentinels', and no fault -/
theorem code_none (u : TypeId) (y : Value) (A : Nat → Addr) (w : World) (hL : Laid w A) (hI : IsAt w A (.iface u y) 10)
    (hA : ∀ w' t, Below w.heap.size w w' → Calls Tryz.prog 98 #[.iface u y, .iface 131 (.pointer (some t))] w' fun e w'' => e = .returned (.bool false) ∧ Below w'.heap.size w' w'') :
    Calls Tryz.prog 39 #[.iface u y] w fun e w' => e = .returned (.tuple #[.int .i64 (-1), .int .i64 (-1)]) ∧ Below w.heap.size w w' := by
  go_enter Tryz.func39, Tryz.ntmps39
  go_wp2_with fail
  refine (hA _ _ ((Below.refl _ _).alloc (Nat.le_refl _) _)).mono ?_
  rintro e w1 ⟨rfl, hB0⟩
  have hB : Below w.heap.size w w1 := ((Below.refl _ _).alloc (Nat.le_refl _) _).trans (hB0.mono (by simp))
  obtain ⟨v0, v1, v2, v3, v4, v5, v6, v7, v8, v9, _, _, _⟩ := hL.below hB
  clear hB0 hA hL
  go_wp2_with fail
  go_loop [3, 28] (fun a i => a = .int .i64 (-1) ∧ ∃ m : Nat, m ≤ 10 ∧ i = .int .i64 m) (fun _ i => 10 - (intOf i).toNat)
  case atStart => exact ⟨rfl, 0, Nat.zero_le _, rfl⟩
  case round =>
    obtain ⟨rfl, m, hm, rfl⟩ := hrel
    have hBl : Below w.heap.size w (w1.alloc (.cells (ten A) 27)) := hB.alloc hB.size _
    by_cases hm10 : m < 10
    · have hc : (w1.alloc (.cells (ten A) 27)).cell? ⟨w1.heap.size, m, none⟩ = some (sent (A m)) := cell_new _ _ _ _ _ _ rfl (ten_at A m hm10)
      have hi := hI _ m hBl hm10
      have e1 : decide (m = 10) = false := by simp; omega
      rw [e1] at hi
      have HI := hide hi
      clear hi e1
      go_wp2_with fail
      refine HI.out.mono ?_
      rintro e w2 ⟨rfl, rfl⟩
      go_wp2
      go_round
      case rel => exact ⟨rfl, m + 1, by omega, by go_num⟩
      case measure => simp [intOf]; omega
    · go_wp2
      go_ret2
      exact ⟨rfl, hBl⟩
set_option maxRecDepth 100000 in
set_option maxHeartbeats 2000000 in
/-- a fault at a place, with the k-th sentinel in it -/
theorem code_fault (n : Nat) (at' : Int) (A : Nat → Addr) (k : Nat) (w : World) (hL : Laid w A) (hk : k < 10) (hc0 : w.cell? ⟨n, 0, none⟩ = some (.int .i64 at')) (hI : IsAt w A (flt n) k) :
    Calls Tryz.prog 39 #[flt n] w fun e w' => e = .returned (.tuple #[.int .i64 (k + 1), .int .i64 at']) ∧ Below w.heap.size w w' := by
  have hn : n < w.heap.size := cell_lt hc0
  have hg : ∀ o, (w.alloc o).cell? ⟨10, 0, none⟩ = some hErr := fun o => by rw [World.cell?_alloc_lt _ _ ⟨10, 0, none⟩ (cell_lt hL.h)]; exact hL.h
  have hgl : 10 < w.heap.size := cell_lt hL.h
  have fa := As_fault ⟨n, 0, none⟩ ⟨w.heap.size, 0, none⟩ (.pointer none) (w.alloc (.cells #[.pointer none] 129)) (hg _) (by simp; omega) (by simp) (by simp)
  go_enter Tryz.func39, Tryz.ntmps39
  go_wp2_with fail
  refine fa.mono ?_
  rintro e w1 ⟨rfl, hw1⟩
  have hB : Below w.heap.size w w1 := by
    rw [hw1]
    exact ((((((Below.refl _ _).alloc (Nat.le_refl _) _).alloc (by simp) _).alloc (by simp; omega) _).alloc (by simp; omega) _).alloc (by simp; omega) _).setCell (Nat.le_refl _) _
  have hf : w1.cell? ⟨w.heap.size, 0, none⟩ = some (.pointer (some ⟨n, 0, none⟩)) := by
    rw [hw1]
    refine World.cell?_setCell_same _ _ _ (u := .pointer none) ?_
    rw [World.cell?_alloc_lt _ _ ⟨w.heap.size, 0, none⟩ (by simp; omega), World.cell?_alloc_lt _ _ ⟨w.heap.size, 0, none⟩ (by simp; omega), World.cell?_alloc_lt _ _ ⟨w.heap.size, 0, none⟩ (by simp; omega), World.cell?_alloc_lt _ _ ⟨w.heap.size, 0, none⟩ (by simp)]
    simp
  obtain ⟨v0, v1, v2, v3, v4, v5, v6, v7, v8, v9, _, _, _⟩ := hL.below hB
  have hn1 := old_cell hB hc0
  clear hw1 fa hg hL hc0
  go_wp2_with fail
  go_loop [3, 28] (fun a i => a = .int .i64 at' ∧ ∃ m : Nat, m ≤ k ∧ i = .int .i64 m) (fun _ i => 10 - (intOf i).toNat)
  case atStart => exact ⟨rfl, 0, Nat.zero_le _, rfl⟩
  case round =>
    obtain ⟨rfl, m, hm, rfl⟩ := hrel
    have hBl : Below w.heap.size w (w1.alloc (.cells (ten A) 27)) := hB.alloc hB.size _
    by_cases hmk : m = k
    · subst hmk
      have hc : (w1.alloc (.cells (ten A) 27)).cell? ⟨w1.heap.size, m, none⟩ = some (sent (A m)) := cell_new _ _ _ _ _ _ rfl (ten_at A m hk)
      have hi := hI _ m hBl hk
      have e1 : decide (m = m) = true := by simp
      rw [e1] at hi
      have HI := hide hi
      clear hi e1
      go_wp2_with fail
      refine HI.out.mono ?_
      rintro e w2 ⟨rfl, rfl⟩
      go_wp2
      go_ret2
      exact ⟨rfl, hBl⟩
    · have hm10 : m < 10 := by omega
      have hc : (w1.alloc (.cells (ten A) 27)).cell? ⟨w1.heap.size, m, none⟩ = some (sent (A m)) := cell_new _ _ _ _ _ _ rfl (ten_at A m hm10)
      have hi := hI _ m hBl hm10
      have e1 : decide (m = k) = false := by simp [hmk]
      rw [e1] at hi
      have HI := hide hi
      have HM := hide hmk
      clear hi e1 hmk
      go_wp2_with fail
      refine HI.out.mono ?_
      rintro e w2 ⟨rfl, rfl⟩
      go_wp2
      go_round
      case rel => exact ⟨rfl, m + 1, by have := HM.out; omega, by go_num⟩
      case measure => simp [intOf]; omega

/-! at the errors that there are -/
theorem isAt_sent {w : World} {A : Nat → Addr} (hL : Laid w A) (k : Nat) (hk : k < 10) : IsAt w A (sent (A k)) k := by
  intro w' i hB hi
  have hL' := hL.below hB
  by_cases h : i = k
  · subst h
    have e : decide (i = i) = true := by simp
    rw [e]
    exact Is_of _ _ _ rfl (A i) true w' (is_same (A i) w')
  · have e : decide (i = k) = false := by simp [h]
    rw [e]
    exact Is_of _ _ _ rfl (A i) false w' (is_other (A k) (A i) w' (hL.apart k i hk hi (fun x => h x.symm)) (hL'.plain k hk) (hL'.plain i hi))
theorem isAt_fault {w : World} {A : Nat → Addr} (hL : Laid w A) (n k : Nat) (hk : k < 10) (hc : w.cell? ⟨n, 1, none⟩ = some (sent (A k))) : IsAt w A (flt n) k := by
  intro w' i hB hi
  have hL' := hL.below hB
  have hc' := old_cell hB hc
  by_cases h : i = k
  · subst h
    have e : decide (i = i) = true := by simp
    rw [e]
    exact Is_of _ _ _ rfl (A i) true w' (is_fault_same n (A i) w' hc')
  · have e : decide (i = k) = false := by simp [h]
    rw [e]
    exact Is_of _ _ _ rfl (A i) false w' (is_fault_other n (A k) (A i) w' hc' (hL.apart k i hk hi (fun x => h x.symm)) (hL'.plain k hk) (hL'.plain i hi))
theorem isAt_none {w : World} {A : Nat → Addr} (hL : Laid w A) (a : Addr) (ha : Plain w a) (hne : ∀ i, i < 10 → a ≠ A i) : IsAt w A (sent a) 10 := by
  intro w' i hB hi
  have hL' := hL.below hB
  have e : decide (i = 10) = false := by simp; omega
  rw [e]
  exact Is_of _ _ _ rfl (A i) false w' (is_other a (A i) w' (hne i hi) (ha.below hB) (hL'.plain i hi))
theorem noAs {w : World} {A : Nat → Addr} (hL : Laid w A) (a : Addr) : ∀ w' t, Below w.heap.size w w' → Calls Tryz.prog 98 #[sent a, .iface 131 (.pointer (some t))] w' fun e w'' => e = .returned (.bool false) ∧ Below w'.heap.size w' w'' :=
  fun w' t hB => As_sent a t w' (hL.below hB).h (cell_lt (hL.below hB).h)

/-- Code of the k-th sentinel: k + 1, nowhere. -/
theorem code_sent (A : Nat → Addr) (k : Nat) (w : World) (hL : Laid w A) (hk : k < 10) :
    Calls Tryz.prog 39 #[sent (A k)] w fun e w' => e = .returned (.tuple #[.int .i64 (k + 1), .int .i64 (-1)]) ∧ Below w.heap.size w w' :=
  code_plain _ _ A k w hL hk (isAt_sent hL k hk) (noAs hL (A k))
/-- Code of a fault with the k-th sentinel: k + 1, its place. -/
theorem code_flt (n : Nat) (at' : Int) (A : Nat → Addr) (k : Nat) (w : World) (hL : Laid w A) (hk : k < 10) (hc0 : w.cell? ⟨n, 0, none⟩ = some (.int .i64 at')) (hc1 : w.cell? ⟨n, 1, none⟩ = some (sent (A k))) :
    Calls Tryz.prog 39 #[flt n] w fun e w' => e = .returned (.tuple #[.int .i64 (k + 1), .int .i64 at']) ∧ Below w.heap.size w w' :=
  code_fault n at' A k w hL hk hc0 (isAt_fault hL n k hk hc1)
/-- Code of another error of package errors: -1, nowhere. -/
theorem code_other (a : Addr) (A : Nat → Addr) (w : World) (hL : Laid w A) (ha : Plain w a) (hne : ∀ i, i < 10 → a ≠ A i) :
    Calls Tryz.prog 39 #[sent a] w fun e w' => e = .returned (.tuple #[.int .i64 (-1), .int .i64 (-1)]) ∧ Below w.heap.size w w' :=
  code_none _ _ A w hL (isAt_none hL a ha hne) (noAs hL a)

/-! the laws' own two helpers -/
/-- what Code tells of a value, from a world on -/
def Tells (w : World) (x : Value) (c p : Int) : Prop :=
  ∀ w', Below w.heap.size w w' → Calls Tryz.prog 39 #[x] w' fun e w'' => e = .returned (.tuple #[.int .i64 c, .int .i64 p]) ∧ Below w'.heap.size w' w''
theorem Tells.below {w w' : World} {x : Value} {c p : Int} (h : Tells w x c p) (hB : Below w.heap.size w w') : Tells w' x c p :=
  fun w'' hB' => h w'' (hB.trans (hB'.mono hB.size))
theorem tells_nil (w : World) : Tells w .nilIface 0 (-1) := fun w' _ => (code_nil w').mono fun e w'' ⟨a, b⟩ => ⟨a, by rw [b]; exact Below.refl _ _⟩
theorem tells_sent {w : World} {A : Nat → Addr} (hL : Laid w A) (k : Nat) (hk : k < 10) : Tells w (sent (A k)) (k + 1) (-1) := fun w' hB => code_sent A k w' (hL.below hB) hk
theorem tells_flt {w : World} {A : Nat → Addr} (hL : Laid w A) (n k : Nat) (p : Int) (hk : k < 10) (hc0 : w.cell? ⟨n, 0, none⟩ = some (.int .i64 p)) (hc1 : w.cell? ⟨n, 1, none⟩ = some (sent (A k))) : Tells w (flt n) (k + 1) p :=
  fun w' hB => code_flt n p A k w' (hL.below hB) hk (old_cell hB hc0) (old_cell hB hc1)

end Go.Proofs.YtjodnacodlhamacGreatDoor

namespace Go.Proofs.YtjodnacodlhamacGreatDoor
open Go.RowKit

theorem ErrIs.tells {A : Nat → Addr} {e : Value} {c : Int} (h : ErrIs A e c) {w : World} (hL : Laid w A) : Tells w e c (-1) := by
  rcases h with ⟨rfl, rfl⟩ | ⟨i, hi, rfl, rfl⟩
  · exact tells_nil w
  · exact tells_sent hL i hi
end Go.Proofs.YtjodnacodlhamacGreatDoor

namespace Go.Proofs.YtjodnacodlhamacGreatDoor
open Go.RowKit Go.Maps

theorem keyed : Keyed Tryz.prog 3 := int_keyed Tryz.underlying3
theorem zeroInt (w : World) : (zeroValue 3).run Tryz.prog w = .ok (.int .i64 0) w := by kernel_rfl

theorem lit_int {H : Type} {a b : Int} (h : (DataW.lit (.int .i64 a) : DataW H) = .lit (.int .i64 b)) : a = b := by cases h; rfl

/-- what the pool's errors hold -/
structure PoolLaid (w : World) (A : Nat → Addr) (short : Bool) : Prop where
  v1 : w.cell? ⟨0, 0, none⟩ = some (sent (A 1))
  v3 : w.cell? ⟨4, 0, none⟩ = some (sent (A 3))
  v5 : short = true → w.cell? ⟨6, 0, none⟩ = some (sent (A 5))
  v6 : w.cell? ⟨7, 0, none⟩ = some (sent (A 6))
  v7 : w.cell? ⟨8, 0, none⟩ = some (sent (A 7))
theorem PoolLaid.below {w w' : World} {A : Nat → Addr} {s : Bool} (h : PoolLaid w A s) (hB : Below w.heap.size w w') : PoolLaid w' A s :=
  ⟨old_cell hB h.v1, old_cell hB h.v3, fun e => old_cell hB (h.v5 e), old_cell hB h.v6, old_cell hB h.v7⟩
theorem PoolLaid.drewN {w : World} {A : Nat → Addr} {s : Bool} (h : PoolLaid w A s) (n : Nat) : PoolLaid (w.drewN n) A s := h.below (below_drewN (Below.refl _ _) n)
theorem Laid.pool {w : World} {A : Nat → Addr} (h : Laid w A) : PoolLaid w A true := ⟨h.v1, h.v3, fun _ => h.v5, h.v6, h.v7⟩

/-- a map that holds so much for each int -/
def OwnS (w : World) (m : Nat) (s : Int → Int) (g : Nat) : Prop := ∃ (n : Nat) (D : DataW Unit), w.ownsMap Tryz.prog 3 (plainElem Tryz.prog 3) m n D ∧ n ≤ g ∧ ∀ o : Int, (Lit.int .i64 o).wf = true → D.atKey (.int .i64 o) (.lit (.int .i64 0)) = .lit (.int .i64 (s o))
theorem OwnS.put {w : World} {m n g : Nat} {D : DataW Unit} {s : Int → Int} {o v : Int} (hm : IsMap D) (h : w.ownsMap Tryz.prog 3 (plainElem Tryz.prog 3) m (n + 1) (D.put (.int .i64 o) (.lit (.int .i64 v)))) (hn : n ≤ g)
    (hat : ∀ o : Int, (Lit.int .i64 o).wf = true → D.atKey (.int .i64 o) (.lit (.int .i64 0)) = .lit (.int .i64 (s o))) (hk : WideAt.IsKeyLit (.int .i64 o)) : OwnS w m (fun i => if i = o then v else s i) (g + 1) := by
  refine ⟨n + 1, _, h, by omega, fun i hi => ?_⟩
  show _ = DataW.lit (.int .i64 (if i = o then v else s i))
  by_cases e : i = o
  · subst e
    rw [atKey_put_same hm hk, if_pos rfl]
  · rw [atKey_put_other (fun g => e (by cases g; rfl)), if_neg e, hat i hi]
theorem OwnS.putDel {w : World} {m n g : Nat} {D d : DataW Unit} {dd : DataW Unit} {s : Int → Int} {o v : Int} (e : D = d.put (.int .i64 o) dd) (h : w.ownsMap Tryz.prog 3 (plainElem Tryz.prog 3) m (n + 1) (D.del (.int .i64 o))) (hn : n ≤ g)
    (hat : ∀ o : Int, (Lit.int .i64 o).wf = true → d.atKey (.int .i64 o) (.lit (.int .i64 0)) = .lit (.int .i64 (s o))) (hv : v = 0) : OwnS w m (fun i => if i = o then v else s i) (g + 1) := by
  refine ⟨n + 1, _, h, by omega, fun i hi => ?_⟩
  show _ = DataW.lit (.int .i64 (if i = o then v else s i))
  by_cases ei : i = o
  · subst ei
    rw [atKey_del_same, if_pos rfl, hv]
  · rw [atKey_del_other (fun g => ei (by cases g; rfl)), e, atKey_put_other (fun g => ei (by cases g; rfl)), if_neg ei, hat i hi]
theorem OwnS.del {w : World} {m n g : Nat} {D : DataW Unit} {s : Int → Int} {o : Int} (h : w.ownsMap Tryz.prog 3 (plainElem Tryz.prog 3) m n (D.del (.int .i64 o))) (hn : n ≤ g)
    (hat : ∀ o : Int, (Lit.int .i64 o).wf = true → D.atKey (.int .i64 o) (.lit (.int .i64 0)) = .lit (.int .i64 (s o))) (hz : s o = 0) : OwnS w m s g := by
  refine ⟨n, _, h, hn, fun i hi => ?_⟩
  by_cases e : i = o
  · subst e
    rw [atKey_del_same, hz]
  · rw [atKey_del_other (fun g => e (by cases g; rfl)), hat i hi]

theorem OwnS.look {w : World} {m g : Nat} {s : Int → Int} (h : OwnS w m s g) (o : Int) (ho : (Lit.int .i64 o).wf = true) : (Instr.lookup 139 (.map (some m)) (.int .i64 o) false).run Tryz.prog w = .ok (.int .i64 (s o)) w := by
  obtain ⟨n, D, hown, hn, hat⟩ := h
  obtain ⟨c, hrun, hc, _⟩ := hown.lookup_int keyed Tryz.underlying139 Tryz.underlying3 (zeroInt _) (keyOf_int_mk Tryz.underlying3 ho)
  rw [lit_int (hc.symm.trans (hat o ho))] at hrun
  exact hrun

/-- the program's pool, as it lies in memory -/
structure PoolAt (w : World) (b m : Nat) (x : St) (g : Nat) : Prop where
  c0 : w.cell? ⟨b, 0, none⟩ = some (.int .i64 x.T)
  c1 : w.cell? ⟨b, 1, none⟩ = some (.int .i64 x.A)
  c2 : w.cell? ⟨b, 2, none⟩ = some (.map (some m))
  f0 : w.frozen? ⟨b, 0, none⟩ = false
  f1 : w.frozen? ⟨b, 1, none⟩ = false
  own : OwnS w m x.s g
  ne : b ≠ m
theorem PoolAt.drewN {w : World} {b m g : Nat} {x : St} (h : PoolAt w b m x g) (n : Nat) : PoolAt (w.drewN n) b m x g := ⟨h.c0, h.c1, h.c2, h.f0, h.f1, h.own, h.ne⟩

theorem PoolAt.kept {w w' : World} {b m g : Nat} {x : St} {X : List Nat} (h : PoolAt w b m x g) (hK : Kept X w w') (hb : b ∉ X) (hm : m ∉ X) : PoolAt w' b m x g where
  c0 := hK.old h.c0 hb
  c1 := hK.old h.c1 hb
  c2 := hK.old h.c2 hb
  f0 := by rw [hK.frozen (cell_lt h.c0) hb]; exact h.f0
  f1 := by rw [hK.frozen (cell_lt h.c1) hb]; exact h.f1
  own := by
    obtain ⟨n, D, ⟨es, clock, hes, F, hs, hD⟩, hn, hat⟩ := h.own
    have hlt : m < w.heap.size := (Array.getElem?_eq_some_iff.1 hes).1
    exact ⟨n, D, ⟨es, clock, (hK.block m hlt hm).trans hes, F, hs, hD⟩, hn, hat⟩
  ne := h.ne
theorem PoolAt.lt {w : World} {b m g : Nat} {x : St} (h : PoolAt w b m x g) : b < w.heap.size ∧ m < w.heap.size := by
  obtain ⟨n, D, hown, _⟩ := h.own
  exact ⟨cell_lt h.c0, hown.lt⟩

theorem PoolAt.more {w : World} {b m g g' : Nat} {x : St} (h : PoolAt w b m x g) (hg : g ≤ g') : PoolAt w b m x g' := by
  obtain ⟨n, D, ho, hn, ha⟩ := h.own
  exact ⟨h.c0, h.c1, h.c2, h.f0, h.f1, ⟨n, D, ho, Nat.le_trans hn hg, ha⟩, h.ne⟩

/-- an owner's shares, looked up -/
theorem PoolAt.look {w : World} {b m g : Nat} {x : St} (h : PoolAt w b m x g) (o : Int) (ho : (Lit.int .i64 o).wf = true) (k : Nat) : (Instr.lookup 139 (.map (some m)) (.int .i64 o) false).run Tryz.prog (w.drewN k) = .ok (.int .i64 (x.s o)) (w.drewN k) := by
  obtain ⟨n, D, hown, hn, hat⟩ := (h.drewN k).own
  obtain ⟨c, hrun, hc, _⟩ := hown.lookup_int keyed Tryz.underlying139 Tryz.underlying3 (zeroInt _) (keyOf_int_mk Tryz.underlying3 ho)
  rw [lit_int (hc.symm.trans (hat o ho))] at hrun
  exact hrun

theorem prog_total (b m g : Nat) (x : St) (w : World) (h : PoolAt w b m x g) :
    Calls Tryz.prog 41 #[.pointer (some ⟨b, 0, none⟩)] w fun e w' => e = .returned (.int .i64 x.T) ∧ w' = w := by
  have c0 := h.c0
  go_enter Tryz.func41, Tryz.ntmps41
  go_wp2
  go_ret
  exact ⟨rfl, rfl⟩
theorem prog_all (b m g : Nat) (x : St) (w : World) (h : PoolAt w b m x g) :
    Calls Tryz.prog 193 #[.pointer (some ⟨b, 0, none⟩)] w fun e w' => e = .returned (.int .i64 x.A) ∧ w' = w := by
  have c1 := h.c1
  go_enter Tryz.func193, Tryz.ntmps193
  go_wp2
  go_ret
  exact ⟨rfl, rfl⟩
/-- what a value's product asks -/
theorem val_amounts' {x : St} (hx : x.Ok) (hA : 0 < x.A) (o : Int) : Amounts (x.s o) x.T x.A ∧ x.s o * x.T / x.A ≤ 1125899906842624 := by
  have h1 := hx.le_all o
  have h2 := hx.a1
  refine ⟨⟨hx.pos o, by omega, hx.t0, hx.t1, by omega, h2⟩, ?_⟩
  have h3 := hx.val1 o
  rw [St.val_some o hA] at h3
  have := hx.t1
  omega

set_option maxRecDepth 100000 in
set_option maxHeartbeats 1000000 in
theorem prog_value (b m g : Nat) (x : St) (hx : x.Ok) (o : Int) (ho : (Lit.int .i64 o).wf = true) (w : World) (h : PoolAt w b m x g) :
    Calls Tryz.prog 127 #[.pointer (some ⟨b, 0, none⟩), .int .i64 o] w fun e w' => e = .returned (.int .i64 (x.val o)) ∧ ∃ n, w' = w.drewN n := by
  have c0 := h.c0
  have c1 := h.c1
  have c2 := h.c2
  by_cases hA : x.A = 0
  · have tA : (x.A == 0) = true := by simp [hA]
    have hv := hide (St.val_none o hA)
    clear hA
    go_enter Tryz.func127, Tryz.ntmps127
    go_wp2
    go_ret
    exact ⟨ret_int hv.out.symm, 0, rfl⟩
  · have tA : (x.A == 0) = false := by simp [hA]
    have hA : 0 < x.A := by have := hx.a0; omega
    have hv := hide (St.val_some o hA)
    obtain ⟨hm, hq⟩ := val_amounts' hx hA o
    have P := down_yes _ _ _ hm hq
    have hrun := h.look o ho
    clear hm hq hA
    go_enter Tryz.func127, Tryz.ntmps127
    go_wp2
    go_quiet ((go_at_call 50; exact Calls.quiet_of (P _)))
    go_wp2
    go_ret
    exact ⟨ret_int hv.out.symm, _, rfl⟩
end Go.Proofs.YtjodnacodlhamacGreatDoor
