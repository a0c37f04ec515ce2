/-
  plain.Code of this program by its contracts: nil, a sentinel, a fault with a sentinel in it, another error.
-/
import Derived.Test.YtamjnkjgdaojiaaDoorErrsAs
namespace Go.Proofs.YtamjnkjgdaojiaaDoor
open Go.RowKit

/-- package api's ten sentinels in the order of their numbers, and package errors' handle, as they lie in memory -/
structure Laid (w : World) (A : Nat → Addr) : Prop where
  v0 : w.cell? ⟨4, 0, none⟩ = some (sent (A 0))
  v1 : w.cell? ⟨0, 0, none⟩ = some (sent (A 1))
  v2 : w.cell? ⟨5, 0, none⟩ = some (sent (A 2))
  v3 : w.cell? ⟨6, 0, none⟩ = some (sent (A 3))
  v4 : w.cell? ⟨3, 0, none⟩ = some (sent (A 4))
  v5 : w.cell? ⟨1, 0, none⟩ = some (sent (A 5))
  v6 : w.cell? ⟨7, 0, none⟩ = some (sent (A 6))
  v7 : w.cell? ⟨8, 0, none⟩ = some (sent (A 7))
  v8 : w.cell? ⟨9, 0, none⟩ = some (sent (A 8))
  v9 : w.cell? ⟨2, 0, none⟩ = some (sent (A 9))
  h : w.cell? ⟨10, 0, none⟩ = some hErr
  plain : ∀ i, i < 10 → Plain w (A i)
  mates : ∀ i j, i < 10 → j < 10 → Mates w (A i) (A j)
  apart : ∀ i j, i < 10 → j < 10 → i ≠ j → A i ≠ A j
theorem Laid.below {w w' : World} {A : Nat → Addr} (h : Laid w A) (hB : Below w.heap.size w w') : Laid w' A :=
  ⟨old_cell hB h.v0, old_cell hB h.v1, old_cell hB h.v2, old_cell hB h.v3, old_cell hB h.v4, old_cell hB h.v5, old_cell hB h.v6, old_cell hB h.v7, old_cell hB h.v8, old_cell hB h.v9, old_cell hB h.h, fun i hi => (h.plain i hi).below hB, fun i j hi hj => (h.mates i j hi hj).below hB, h.apart⟩
theorem Laid.drewN {w : World} {A : Nat → Addr} (h : Laid w A) (n : Nat) : Laid (w.drewN n) A := h.below (below_drewN (Below.refl _ _) n)

/-- the ten, in a row -/
abbrev ten (A : Nat → Addr) : Array Value := #[sent (A 0), sent (A 1), sent (A 2), sent (A 3), sent (A 4), sent (A 5), sent (A 6), sent (A 7), sent (A 8), sent (A 9)]
theorem ten_at (A : Nat → Addr) : ∀ i, i < 10 → (ten A)[i]? = some (sent (A i))
  | 0, _ => rfl | 1, _ => rfl | 2, _ => rfl | 3, _ => rfl | 4, _ => rfl | 5, _ => rfl | 6, _ => rfl | 7, _ => rfl | 8, _ => rfl | 9, _ => rfl
  | n + 10, h => absurd h (by omega)

theorem code_nil (w : World) : Calls Tryd.prog 39 #[.nilIface] w fun e w' => e = .returned (.tuple #[.int .i64 0, .int .i64 (-1)]) ∧ w' = w := by
  go_enter Tryd.func39, Tryd.ntmps39
  go_wp2
  go_ret2
  exact ⟨rfl, rfl⟩

/-- what errors.Is tells of an error: the k-th sentinel's (k = 10: none's) -/
def IsAt (w : World) (A : Nat → Addr) (x : Value) (k : Nat) : Prop :=
  ∀ w' i, Below w.heap.size w w' → i < 10 → Calls Tryd.prog 46 #[x, sent (A i)] w' fun e w'' => e = .returned (.bool (decide (i = k))) ∧ w'' = w'

set_option maxRecDepth 100000 in
set_option maxHeartbeats 2000000 in
/-- an error that is the k-th sentinel's, and no fault -/
theorem code_plain (u : TypeId) (y : Value) (A : Nat → Addr) (k : Nat) (w : World) (hL : Laid w A) (hk : k < 10) (hI : IsAt w A (.iface u y) k)
    (hA : ∀ w' t, Below w.heap.size w w' → Calls Tryd.prog 45 #[.iface u y, .iface 80 (.pointer (some t))] w' fun e w'' => e = .returned (.bool false) ∧ Below w'.heap.size w' w'') :
    Calls Tryd.prog 39 #[.iface u y] w fun e w' => e = .returned (.tuple #[.int .i64 (k + 1), .int .i64 (-1)]) ∧ Below w.heap.size w w' := by
  go_enter Tryd.func39, Tryd.ntmps39
  go_wp2_with fail
  refine (hA _ _ ((Below.refl _ _).alloc (Nat.le_refl _) _)).mono ?_
  rintro e w1 ⟨rfl, hB0⟩
  have hB : Below w.heap.size w w1 := ((Below.refl _ _).alloc (Nat.le_refl _) _).trans (hB0.mono (by simp))
  obtain ⟨v0, v1, v2, v3, v4, v5, v6, v7, v8, v9, _, _, _⟩ := hL.below hB
  clear hB0 hA hL
  go_wp2_with fail
  go_loop [3, 28] (fun a i => a = .int .i64 (-1) ∧ ∃ m : Nat, m ≤ k ∧ i = .int .i64 m) (fun _ i => 10 - (intOf i).toNat)
  case atStart => exact ⟨rfl, 0, Nat.zero_le _, rfl⟩
  case round =>
    obtain ⟨rfl, m, hm, rfl⟩ := hrel
    have hBl : Below w.heap.size w (w1.alloc (.cells (ten A) 30)) := hB.alloc hB.size _
    by_cases hmk : m = k
    · subst hmk
      have hc : (w1.alloc (.cells (ten A) 30)).cell? ⟨w1.heap.size, m, none⟩ = some (sent (A m)) := cell_new _ _ _ _ _ _ rfl (ten_at A m hk)
      have hi := hI _ m hBl hk
      have e1 : decide (m = m) = true := by simp
      rw [e1] at hi
      have HI := hide hi
      clear hi e1
      go_wp2_with fail
      refine HI.out.mono ?_
      rintro e w2 ⟨rfl, rfl⟩
      go_wp2
      go_ret2
      exact ⟨rfl, hBl⟩
    · have hm10 : m < 10 := by omega
      have hc : (w1.alloc (.cells (ten A) 30)).cell? ⟨w1.heap.size, m, none⟩ = some (sent (A m)) := cell_new _ _ _ _ _ _ rfl (ten_at A m hm10)
      have hi := hI _ m hBl hm10
      have e1 : decide (m = k) = false := by simp [hmk]
      rw [e1] at hi
      have HI := hide hi
      have HM := hide hmk
      clear hi e1 hmk
      go_wp2_with fail
      refine HI.out.mono ?_
      rintro e w2 ⟨rfl, rfl⟩
      go_wp2
      go_round
      case rel => exact ⟨rfl, m + 1, by have := HM.out; omega, by go_num⟩
      case measure => simp [intOf]; omega
set_option maxRecDepth 100000 in
set_option maxHeartbeats 2000000 in
/-- an error that is none of the sentinels', and no fault -/
theorem code_none (u : TypeId) (y : Value) (A : Nat → Addr) (w : World) (hL : Laid w A) (hI : IsAt w A (.iface u y) 10)
    (hA : ∀ w' t, Below w.heap.size w w' → Calls Tryd.prog 45 #[.iface u y, .iface 80 (.pointer (some t))] w' fun e w'' => e = .returned (.bool false) ∧ Below w'.heap.size w' w'') :
    Calls Tryd.prog 39 #[.iface u y] w fun e w' => e = .returned (.tuple #[.int .i64 (-1), .int .i64 (-1)]) ∧ Below w.heap.size w w' := by
  go_enter Tryd.func39, Tryd.ntmps39
  go_wp2_with fail
  refine (hA _ _ ((Below.refl _ _).alloc (Nat.le_refl _) _)).mono ?_
  rintro e w1 ⟨rfl, hB0⟩
  have hB : Below w.heap.size w w1 := ((Below.refl _ _).alloc (Nat.le_refl _) _).trans (hB0.mono (by simp))
  obtain ⟨v0, v1, v2, v3, v4, v5, v6, v7, v8, v9, _, _, _⟩ := hL.below hB
  clear hB0 hA hL
  go_wp2_with fail
  go_loop [3, 28] (fun a i => a = .int .i64 (-1) ∧ ∃ m : Nat, m ≤ 10 ∧ i = .int .i64 m) (fun _ i => 10 - (intOf i).toNat)
  case atStart => exact ⟨rfl, 0, Nat.zero_le _, rfl⟩
  case round =>
    obtain ⟨rfl, m, hm, rfl⟩ := hrel
    have hBl : Below w.heap.size w (w1.alloc (.cells (ten A) 30)) := hB.alloc hB.size _
    by_cases hm10 : m < 10
    · have hc : (w1.alloc (.cells (ten A) 30)).cell? ⟨w1.heap.size, m, none⟩ = some (sent (A m)) := cell_new _ _ _ _ _ _ rfl (ten_at A m hm10)
      have hi := hI _ m hBl hm10
      have e1 : decide (m = 10) = false := by simp; omega
      rw [e1] at hi
      have HI := hide hi
      clear hi e1
      go_wp2_with fail
      refine HI.out.mono ?_
      rintro e w2 ⟨rfl, rfl⟩
      go_wp2
      go_round
      case rel => exact ⟨rfl, m + 1, by omega, by go_num⟩
      case measure => simp [intOf]; omega
    · go_wp2
      go_ret2
      exact ⟨rfl, hBl⟩
set_option maxRecDepth 100000 in
set_option maxHeartbeats 2000000 in
/-- a fault at a place, with the k-th sentinel in it -/
theorem code_fault (n : Nat) (at' : Int) (A : Nat → Addr) (k : Nat) (w : World) (hL : Laid w A) (hk : k < 10) (hc0 : w.cell? ⟨n, 0, none⟩ = some (.int .i64 at')) (hI : IsAt w A (flt n) k) :
    Calls Tryd.prog 39 #[flt n] w fun e w' => e = .returned (.tuple #[.int .i64 (k + 1), .int .i64 at']) ∧ Below w.heap.size w w' := by
  have hn : n < w.heap.size := cell_lt hc0
  have hg : ∀ o, (w.alloc o).cell? ⟨10, 0, none⟩ = some hErr := fun o => by rw [World.cell?_alloc_lt _ _ ⟨10, 0, none⟩ (cell_lt hL.h)]; exact hL.h
  have hgl : 10 < w.heap.size := cell_lt hL.h
  have fa := As_fault ⟨n, 0, none⟩ ⟨w.heap.size, 0, none⟩ (.pointer none) (w.alloc (.cells #[.pointer none] 78)) (hg _) (by simp; omega) (by simp) (by simp)
  go_enter Tryd.func39, Tryd.ntmps39
  go_wp2_with fail
  refine fa.mono ?_
  rintro e w1 ⟨rfl, hw1⟩
  have hB : Below w.heap.size w w1 := by
    rw [hw1]
    exact ((((((Below.refl _ _).alloc (Nat.le_refl _) _).alloc (by simp) _).alloc (by simp; omega) _).alloc (by simp; omega) _).alloc (by simp; omega) _).setCell (Nat.le_refl _) _
  have hf : w1.cell? ⟨w.heap.size, 0, none⟩ = some (.pointer (some ⟨n, 0, none⟩)) := by
    rw [hw1]
    refine World.cell?_setCell_same _ _ _ (u := .pointer none) ?_
    rw [World.cell?_alloc_lt _ _ ⟨w.heap.size, 0, none⟩ (by simp; omega), World.cell?_alloc_lt _ _ ⟨w.heap.size, 0, none⟩ (by simp; omega), World.cell?_alloc_lt _ _ ⟨w.heap.size, 0, none⟩ (by simp; omega), World.cell?_alloc_lt _ _ ⟨w.heap.size, 0, none⟩ (by simp)]
    simp
  obtain ⟨v0, v1, v2, v3, v4, v5, v6, v7, v8, v9, _, _, _⟩ := hL.below hB
  have hn1 := old_cell hB hc0
  clear hw1 fa hg hL hc0
  go_wp2_with fail
  go_loop [3, 28] (fun a i => a = .int .i64 at' ∧ ∃ m : Nat, m ≤ k ∧ i = .int .i64 m) (fun _ i => 10 - (intOf i).toNat)
  case atStart => exact ⟨rfl, 0, Nat.zero_le _, rfl⟩
  case round =>
    obtain ⟨rfl, m, hm, rfl⟩ := hrel
    have hBl : Below w.heap.size w (w1.alloc (.cells (ten A) 30)) := hB.alloc hB.size _
    by_cases hmk : m = k
    · subst hmk
      have hc : (w1.alloc (.cells (ten A) 30)).cell? ⟨w1.heap.size, m, none⟩ = some (sent (A m)) := cell_new _ _ _ _ _ _ rfl (ten_at A m hk)
      have hi := hI _ m hBl hk
      have e1 : decide (m = m) = true := by simp
      rw [e1] at hi
      have HI := hide hi
      clear hi e1
      go_wp2_with fail
      refine HI.out.mono ?_
      rintro e w2 ⟨rfl, rfl⟩
      go_wp2
      go_ret2
      exact ⟨rfl, hBl⟩
    · have hm10 : m < 10 := by omega
      have hc : (w1.alloc (.cells (ten A) 30)).cell? ⟨w1.heap.size, m, none⟩ = some (sent (A m)) := cell_new _ _ _ _ _ _ rfl (ten_at A m hm10)
      have hi := hI _ m hBl hm10
      have e1 : decide (m = k) = false := by simp [hmk]
      rw [e1] at hi
      have HI := hide hi
      have HM := hide hmk
      clear hi e1 hmk
      go_wp2_with fail
      refine HI.out.mono ?_
      rintro e w2 ⟨rfl, rfl⟩
      go_wp2
      go_round
      case rel => exact ⟨rfl, m + 1, by have := HM.out; omega, by go_num⟩
      case measure => simp [intOf]; omega

/-! at the errors that there are -/
theorem isAt_sent {w : World} {A : Nat → Addr} (hL : Laid w A) (k : Nat) (hk : k < 10) : IsAt w A (sent (A k)) k := by
  intro w' i hB hi
  have hL' := hL.below hB
  by_cases h : i = k
  · subst h
    have e : decide (i = i) = true := by simp
    rw [e]
    exact Is_of _ _ _ rfl (A i) true w' (is_same (A i) w')
  · have e : decide (i = k) = false := by simp [h]
    rw [e]
    exact Is_of _ _ _ rfl (A i) false w' (is_other (A k) (A i) w' (hL.apart k i hk hi (fun x => h x.symm)) (hL'.plain k hk) (hL'.plain i hi) (hL'.mates k i hk hi))
theorem isAt_fault {w : World} {A : Nat → Addr} (hL : Laid w A) (n k : Nat) (hk : k < 10) (hc : w.cell? ⟨n, 1, none⟩ = some (sent (A k))) : IsAt w A (flt n) k := by
  intro w' i hB hi
  have hL' := hL.below hB
  have hc' := old_cell hB hc
  by_cases h : i = k
  · subst h
    have e : decide (i = i) = true := by simp
    rw [e]
    exact Is_of _ _ _ rfl (A i) true w' (is_fault_same n (A i) w' hc')
  · have e : decide (i = k) = false := by simp [h]
    rw [e]
    exact Is_of _ _ _ rfl (A i) false w' (is_fault_other n (A k) (A i) w' hc' (hL.apart k i hk hi (fun x => h x.symm)) (hL'.plain k hk) (hL'.plain i hi) (hL'.mates k i hk hi))
theorem isAt_none {w : World} {A : Nat → Addr} (hL : Laid w A) (a : Addr) (ha : Bare w a) (hne : ∀ i, i < 10 → a ≠ A i) : IsAt w A (sent a) 10 := by
  intro w' i hB hi
  have hL' := hL.below hB
  have e : decide (i = 10) = false := by simp; omega
  rw [e]
  exact Is_of _ _ _ rfl (A i) false w' (is_other a (A i) w' (hne i hi) (ha.below hB).plain (hL'.plain i hi) (.inl (ha.below hB)))
theorem noAs {w : World} {A : Nat → Addr} (hL : Laid w A) (a : Addr) : ∀ w' t, Below w.heap.size w w' → Calls Tryd.prog 45 #[sent a, .iface 80 (.pointer (some t))] w' fun e w'' => e = .returned (.bool false) ∧ Below w'.heap.size w' w'' :=
  fun w' t hB => As_sent a t w' (hL.below hB).h (cell_lt (hL.below hB).h)

/-- Code of the k-th sentinel: k + 1, nowhere. -/
theorem code_sent (A : Nat → Addr) (k : Nat) (w : World) (hL : Laid w A) (hk : k < 10) :
    Calls Tryd.prog 39 #[sent (A k)] w fun e w' => e = .returned (.tuple #[.int .i64 (k + 1), .int .i64 (-1)]) ∧ Below w.heap.size w w' :=
  code_plain _ _ A k w hL hk (isAt_sent hL k hk) (noAs hL (A k))
/-- Code of a fault with the k-th sentinel: k + 1, its place. -/
theorem code_flt (n : Nat) (at' : Int) (A : Nat → Addr) (k : Nat) (w : World) (hL : Laid w A) (hk : k < 10) (hc0 : w.cell? ⟨n, 0, none⟩ = some (.int .i64 at')) (hc1 : w.cell? ⟨n, 1, none⟩ = some (sent (A k))) :
    Calls Tryd.prog 39 #[flt n] w fun e w' => e = .returned (.tuple #[.int .i64 (k + 1), .int .i64 at']) ∧ Below w.heap.size w w' :=
  code_fault n at' A k w hL hk hc0 (isAt_fault hL n k hk hc1)
/-- Code of another error of package errors: -1, nowhere. -/
theorem code_other (a : Addr) (A : Nat → Addr) (w : World) (hL : Laid w A) (ha : Bare w a) (hne : ∀ i, i < 10 → a ≠ A i) :
    Calls Tryd.prog 39 #[sent a] w fun e w' => e = .returned (.tuple #[.int .i64 (-1), .int .i64 (-1)]) ∧ Below w.heap.size w w' :=
  code_none _ _ A w hL (isAt_none hL a ha hne) (noAs hL a)

/-! the laws' own two helpers -/
/-- what Code tells of a value, from a world on -/
def Tells (w : World) (x : Value) (c p : Int) : Prop :=
  ∀ w', Below w.heap.size w w' → Calls Tryd.prog 39 #[x] w' fun e w'' => e = .returned (.tuple #[.int .i64 c, .int .i64 p]) ∧ Below w'.heap.size w' w''
theorem Tells.below {w w' : World} {x : Value} {c p : Int} (h : Tells w x c p) (hB : Below w.heap.size w w') : Tells w' x c p :=
  fun w'' hB' => h w'' (hB.trans (hB'.mono hB.size))
theorem tells_nil (w : World) : Tells w .nilIface 0 (-1) := fun w' _ => (code_nil w').mono fun e w'' ⟨a, b⟩ => ⟨a, by rw [b]; exact Below.refl _ _⟩
theorem tells_sent {w : World} {A : Nat → Addr} (hL : Laid w A) (k : Nat) (hk : k < 10) : Tells w (sent (A k)) (k + 1) (-1) := fun w' hB => code_sent A k w' (hL.below hB) hk
theorem tells_flt {w : World} {A : Nat → Addr} (hL : Laid w A) (n k : Nat) (p : Int) (hk : k < 10) (hc0 : w.cell? ⟨n, 0, none⟩ = some (.int .i64 p)) (hc1 : w.cell? ⟨n, 1, none⟩ = some (sent (A k))) : Tells w (flt n) (k + 1) p :=
  fun w' hB => code_flt n p A k w' (hL.below hB) hk (old_cell hB hc0) (old_cell hB hc1)

set_option maxHeartbeats 400000 in
theorem coded_of {w : World} {x : Value} {c : Int} (h : Tells w x c (-1)) : Calls Tryd.prog 19 #[x, .int .i64 c] w fun e w' => e = .returned (.bool true) ∧ Below w.heap.size w w' := by
  have H := hide (h w (Below.refl _ _))
  clear h
  go_enter Tryd.func19, Tryd.ntmps19
  go_wp2_with fail
  refine H.out.mono ?_
  rintro e w' ⟨rfl, hB⟩
  go_wp2
  go_ret
  exact ⟨rfl, hB⟩
end Go.Proofs.YtamjnkjgdaojiaaDoor
