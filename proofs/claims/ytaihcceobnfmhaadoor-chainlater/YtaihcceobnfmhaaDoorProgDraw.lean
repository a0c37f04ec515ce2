/-
  The program's draw by its contracts: the weights together; what a draw tells.
-/
import Derived.Test.YtaihcceobnfmhaaDoorProgChainTellsX
import Derived.Test.YtaihcceobnfmhaaDoorSentVX
import Derived.Test.YtaihcceobnfmhaaDoorWaitsMathX
import Derived.Deep.QuietTactic
import Derived.BigQuiet
namespace Go.Proofs.YtaihcceobnfmhaaDoor
open Go.RowKit

/-- what the draw's errors hold -/
structure DrawLaid (w : World) (A : Nat → Addr) : Prop where
  v1 : w.cell? ⟨0, 0, none⟩ = some (sent (A 1))
  v2 : w.cell? ⟨7, 0, none⟩ = some (sent (A 2))
  v3 : w.cell? ⟨4, 0, none⟩ = some (sent (A 3))
theorem draw_old {w w' : World} (hB : Below w.heap.size w w') {a : Addr} {v : Value} (h : w.cell? a = some v) : w'.cell? a = some v := by
  rw [hB.cell (cell_lt h)]; exact h
theorem DrawLaid.below {w w' : World} {A : Nat → Addr} (h : DrawLaid w A) (hB : Below w.heap.size w w') : DrawLaid w' A := ⟨draw_old hB h.v1, draw_old hB h.v2, draw_old hB h.v3⟩

/-- a fault's pointer -/
abbrev fault (n : Nat) : Value := .iface 96 (.pointer (some ⟨n, 0, none⟩))

theorem together_shape (a : Option Addr) (len cap : Nat) (A : Nat → Addr) (w : World) (hL : DrawLaid w A) (h : len = 0 ∨ 64 < len) (hm : len ≤ 9223372036854775807) :
    Calls Tryd.prog 47 #[.slice a len cap] w fun e w' => e = .returned (.tuple #[.int .i64 0, sent (A 2)]) ∧ Below w.heap.size w w' := by
  have v2 := hL.v2
  rcases h with h | h
  · subst h
    go_enter Tryd.func47, Tryd.ntmps47
    go_wp2
    go_quiet (fail)
    go_wp2
    go_ret2
    exact ⟨rfl, below_drewN (Below.refl _ _) _⟩
  · have h' : ((len : Int) == 0) = false := by simp; omega
    go_enter Tryd.func47, Tryd.ntmps47
    go_wp2
    go_quiet (fail)
    go_wp2
    go_ret2
    exact ⟨rfl, below_drewN (Below.refl _ _) _⟩

/-- a weight that may be drawn by -/
def WOk (x : Int) : Prop := 0 ≤ x ∧ x ≤ 1073741824

set_option maxRecDepth 100000 in
set_option maxHeartbeats 1000000 in
theorem together_bad_at (b off n cap k0 : Nat) (W : Nat → Int) (A : Nat → Addr) (w : World) (hL : DrawLaid w A) (hI : Ints w b off n W) (n1 : 1 ≤ n) (n64 : n ≤ 64) (hk0 : k0 < n) (hG : ∀ i, i < k0 → WOk (W i)) (hbad : ¬ WOk (W k0)) :
    Calls Tryd.prog 47 #[.slice (some ⟨b, off, none⟩) n cap] w fun e w' => ∃ m, e = .returned (.tuple #[.int .i64 0, fault m]) ∧ w'.cell? ⟨m, 0, none⟩ = some (.int .i64 k0) ∧ w'.cell? ⟨m, 1, none⟩ = some (sent (A 1)) ∧ Below w.heap.size w w' ∧ w.heap.size ≤ m := by
  have v1 := hL.v1
  have h0 : ((n : Int) == 0) = false := by simp; omega
  go_enter Tryd.func47, Tryd.ntmps47
  go_wp2
  go_loop [4, 18] (fun s i => ∃ k : Nat, k ≤ k0 ∧ i = .int .i64 k ∧ s = .int .i64 (sumTo W k)) (fun _ i => n - (intOf i).toNat)
  case atStart => exact ⟨0, Nat.zero_le _, rfl, rfl⟩
  case round =>
    obtain ⟨k, hk, rfl, rfl⟩ := hrel
    by_cases hlt : k < k0
    · have c0 := hI k (by omega)
      obtain ⟨g0, g1⟩ := hG k hlt
      have hs := sumTo_bd k (fun j hj => hG j (by omega))
      have hkn : k < n := by omega
      have he : Hid (sumTo W k + W k = sumTo W (k + 1)) := rfl
      clear hG hbad v1 hL hI h0
      go_wp2
      go_round
      case rel => exact ⟨k + 1, by omega, by go_num, by rw [he.out]⟩
      case measure => simp [intOf]; omega
    · obtain rfl : k = k0 := by omega
      have c0 := hI k hk0
      clear hI hG hL h0
      unfold WOk at hbad
      by_cases g0 : 0 ≤ W k
      · have g1 : 1073741824 < W k := by omega
        have g0' : ¬ W k < 0 := by omega
        clear hbad
        go_wp2
        go_region
        all_goals (try go_wp2)
        all_goals go_ret2
        all_goals exact ⟨_, rfl, by simp, by simp, ((Below.refl _ _).drew).alloc (Nat.le_refl _) _, Nat.le_refl _⟩
      · have g0' : W k < 0 := by omega
        clear hbad
        go_wp2
        go_region
        all_goals (try go_wp2)
        all_goals go_ret2
        all_goals exact ⟨_, rfl, by simp, by simp, ((Below.refl _ _).drew).alloc (Nat.le_refl _) _, Nat.le_refl _⟩
theorem together_bad (b off n cap k0 : Nat) (W : Nat → Int) (A : Nat → Addr) (w : World) (hL : DrawLaid w A) (hI : Ints w b off n W) (n1 : 1 ≤ n) (n64 : n ≤ 64) (hk0 : k0 < n) (hG : ∀ i, i < k0 → WOk (W i)) (hbad : ¬ WOk (W k0)) :
    Calls Tryd.prog 47 #[.slice (some ⟨b, off, none⟩) n cap] w fun e w' => ∃ m, e = .returned (.tuple #[.int .i64 0, fault m]) ∧ w'.cell? ⟨m, 0, none⟩ = some (.int .i64 k0) ∧ w'.cell? ⟨m, 1, none⟩ = some (sent (A 1)) ∧ Below w.heap.size w w' :=
  (together_bad_at b off n cap k0 W A w hL hI n1 n64 hk0 hG hbad).mono fun _ _ ⟨m, h1, h2, h3, h4, _⟩ => ⟨m, h1, h2, h3, h4⟩

set_option maxRecDepth 100000 in
set_option maxHeartbeats 1000000 in
theorem together_fine (b off n cap : Nat) (W : Nat → Int) (w : World) (hI : Ints w b off n W) (hW : Weights n W) (h0 : sumTo W n ≠ 0) :
    Calls Tryd.prog 47 #[.slice (some ⟨b, off, none⟩) n cap] w fun e w' => e = .returned (.tuple #[.int .i64 (sumTo W n), .nilIface]) ∧ w' = w := by
  have n1 := hW.n1
  have n64 := hW.n64
  have h0 : (sumTo W n == 0) = false := by simp; exact h0
  have hn : ((n : Int) == 0) = false := by simp; omega
  go_enter Tryd.func47, Tryd.ntmps47
  go_wp2
  go_loop [4, 18] (fun s i => ∃ k : Nat, k ≤ n ∧ i = .int .i64 k ∧ s = .int .i64 (sumTo W k)) (fun _ i => n - (intOf i).toNat)
  case atStart => exact ⟨0, Nat.zero_le _, rfl, rfl⟩
  case round =>
    obtain ⟨k, hk, rfl, rfl⟩ := hrel
    by_cases hlt : k < n
    · have c0 := hI k (by omega)
      obtain ⟨g0, g1⟩ := hW.bd k hlt
      have hs := sumTo_bd k (fun j hj => hW.bd j (by omega))
      have he : Hid (sumTo W k + W k = sumTo W (k + 1)) := rfl
      clear hW hI h0 hn
      go_wp2
      go_round
      case rel => exact ⟨k + 1, by omega, by go_num, by rw [he.out]⟩
      case measure => simp [intOf]; omega
    · obtain rfl : k = n := by omega
      clear hI hW hn
      go_wp2
      go_ret2
      exact ⟨rfl, rfl⟩

set_option maxRecDepth 100000 in
set_option maxHeartbeats 1000000 in
theorem together_none (b off n cap : Nat) (W : Nat → Int) (A : Nat → Addr) (w : World) (hL : DrawLaid w A) (hI : Ints w b off n W) (hW : Weights n W) (h0 : sumTo W n = 0) :
    Calls Tryd.prog 47 #[.slice (some ⟨b, off, none⟩) n cap] w fun e w' => e = .returned (.tuple #[.int .i64 0, sent (A 3)]) ∧ Below w.heap.size w w' := by
  have v3 := hL.v3
  have n1 := hW.n1
  have n64 := hW.n64
  have h0 : (sumTo W n == 0) = true := by simp; exact h0
  have hn : ((n : Int) == 0) = false := by simp; omega
  go_enter Tryd.func47, Tryd.ntmps47
  go_wp2
  go_loop [4, 18] (fun s i => ∃ k : Nat, k ≤ n ∧ i = .int .i64 k ∧ s = .int .i64 (sumTo W k)) (fun _ i => n - (intOf i).toNat)
  case atStart => exact ⟨0, Nat.zero_le _, rfl, rfl⟩
  case round =>
    obtain ⟨k, hk, rfl, rfl⟩ := hrel
    by_cases hlt : k < n
    · have c0 := hI k (by omega)
      obtain ⟨g0, g1⟩ := hW.bd k hlt
      have hs := sumTo_bd k (fun j hj => hW.bd j (by omega))
      have he : Hid (sumTo W k + W k = sumTo W (k + 1)) := rfl
      clear hW hI h0 hn hL v3
      go_wp2
      go_round
      case rel => exact ⟨k + 1, by omega, by go_num, by rw [he.out]⟩
      case measure => simp [intOf]; omega
    · obtain rfl : k = n := by omega
      clear hI hW hn hL
      go_wp2
      go_quiet (fail)
      go_wp2
      go_ret2
      exact ⟨rfl, below_drewN (Below.refl _ _) _⟩

/-! a draw that stands -/
/-- the columns, as they lie in memory -/
structure DrawAt (w : World) (b c n : Nat) (H : Int) (d : DS) : Prop where
  c0 : w.cell? ⟨b, 0, none⟩ = some (.int .i64 H)
  c1 : w.cell? ⟨b, 1, none⟩ = some (.slice (some ⟨c, 0, none⟩) n n)
  l : ∀ k, k < n → w.cell? ⟨c, k * 2, none⟩ = some (.int .i64 (d.line k))
  o : ∀ k, k < n → w.cell? ⟨c, k * 2 + 1, none⟩ = some (.int .i64 (d.other k))
theorem DrawAt.below {w w' : World} {b c n : Nat} {H : Int} {d : DS} (h : DrawAt w b c n H d) (hB : Below w.heap.size w w') : DrawAt w' b c n H d :=
  ⟨draw_old hB h.c0, draw_old hB h.c1, fun k hk => draw_old hB (h.l k hk), fun k hk => draw_old hB (h.o k hk)⟩
theorem DrawAt.drewN {w : World} {b c n : Nat} {H : Int} {d : DS} (h : DrawAt w b c n H d) (m : Nat) : DrawAt (w.drewN m) b c n H d := ⟨h.c0, h.c1, h.l, h.o⟩

theorem draw_height (b c n : Nat) (H : Int) (d : DS) (w : World) (h : DrawAt w b c n H d) :
    Calls Tryd.prog 52 #[.pointer (some ⟨b, 0, none⟩)] w fun e w' => e = .returned (.int .i64 H) ∧ w' = w := by
  have c0 := h.c0
  go_enter Tryd.func52, Tryd.ntmps52
  go_wp2
  go_ret
  exact ⟨rfl, rfl⟩
theorem draw_columns (b c n : Nat) (H : Int) (d : DS) (w : World) (h : DrawAt w b c n H d) :
    Calls Tryd.prog 51 #[.pointer (some ⟨b, 0, none⟩)] w fun e w' => e = .returned (.int .i64 n) ∧ w' = w := by
  have c1 := h.c1
  go_enter Tryd.func51, Tryd.ntmps51
  go_wp2
  go_ret
  exact ⟨rfl, rfl⟩

set_option maxRecDepth 100000 in
set_option maxHeartbeats 1000000 in
theorem draw_column_yes (b c n k : Nat) (H : Int) (d : DS) (w : World) (h : DrawAt w b c n H d) (hk : k < n) :
    Calls Tryd.prog 68 #[.pointer (some ⟨b, 0, none⟩), .int .i64 k] w fun e w' => e = .returned (.tuple #[.int .i64 (d.line k), .int .i64 (d.other k), .nilIface]) ∧ Below w.heap.size w w' := by
  have c1 := h.c1
  have cl := h.l k hk
  have co := h.o k hk
  have hd : ¬ ((n : Int) ≤ k) := by omega
  go_enter Tryd.func68, Tryd.ntmps68
  go_wp2_with (go_at_call 51; refine (draw_columns b c n H d _ h).mono ?_; rintro e w' ⟨rfl, rfl⟩)
  go_quiet (fail)
  go_wp2
  go_ret3
  exact ⟨rfl, below_drewN ((Below.refl _ _).alloc (Nat.le_refl _) _) _⟩

set_option maxRecDepth 100000 in
set_option maxHeartbeats 1000000 in
theorem draw_column_no (b c n : Nat) (k : Int) (H : Int) (d : DS) (A : Nat → Addr) (w : World) (hL : DrawLaid w A) (h : DrawAt w b c n H d) (hk : k < 0 ∨ (n : Int) ≤ k) :
    Calls Tryd.prog 68 #[.pointer (some ⟨b, 0, none⟩), .int .i64 k] w fun e w' => e = .returned (.tuple #[.int .i64 0, .int .i64 0, sent (A 1)]) ∧ Below w.heap.size w w' := by
  have v1 := hL.v1
  by_cases h0 : k < 0
  · clear hk
    go_enter Tryd.func68, Tryd.ntmps68
    go_wp2
    go_quiet (fail)
    go_wp2
    go_ret3
    exact ⟨rfl, below_drewN (Below.refl _ _) _⟩
  · have hd : (n : Int) ≤ k := by omega
    clear hk
    go_enter Tryd.func68, Tryd.ntmps68
    go_wp2_with (go_at_call 51; refine (draw_columns b c n H d _ h).mono ?_; rintro e w' ⟨rfl, rfl⟩)
    go_quiet (fail)
    go_wp2
    go_ret3
    exact ⟨rfl, below_drewN (Below.refl _ _) _⟩


set_option maxRecDepth 100000 in
set_option maxHeartbeats 1000000 in
theorem draw_pick_yes (b c n k : Nat) (x H : Int) (d : DS) (w : World) (h : DrawAt w b c n H d) (hk : k < n) (hx0 : 0 ≤ x) (hxH : x < H) :
    Calls Tryd.prog 53 #[.pointer (some ⟨b, 0, none⟩), .int .i64 k, .int .i64 x] w fun e w' => e = .returned (.tuple #[.int .i64 (d.pick k x), .nilIface]) ∧ Below w.heap.size w w' := by
  have C := draw_column_yes b c n k H d w h hk
  have hx0' : ¬ x < 0 := by omega
  have hxH' : ¬ H ≤ x := by omega
  by_cases hl : x < d.line k
  · have e : Hid ((k : Int) = d.pick k x) := by unfold Hid DS.pick; rw [if_pos hl]
    go_enter Tryd.func53, Tryd.ntmps53
    go_wp2_with (first | (go_at_call 68; refine C.mono ?_; rintro e w1 ⟨rfl, hB⟩; have h1 := h.below hB) | (go_at_call 52; refine (draw_height b c n H d _ h1).mono ?_; rintro e w' ⟨rfl, rfl⟩))
    go_ret2
    exact ⟨ret_pair e.out _, by assumption⟩
  · have e : Hid ((d.other k : Int) = d.pick k x) := by unfold Hid DS.pick; rw [if_neg hl]
    go_enter Tryd.func53, Tryd.ntmps53
    go_wp2_with (first | (go_at_call 68; refine C.mono ?_; rintro e w1 ⟨rfl, hB⟩; have h1 := h.below hB) | (go_at_call 52; refine (draw_height b c n H d _ h1).mono ?_; rintro e w' ⟨rfl, rfl⟩))
    go_ret2
    exact ⟨ret_pair e.out _, by assumption⟩

set_option maxRecDepth 100000 in
set_option maxHeartbeats 1000000 in
theorem draw_pick_no (b c n : Nat) (k x H : Int) (d : DS) (A : Nat → Addr) (w : World) (hL : DrawLaid w A) (h : DrawAt w b c n H d) (hno : k < 0 ∨ (n : Int) ≤ k ∨ x < 0 ∨ H ≤ x) :
    Calls Tryd.prog 53 #[.pointer (some ⟨b, 0, none⟩), .int .i64 k, .int .i64 x] w fun e w' => e = .returned (.tuple #[.int .i64 0, sent (A 1)]) ∧ Below w.heap.size w w' := by
  by_cases hk : k < 0 ∨ (n : Int) ≤ k
  · have C := draw_column_no b c n k H d A w hL h hk
    clear hk hno
    go_enter Tryd.func53, Tryd.ntmps53
    go_wp2_with (go_at_call 68; refine C.mono ?_; rintro e w1 ⟨rfl, hB⟩; have v1 := (hL.below hB).v1)
    go_quiet (fail)
    go_wp2
    go_ret2
    exact ⟨rfl, below_drewN (by assumption) _⟩
  · obtain ⟨j, rfl⟩ : ∃ j : Nat, k = j := ⟨k.toNat, by omega⟩
    have C := draw_column_yes b c n j H d w h (by omega)
    by_cases hx : x < 0
    · clear hk hno
      go_enter Tryd.func53, Tryd.ntmps53
      go_wp2_with (go_at_call 68; refine C.mono ?_; rintro e w1 ⟨rfl, hB⟩; have v1 := (hL.below hB).v1)
      go_quiet (fail)
      go_wp2
      go_ret2
      exact ⟨rfl, below_drewN (by assumption) _⟩
    · have hH : H ≤ x := by omega
      clear hk hno
      go_enter Tryd.func53, Tryd.ntmps53
      go_wp2_with (first | (go_at_call 68; refine C.mono ?_; rintro e w1 ⟨rfl, hB⟩; have v1 := (hL.below hB).v1; have h1 := h.below hB) | (go_at_call 52; refine (draw_height b c n H d _ h1).mono ?_; rintro e w' ⟨rfl, rfl⟩))
      go_quiet (fail)
      go_wp2
      go_ret2
      exact ⟨rfl, below_drewN (by assumption) _⟩
end Go.Proofs.YtaihcceobnfmhaaDoor
