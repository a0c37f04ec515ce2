/-
  The document's draw (bakehouseref1) by its contracts: the weights' fault; picks.
-/
import Derived.Test.YtlhffdmhbplpjaaDoorRefFillAt
namespace Go.Proofs.YtlhffdmhbplpjaaDoor
open Go.RowKit Go.Deep

theorem fineD (w : World) : Calls Tryd.prog 72 #[] w fun e w' => e = .returned (.agg #[.int .i64 0, .int .i64 (-1)]) ∧ w' = w.alloc (.cells #[.int .i64 0, .int .i64 (-1)] 41) := by
  go_enter Tryd.func72, Tryd.ntmps72
  go_wp2
  exact bodyPost_ret (v := .agg #[.int .i64 0, .int .i64 (-1)]) (by simp [results, Tryd.results72, go_sem]) rfl ⟨rfl, rfl⟩
theorem bareD (c : Int) (w : World) : Calls Tryd.prog 25 #[.int .i64 c] w fun e w' => e = .returned (.agg #[.int .i64 c, .int .i64 (-1)]) ∧ w' = w.alloc (.cells #[.int .i64 c, .int .i64 (-1)] 41) := by
  go_enter Tryd.func25, Tryd.ntmps25
  go_wp2
  exact bodyPost_ret (v := .agg #[.int .i64 c, .int .i64 (-1)]) (by simp [results, Tryd.results25, go_sem]) rfl ⟨rfl, rfl⟩

theorem below_two {w : World} {a b : Obj} : Below w.heap.size w ((w.alloc a).alloc b) := ((Below.refl _ _).alloc (Nat.le_refl _) _).alloc (by simp) _
theorem below_one {w : World} {a : Obj} : Below w.heap.size w (w.alloc a) := (Below.refl _ _).alloc (Nat.le_refl _) _

theorem wf_shape (a : Option Addr) (len cap : Nat) (w : World) (h : len = 0 ∨ 64 < len) (hm : len ≤ 9223372036854775807) :
    Calls Tryd.prog 52 #[.slice a len cap] w fun e w' => e = .returned (.agg #[.int .i64 3, .int .i64 (-1)]) ∧ Below w.heap.size w w' := by
  rcases h with h | h
  · subst h
    go_enter Tryd.func52, Tryd.ntmps52
    go_wp2_with (go_at_call 25; refine (bareD 3 _).mono ?_; rintro e w' ⟨rfl, rfl⟩)
    exact bodyPost_ret (v := .agg #[.int .i64 3, .int .i64 (-1)]) (by simp [results, Tryd.results52, go_sem]) rfl ⟨rfl, below_two⟩
  · have h' : ¬ len < 1 := by omega
    go_enter Tryd.func52, Tryd.ntmps52
    go_wp2_with (go_at_call 25; refine (bareD 3 _).mono ?_; rintro e w' ⟨rfl, rfl⟩)
    exact bodyPost_ret (v := .agg #[.int .i64 3, .int .i64 (-1)]) (by simp [results, Tryd.results52, go_sem]) rfl ⟨rfl, below_two⟩

set_option maxRecDepth 100000 in
set_option maxHeartbeats 1000000 in
theorem wf_bad (b off n cap k0 : Nat) (W : Nat → Int) (w : World) (hI : Ints w b off n W) (n1 : 1 ≤ n) (n64 : n ≤ 64) (hk0 : k0 < n) (hG : ∀ i, i < k0 → WOk (W i)) (hbad : ¬ WOk (W k0)) :
    Calls Tryd.prog 52 #[.slice (some ⟨b, off, none⟩) n cap] w fun e w' => e = .returned (.agg #[.int .i64 2, .int .i64 k0]) ∧ Below w.heap.size w w' := by
  have h0 : ¬ n < 1 := by omega
  have hI1 : Ints (w.alloc (.cells #[.int .i64 0, .int .i64 0] 41)) b off n W := fun i hi => by rw [World.cell?_alloc_lt _ _ _ (cell_lt (hI i hi))]; exact hI i hi
  go_enter Tryd.func52, Tryd.ntmps52
  go_wp2
  go_loop [3, 4] (fun s i => ∃ k : Nat, k ≤ k0 ∧ i = .int .i64 k ∧ s = .int .i64 (sumTo W k)) (fun _ i => n - (intOf i).toNat)
  case atStart => exact ⟨0, Nat.zero_le _, rfl, rfl⟩
  case round =>
    obtain ⟨k, hk, rfl, rfl⟩ := hrel
    by_cases hlt : k < k0
    · have c0 := hI1 k (by omega)
      obtain ⟨g0, g1⟩ := hG k hlt
      have hs := sumTo_bd k (fun j hj => hG j (by omega))
      have hkn : k < n := by omega
      have he : Hid (sumTo W k + W k = sumTo W (k + 1)) := rfl
      clear hG hbad hI hI1 h0
      go_wp2
      go_round
      case rel => exact ⟨k + 1, by omega, by go_num, by rw [he.out]⟩
      case measure => simp [intOf]; omega
    · obtain rfl : k = k0 := by omega
      have c0 := hI1 k hk0
      clear hI hG h0 hI1
      unfold WOk at hbad
      by_cases g0 : 0 ≤ W k
      · have g1 : 1073741824 < W k := by omega
        have g0' : ¬ W k < 0 := by omega
        clear hbad
        go_wp2
        exact bodyPost_ret (v := .agg #[.int .i64 2, .int .i64 k]) (by simp [results, Tryd.results52, go_sem]) rfl ⟨rfl, below_one⟩
      · have g0' : W k < 0 := by omega
        clear hbad
        go_wp2
        exact bodyPost_ret (v := .agg #[.int .i64 2, .int .i64 k]) (by simp [results, Tryd.results52, go_sem]) rfl ⟨rfl, below_one⟩

set_option maxRecDepth 100000 in
set_option maxHeartbeats 1000000 in
theorem wf_fine (b off n cap : Nat) (W : Nat → Int) (w : World) (hI : Ints w b off n W) (hW : Weights n W) (z : Int) (hz : (z = 4 ∧ sumTo W n = 0) ∨ (z = 0 ∧ sumTo W n ≠ 0)) :
    Calls Tryd.prog 52 #[.slice (some ⟨b, off, none⟩) n cap] w fun e w' => e = .returned (.agg #[.int .i64 z, .int .i64 (-1)]) ∧ Below w.heap.size w w' := by
  have n1 := hW.n1
  have n64 := hW.n64
  have h0 : ¬ n < 1 := by omega
  have hI1 : Ints (w.alloc (.cells #[.int .i64 0, .int .i64 0] 41)) b off n W := fun i hi => by rw [World.cell?_alloc_lt _ _ _ (cell_lt (hI i hi))]; exact hI i hi
  go_enter Tryd.func52, Tryd.ntmps52
  go_wp2
  go_loop [3, 4] (fun s i => ∃ k : Nat, k ≤ n ∧ i = .int .i64 k ∧ s = .int .i64 (sumTo W k)) (fun _ i => n - (intOf i).toNat)
  case atStart => exact ⟨0, Nat.zero_le _, rfl, rfl⟩
  case round =>
    obtain ⟨k, hk, rfl, rfl⟩ := hrel
    by_cases hlt : k < n
    · have c0 := hI1 k (by omega)
      obtain ⟨g0, g1⟩ := hW.bd k hlt
      have hs := sumTo_bd k (fun j hj => hW.bd j (by omega))
      have he : Hid (sumTo W k + W k = sumTo W (k + 1)) := rfl
      clear hW hI hI1 h0 hz
      go_wp2
      go_round
      case rel => exact ⟨k + 1, by omega, by go_num, by rw [he.out]⟩
      case measure => simp [intOf]; omega
    · obtain rfl : k = n := by omega
      clear hI hI1 hW h0
      rcases hz with ⟨rfl, hz⟩ | ⟨rfl, hz⟩
      · have hz' : (sumTo W k == 0) = true := by simp; exact hz
        clear hz
        go_wp2_with (go_at_call 25; refine (bareD 4 _).mono ?_; rintro e w' ⟨rfl, rfl⟩)
        exact bodyPost_ret (v := .agg #[.int .i64 4, .int .i64 (-1)]) (by simp [results, Tryd.results52, go_sem]) rfl ⟨rfl, below_two⟩
      · have hz' : (sumTo W k == 0) = false := by simp; exact hz
        clear hz
        go_wp2_with (go_at_call 72; refine (fineD _).mono ?_; rintro e w' ⟨rfl, rfl⟩)
        exact bodyPost_ret (v := .agg #[.int .i64 0, .int .i64 (-1)]) (by simp [results, Tryd.results52, go_sem]) rfl ⟨rfl, below_two⟩

/-! a draw that stands -/
structure RefDrawAt (w : World) (D L O n : Nat) (H : Int) (d : DS) : Prop where
  c0 : w.cell? ⟨D, 0, none⟩ = some (.int .i64 H)
  c1 : w.cell? ⟨D, 1, none⟩ = some (.slice (some ⟨L, 0, none⟩) n n)
  c2 : w.cell? ⟨D, 2, none⟩ = some (.slice (some ⟨O, 0, none⟩) n n)
  l : ∀ k, k < n → w.cell? ⟨L, k, none⟩ = some (.int .i64 (d.line k))
  o : ∀ k, k < n → w.cell? ⟨O, k, none⟩ = some (.int .i64 (d.other k))
theorem RefDrawAt.below {w w' : World} {D L O n : Nat} {H : Int} {d : DS} (h : RefDrawAt w D L O n H d) (hB : Below w.heap.size w w') : RefDrawAt w' D L O n H d :=
  ⟨draw_old hB h.c0, draw_old hB h.c1, draw_old hB h.c2, fun k hk => draw_old hB (h.l k hk), fun k hk => draw_old hB (h.o k hk)⟩
theorem ref_pick (D L O n k : Nat) (x H : Int) (d : DS) (w : World) (h : RefDrawAt w D L O n H d) (hk : k < n) :
    Calls Tryd.prog 58 #[.pointer (some ⟨D, 0, none⟩), .int .i64 k, .int .i64 x] w fun e w' => e = .returned (.int .i64 (d.pick k x)) ∧ w' = w := by
  have c1 := h.c1
  have c2 := h.c2
  have cl := h.l k hk
  have co := h.o k hk
  by_cases hl : x < d.line k
  · have e : Hid ((k : Int) = d.pick k x) := by unfold Hid DS.pick; rw [if_pos hl]
    go_enter Tryd.func58, Tryd.ntmps58
    go_wp2
    go_ret
    exact ⟨ret_int e.out, rfl⟩
  · have e : Hid ((d.other k : Int) = d.pick k x) := by unfold Hid DS.pick; rw [if_neg hl]
    go_enter Tryd.func58, Tryd.ntmps58
    go_wp2
    go_ret
    exact ⟨ret_int e.out, rfl⟩
end Go.Proofs.YtlhffdmhbplpjaaDoor
