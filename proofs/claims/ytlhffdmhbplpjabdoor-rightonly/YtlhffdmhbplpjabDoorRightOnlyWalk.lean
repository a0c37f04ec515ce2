/-
  The law RightOnly, walked: for any numbers it returns true.
-/
import Derived.Test.YtlhffdmhbplpjabDoorEntitled
import Derived.Test.YtlhffdmhbplpjabDoorProgFill
namespace Go.Proofs.YtlhffdmhbplpjabDoor
open Go.RowKit Go.Deep

theorem noughts_ints (w : World) (n : Nat) (t : TypeId) : Ints (w.alloc (.cells (noughts n) t)) w.heap.size 0 n (fun _ => 0) := fun i hi => by
  rw [Nat.zero_add]
  exact cell_new _ _ _ _ _ _ rfl (noughts_at n i hi)
def onlyW (k : Nat) (x : Int) : Nat → Int := fun i => if i = k then x else 0
theorem zero_sum (n : Nat) : sumTo (fun _ => (0 : Int)) n = 0 := by
  have := sumTo_mul (fun _ => (0 : Int)) 0 n
  simp at this
  exact this
theorem only_sum (k : Nat) (x : Int) : ∀ n, k < n → sumTo (onlyW k x) n = x
  | 0, h => by omega
  | n + 1, h => by
    show sumTo (onlyW k x) n + onlyW k x n = x
    by_cases e : k = n
    · subst e
      have z : sumTo (onlyW k x) k = 0 := (sumTo_congr (f := onlyW k x) (g := fun _ => 0) k fun i hi => by
        show (if i = k then x else 0) = 0
        rw [if_neg (by omega)]).trans (zero_sum k)
      rw [z]
      show 0 + (if k = k then x else 0) = x
      rw [if_pos rfl]; omega
    · rw [only_sum k x n (by omega)]
      show x + (if n = k then x else 0) = x
      rw [if_neg (by omega)]; omega
theorem only_set {w : World} {m n : Nat} {x : Int} (k : Nat) (hk : k < n) (h : Ints w m 0 n (fun _ => 0)) : Ints (w.setCell ⟨m, k, none⟩ (.int .i64 x)) m 0 n (onlyW k x) := fun i hi => by
  rw [Nat.zero_add]
  by_cases e : i = k
  · subst e
    have := h i hi
    rw [Nat.zero_add] at this
    rw [World.cell?_setCell_same _ _ _ this]
    show _ = some (Value.int .i64 (if i = i then x else 0))
    rw [if_pos rfl]
  · have := h i hi
    rw [Nat.zero_add] at this
    rw [World.cell?_setCell_other _ _ _ _ (by simp <;> omega), this]
    show _ = some (Value.int .i64 (if i = k then x else 0))
    rw [if_neg e]
theorem zero_weights {n : Nat} (n1 : 1 ≤ n) (n64 : n ≤ 64) : Weights n (fun _ => 0) := ⟨n1, n64, fun _ _ => ⟨Int.le_refl _, by decide⟩⟩
theorem only_weights {n : Nat} (n1 : 1 ≤ n) (n64 : n ≤ 64) (k : Nat) {x : Int} (x1 : 1 ≤ x) (x2 : x ≤ 1073741824) : Weights n (onlyW k x) := ⟨n1, n64, fun i _ => by unfold onlyW; split <;> omega⟩
theorem only_turn {n : Nat} (n1 : 1 ≤ n) (n64 : n ≤ 64) {k : Nat} (hk : k < n) {x : Int} (x1 : 1 ≤ x) (x2 : x ≤ 1073741824) {seed : Nat} {c l r q : Int} (h : Turn n (onlyW k x) seed c l r q) : q = k := by
  obtain ⟨j, rfl, _, hj⟩ := h.heavy (only_weights n1 n64 k x1 x2) (by rw [only_sum k x n hk]; omega)
  by_cases e : j = k
  · rw [e]
  · exact absurd (if_neg e) hj

set_option maxRecDepth 100000 in
set_option maxHeartbeats 2000000 in
theorem rightOnly_main (n k : Nat) (x : Int) (seed : Nat) (c l : Int) (A : Nat → Addr) (w : World) (hL : DrawLaid w A) (hs : seed < W64) (n1 : 1 ≤ n) (n64 : n ≤ 64) (hk : k < n) (x1 : 1 ≤ x) (x2 : x ≤ 1073741824) (c0 : 0 ≤ c) (c1 : c ≤ 1048576) (l0 : 0 ≤ l) (l1 : l ≤ 4194304) :
    Calls Tryd.prog 8 #[.int .i64 n, .int .i64 k, .int .i64 x, .int .u64 seed, .int .i64 c, .int .i64 l] w fun e w' => e = .returned (.bool true) ∧ Below w.heap.size w w' := by
  have hT : Hid (TurnOk c l 0) := ⟨⟨c0, c1⟩, ⟨l0, l1⟩, by omega, by omega⟩
  have HS := hide hs
  have mk := make_ints n (by omega)
  have step : ∀ {u v : World}, Below w.heap.size w u → Below u.heap.size u v → Below w.heap.size w v := fun a c => a.trans (c.mono a.size)
  clear hs
  go_enter Tryd.func8, Tryd.ntmps8
  go_wp2_with fail
  refine (entitled_of w).mono ?_
  rintro e w1 ⟨rfl, B1⟩
  have hB : Below w1.heap.size w1 (w1.alloc (.cells (noughts n) 3)) := (Below.refl _ _).alloc (Nat.le_refl _) _
  have I2 := noughts_ints w1 n 3
  have F2 : ∀ i, (w1.alloc (.cells (noughts n) 3)).frozen? ⟨w1.heap.size, i, none⟩ = false := fun i => World.frozen?_alloc_at _ _ _ _ rfl
  have lm : w1.heap.size < (w1.alloc (.cells (noughts n) 3)).heap.size := by simp
  have gm : w.heap.size ≤ w1.heap.size := B1.size
  have B2 := step B1 hB
  clear B1 hB
  go_wp2_with fail
  generalize w1.heap.size = m at *
  generalize w1.alloc (.cells (noughts n) 3) = w2 at *
  refine (rr_err (.slice (some ⟨m, 0, none⟩) n n) seed HS.out c l 4 (-1) hT.out A w2 (hL.below B2) (.none m 0 n n _ I2 lm (zero_weights n1 n64) (zero_sum n) rfl)).mono ?_
  rintro e w3 ⟨a', cap', u, y, rfl, _, B3'⟩
  have B3 := step B2 B3'
  have I3 := I2.below B3' lm
  have F3 : w3.frozen? ⟨m, k, none⟩ = false := by rw [B3'.frozen (p := ⟨m, k, none⟩) lm]; exact F2 k
  have C3 : w3.cell? ⟨m, k, none⟩ = some (.int .i64 0) := by have := I3 k hk; rw [Nat.zero_add] at this; exact this
  have I4 := only_set (x := x) k hk I3
  have lm4 : m < (w3.setCell ⟨m, k, none⟩ (.int .i64 x)).heap.size := by simp [World.setCell]; exact Nat.lt_of_lt_of_le lm B3'.size
  have B4 := B3.setCell (p := ⟨m, k, none⟩) gm (.int .i64 x)
  clear I2 F2 B2 B3 B3' I3 lm
  go_wp2_with fail
  refine (rr_fine m 0 n n seed (onlyW k x) c l hT.out HS.out _ I4 lm4 (only_weights n1 n64 k x1 x2) (by rw [only_sum k x n hk]; omega)).mono ?_
  rintro e w5 ⟨q, cap5, K, rfl, hq, I5, hK, B5'⟩
  have B5 := step B4 B5'
  have HK : Hid (∀ i : Nat, i < 8 → K i = k) := fun i hi => only_turn n1 n64 hk x1 x2 (hK i hi)
  clear I4 lm4 B4 B5' hK C3 F3
  go_wp2_with fail
  go_loopw [18] (fun i wr => ∃ j : Nat, j ≤ 8 ∧ i = .int .i64 j ∧ wr = w5) (fun i _ => 8 - (intOf i).toNat)
  case atStart => exact ⟨0, Nat.zero_le _, rfl, rfl⟩
  case round =>
    obtain ⟨j, hj, rfl, rfl⟩ := hrel
    by_cases hlt : j < 8
    · have c5 := I5 j hlt
      rw [Nat.zero_add, HK.out j hlt] at c5
      have d : ((k : Int) != (k : Int)) = false := by simp
      clear I5
      go_wp2_with fail
      go_roundw
      case rel => exact ⟨j + 1, by omega, by go_num, trivial⟩
      case measure => simp [intOf]; omega
    · obtain rfl : j = 8 := by omega
      go_wp2_with fail
      go_ret
      exact ⟨rfl, B5⟩
end Go.Proofs.YtlhffdmhbplpjabDoor
