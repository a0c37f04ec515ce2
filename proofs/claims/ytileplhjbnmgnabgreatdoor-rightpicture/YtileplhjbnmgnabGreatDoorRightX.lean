/-
  Rights, plainly: who has a turn; that it is one alone, and has weight.
  Weights that are none, as a slice has them; errors with their places.
  The program's rights by their contracts: who bakes a round, who the rounds of a level; a picture of nothing.
  The closed fact of the laws on rights: one baker has all rights; of nothing nothing is seen.
-/
import Derived.Test.YtileplhjbnmgnabGreatDoorDrawX
import Derived.Test.YtileplhjbnmgnabGreatDoorLotsX
import Derived.Test.YtileplhjbnmgnabGreatDoorFillX
import Derived.Test.YtileplhjbnmgnabGreatDoorErrX
import Derived.Deep.QuietTactic
import Derived.BigQuiet
namespace Go.Proofs.YtileplhjbnmgnabGreatDoor

def tri (a b c : Int) : Nat → Int
  | 0 => a
  | 1 => b
  | _ => c
abbrev TurnOk (c l r : Int) : Prop := (0 ≤ c ∧ c ≤ 1048576) ∧ (0 ≤ l ∧ l ≤ 4194304) ∧ 0 ≤ r ∧ r < 8
/-- k has the turn -/
def Turn (n : Nat) (W : Nat → Int) (seed : Nat) (c l r : Int) (k : Int) : Prop := ∃ v1 t1 v2 t2, Bel n (mixTo (tri c l r) seed 3) v1 t1 ∧ Bel (sumTo W n).toNat t1 v2 t2 ∧ k = (dend n W).pick v1 v2
theorem Turn.one {n : Nat} {W : Nat → Int} {seed : Nat} {c l r k k' : Int} (h : Turn n W seed c l r k) (g : Turn n W seed c l r k') : k = k' := by
  obtain ⟨v1, t1, v2, t2, a, b, rfl⟩ := h
  obtain ⟨u1, s1, u2, s2, a', b', rfl⟩ := g
  obtain ⟨rfl, rfl⟩ := a.one a'
  obtain ⟨rfl, rfl⟩ := b.one b'
  rfl
theorem sumTo_one_le (f : Nat → Int) (hf : ∀ i, 0 ≤ f i) (k : Nat) : ∀ n, k < n → f k ≤ sumTo f n
  | 0, h => by omega
  | n + 1, h => by
    show _ ≤ sumTo f n + f n
    have h1 := sumTo_nonneg f n (fun i _ => hf i)
    by_cases e : k = n
    · subst e; omega
    · have := sumTo_one_le f hf k n (by omega)
      have := hf n
      omega
/-- who is picked has weight -/
theorem pick_heavy {n : Nat} {W : Nat → Int} (hW : Weights n W) (v : Nat) (x : Int) (hv : v < n) (h0 : 0 ≤ x) (h1 : x < sumTo W n) : ∃ k : Nat, (dend n W).pick v x = k ∧ k < n ∧ W k ≠ 0 := by
  have I := dend_inv n W (fun k hk => (hW.bd k hk).1)
  have bd := fun k hk => I.line_bd (by omega) k hk
  obtain ⟨b0, b1, b2⟩ := bd v hv
  have n1 := hW.n1
  unfold DS.pick
  split
  · rename_i hlt
    refine ⟨v, rfl, hv, fun e => ?_⟩
    have j := dend_just n W (fun k hk => (hW.bd k hk).1) v hv
    rw [e, Int.zero_mul] at j
    have := sumTo_nonneg (fun j => if (dend n W).other j = v then sumTo W n - (dend n W).line j else 0) n (fun i hi => by
      show 0 ≤ ite _ _ _
      split
      · have := (bd i hi).2.1; omega
      · exact Int.le_refl _)
    have f : 0 ≤ inflow (sumTo W n) (dend n W).line (dend n W).other n v := this
    omega
  · rename_i hge
    refine ⟨(dend n W).other v, rfl, b2, fun e => ?_⟩
    have j := dend_just n W (fun k hk => (hW.bd k hk).1) _ b2
    rw [e, Int.zero_mul] at j
    have l0 := (bd _ b2).1
    have g : sumTo W n - (dend n W).line v ≤ inflow (sumTo W n) (dend n W).line (dend n W).other n ((dend n W).other v) := by
      have u : sumTo (fun j => if (dend n W).other j = (dend n W).other v then sumTo W n - (dend n W).line j else 0) n = sumTo (fun j => if j < n then (if (dend n W).other j = (dend n W).other v then sumTo W n - (dend n W).line j else 0) else 0) n := sumTo_congr n fun i hi => by rw [if_pos hi]
      have s := sumTo_one_le (fun j => if j < n then (if (dend n W).other j = (dend n W).other v then sumTo W n - (dend n W).line j else 0) else 0) (fun i => by
        show 0 ≤ ite _ _ _
        split
        · rename_i hi
          split
          · have := (bd i hi).2.1; omega
          · exact Int.le_refl _
        · exact Int.le_refl _) v n hv
      simp only [hv, if_true] at s
      unfold inflow
      rw [u]
      exact s
    omega
theorem Turn.heavy {n : Nat} {W : Nat → Int} (hW : Weights n W) (h0 : sumTo W n ≠ 0) {seed : Nat} {c l r k : Int} (h : Turn n W seed c l r k) : ∃ j : Nat, k = j ∧ j < n ∧ W j ≠ 0 := by
  obtain ⟨v1, t1, v2, t2, a, b, rfl⟩ := h
  have s := hW.sum
  have n1 := hW.n1
  have hv1 := (a.lt (by omega)).1
  have hv2 := (b.lt (by omega)).1
  exact pick_heavy hW v1 v2 hv1 (by omega) (by omega)
end Go.Proofs.YtileplhjbnmgnabGreatDoor

namespace Go.Proofs.YtileplhjbnmgnabGreatDoor
open Go.RowKit

/-- what is wrong with weights: an error's number and place -/
inductive WCase (w : World) (v : Value) : Int → Int → Prop
  | shape (a : Option Addr) (n cap : Nat) (h : n = 0 ∨ 64 < n) (hm : n ≤ 9223372036854775807) (e : v = .slice a n cap) : WCase w v 3 (-1)
  | bad (b off n cap k0 : Nat) (W : Nat → Int) (hI : Ints w b off n W) (hb : b < w.heap.size) (n1 : 1 ≤ n) (n64 : n ≤ 64) (hk0 : k0 < n) (hG : ∀ i, i < k0 → WOk (W i)) (hbad : ¬ WOk (W k0)) (e : v = .slice (some ⟨b, off, none⟩) n cap) : WCase w v 2 k0
  | none (b off n cap : Nat) (W : Nat → Int) (hI : Ints w b off n W) (hb : b < w.heap.size) (hW : Weights n W) (h0 : sumTo W n = 0) (e : v = .slice (some ⟨b, off, none⟩) n cap) : WCase w v 4 (-1)
theorem WCase.below {w w' : World} {v : Value} {z p : Int} (h : WCase w v z p) (hB : Below w.heap.size w w') : WCase w' v z p := by
  cases h with
  | shape a n cap h hm e => exact .shape a n cap h hm e
  | bad b off n cap k0 W hI hb n1 n64 hk0 hG hbad e => exact .bad b off n cap k0 W (hI.below hB hb) (Nat.lt_of_lt_of_le hb hB.size) n1 n64 hk0 hG hbad e
  | none b off n cap W hI hb hW h0 e => exact .none b off n cap W (hI.below hB hb) (Nat.lt_of_lt_of_le hb hB.size) hW h0 e
theorem WCase.pos {w : World} {v : Value} {z p : Int} (h : WCase w v z p) : 0 < z := by cases h <;> decide
/-- an error's value: bare, or a new fault with its place -/
def ErrAt (B : Nat) (w : World) (A : Nat → Addr) (e : Value) (z p : Int) : Prop := (∃ i : Nat, i < 10 ∧ z = i + 1 ∧ p = -1 ∧ e = sent (A i)) ∨ ∃ m i : Nat, B ≤ m ∧ i < 10 ∧ z = i + 1 ∧ e = fault m ∧ w.cell? ⟨m, 0, none⟩ = some (.int .i64 p) ∧ w.cell? ⟨m, 1, none⟩ = some (sent (A i))
theorem ErrAt.below {B : Nat} {w w' : World} {A : Nat → Addr} {e : Value} {z p : Int} (h : ErrAt B w A e z p) (hB : Below w.heap.size w w') : ErrAt B w' A e z p := by
  rcases h with h | ⟨m, i, hm, hi, hz, he, c0, c1⟩
  · exact .inl h
  · exact .inr ⟨m, i, hm, hi, hz, he, draw_old hB c0, draw_old hB c1⟩
theorem ErrAt.setCell {B : Nat} {w : World} {A : Nat → Addr} {e : Value} {z p : Int} (h : ErrAt B w A e z p) {q : Addr} (hq : q.block < B) (u : Value) : ErrAt B (w.setCell q u) A e z p := by
  rcases h with h | ⟨m, i, hm, hi, hz, he, c0, c1⟩
  · exact .inl h
  · exact .inr ⟨m, i, hm, hi, hz, he, by rw [World.cell?_setCell_other _ _ _ _ (fun e => by rw [e] at hq; exact absurd hq (Nat.not_lt.2 hm))]; exact c0, by rw [World.cell?_setCell_other _ _ _ _ (fun e => by rw [e] at hq; exact absurd hq (Nat.not_lt.2 hm))]; exact c1⟩
end Go.Proofs.YtileplhjbnmgnabGreatDoor

namespace Go.Proofs.YtileplhjbnmgnabGreatDoor
open Go.RowKit Go.Deep

/-! times -/
theorem rcy_yes (c : Int) (h0 : 0 ≤ c) (h1 : c ≤ 1048576) (w : World) :
    Calls Tryz.prog 48 #[.int .i64 c] w fun e w' => e = .returned (.bool true) ∧ w' = w := by
  go_enter Tryz.func48, Tryz.ntmps48
  go_wp2
  go_ret
  exact ⟨rfl, rfl⟩
theorem rcy_no (c : Int) (h : ¬ (0 ≤ c ∧ c ≤ 1048576)) (w : World) :
    Calls Tryz.prog 48 #[.int .i64 c] w fun e w' => e = .returned (.bool false) ∧ w' = w := by
  by_cases h0 : 0 ≤ c
  · have h3 : ¬ c ≤ 1048576 := by omega
    clear h
    go_enter Tryz.func48, Tryz.ntmps48
    go_wp2
    go_ret
    exact ⟨rfl, rfl⟩
  · clear h
    go_enter Tryz.func48, Tryz.ntmps48
    go_wp2
    go_ret
    exact ⟨rfl, rfl⟩
theorem time_yes (c l : Int) (c0 : 0 ≤ c) (c1 : c ≤ 1048576) (l0 : 0 ≤ l) (l1 : l ≤ 4194304) (w : World) :
    Calls Tryz.prog 68 #[.int .i64 c, .int .i64 l] w fun e w' => e = .returned (.bool true) ∧ w' = w := by
  have I := rcy_yes c c0 c1
  go_enter Tryz.func68, Tryz.ntmps68
  go_wp2_with (go_at_call 48; refine (I _).mono ?_; rintro e w' ⟨rfl, rfl⟩)
  go_ret
  exact ⟨rfl, rfl⟩
theorem time_no (c l : Int) (h : ¬ ((0 ≤ c ∧ c ≤ 1048576) ∧ 0 ≤ l ∧ l ≤ 4194304)) (w : World) :
    Calls Tryz.prog 68 #[.int .i64 c, .int .i64 l] w fun e w' => e = .returned (.bool false) ∧ w' = w := by
  by_cases hc : 0 ≤ c ∧ c ≤ 1048576
  · have I := rcy_yes c hc.1 hc.2
    by_cases l0 : 0 ≤ l
    · have l1 : ¬ l ≤ 4194304 := by omega
      clear h hc
      go_enter Tryz.func68, Tryz.ntmps68
      go_wp2_with (go_at_call 48; refine (I _).mono ?_; rintro e w' ⟨rfl, rfl⟩)
      go_ret
      exact ⟨by simp; omega, rfl⟩
    · clear h hc
      go_enter Tryz.func68, Tryz.ntmps68
      go_wp2_with (go_at_call 48; refine (I _).mono ?_; rintro e w' ⟨rfl, rfl⟩)
      go_ret
      exact ⟨rfl, rfl⟩
  · have I := rcy_no c hc
    clear h hc
    go_enter Tryz.func68, Tryz.ntmps68
    go_wp2_with (go_at_call 48; refine (I _).mono ?_; rintro e w' ⟨rfl, rfl⟩)
    go_ret
    exact ⟨rfl, rfl⟩
theorem round_yes (r : Int) (r0 : 0 ≤ r) (r1 : r < 8) (w : World) :
    Calls Tryz.prog 69 #[.int .i64 r] w fun e w' => e = .returned (.bool true) ∧ w' = w := by
  go_enter Tryz.func69, Tryz.ntmps69
  go_wp2
  go_ret
  exact ⟨rfl, rfl⟩
theorem round_no (r : Int) (h : ¬ (0 ≤ r ∧ r < 8)) (w : World) :
    Calls Tryz.prog 69 #[.int .i64 r] w fun e w' => e = .returned (.bool false) ∧ w' = w := by
  by_cases r0 : 0 ≤ r
  · have r1 : ¬ r < 8 := by omega
    clear h
    go_enter Tryz.func69, Tryz.ntmps69
    go_wp2
    go_ret
    exact ⟨rfl, rfl⟩
  · clear h
    go_enter Tryz.func69, Tryz.ntmps69
    go_wp2
    go_ret
    exact ⟨rfl, rfl⟩

/-! weights that there is no draw of -/
theorem new_err (v : Value) (z p : Int) (A : Nat → Addr) (w : World) (hL : DrawLaid w A) (hC : WCase w v z p) :
    Calls Tryz.prog 70 #[v] w fun e w' => ∃ u y, e = .returned (.tuple #[.pointer none, .iface u y]) ∧ ErrAt w.heap.size w' A (.iface u y) z p ∧ Below w.heap.size w w' := by
  cases hC with
  | shape a n cap h hm e =>
    subst e
    refine new_hands _ _ (fun x w' => ErrAt w.heap.size w' A x 3 (-1) ∧ Below w.heap.size w w') ((together_shape a n cap A w hL h hm).mono ?_)
    rintro e w' ⟨rfl, hB⟩
    exact ⟨_, _, rfl, .inl ⟨2, by omega, rfl, rfl, rfl⟩, hB⟩
  | bad b off n cap k0 W hI hb n1 n64 hk0 hG hbad e =>
    subst e
    refine new_hands _ _ (fun x w' => ErrAt w.heap.size w' A x 2 k0 ∧ Below w.heap.size w w') ((together_bad_at b off n cap k0 W A w hL hI n1 n64 hk0 hG hbad).mono ?_)
    rintro e w' ⟨m, rfl, d0, d1, hB, hm⟩
    exact ⟨_, _, rfl, .inr ⟨m, 1, hm, by omega, rfl, rfl, d0, d1⟩, hB⟩
  | none b off n cap W hI hb hW h0 e =>
    subst e
    refine new_hands _ _ (fun x w' => ErrAt w.heap.size w' A x 4 (-1) ∧ Below w.heap.size w w') ((together_none b off n cap W A w hL hI hW h0).mono ?_)
    rintro e w' ⟨rfl, hB⟩
    exact ⟨_, _, rfl, .inl ⟨3, by omega, rfl, rfl, rfl⟩, hB⟩

/-! a number of a draw, by lots -/
theorem DrawAt.kept {w w' : World} {b c n : Nat} {H : Int} {d : DS} {X : List Nat} (h : DrawAt w b c n H d) (hK : Kept X w w') (hb : b ∉ X) (hc : c ∉ X) : DrawAt w' b c n H d :=
  ⟨hK.old h.c0 hb, hK.old h.c1 hb, fun k hk => hK.old (h.l k hk) hc, fun k hk => hK.old (h.o k hk) hc⟩
set_option maxRecDepth 100000 in
set_option maxHeartbeats 1000000 in
theorem rpick_of (D c n s H : Nat) (W : Nat → Int) (hs : s < W64) (w : World) (hD : DrawAt w D c n H (dend n W)) (n1 : 1 ≤ n) (n64 : n ≤ 64) (H1 : 1 ≤ H) (H2 : H ≤ 68719476736) :
    Calls Tryz.prog 71 #[.pointer (some ⟨D, 0, none⟩), .int .u64 s] w fun e w' => ∃ v1 t1 v2 t2 : Nat, e = .returned (.int .i64 ((dend n W).pick v1 v2)) ∧ (Bel n s v1 t1 ∧ Bel H t1 v2 t2) ∧ Below w.heap.size w w' := by
  have N := hide (prog_newLot s hs w)
  have N1 := hide n1
  have N64 := hide n64
  have G1 := hide H1
  have G2 := hide H2
  have z1 : Hid (D < w.heap.size) := cell_lt hD.c0
  have z2 : Hid (c < w.heap.size) := cell_lt (hD.l 0 (by omega))
  clear hs n1 n64 H1 H2
  go_enter Tryz.func71, Tryz.ntmps71
  go_wp2_with fail
  refine N.out.mono ?_
  rintro e w1 ⟨l, rfl, hl, hL1, B1⟩
  have hD1 := hD.below B1
  have x1 : Hid (D ∉ [l]) := by have := z1.out; unfold Hid; simp; omega
  have x2 : Hid (c ∉ [l]) := by have := z2.out; unfold Hid; simp; omega
  have x3 := hide hl
  clear N hD z1 z2 hl
  go_wp2_with fail
  refine (draw_columns D c n H _ _ hD1).mono ?_
  rintro e w2 ⟨rfl, hw⟩
  obtain rfl := hw.symm
  go_wp2_with fail
  refine (below_yes l s n w1 hL1 N1.out (by have := N64.out; omega)).mono ?_
  rintro e w3 ⟨v1, t1, rfl, hv1, hL3, K3⟩
  have hD3 := hD1.kept K3 x1.out x2.out
  have B3 := B1.trans (K3.below B1.size (by simp; exact x3.out))
  have lv1 := hide (hv1.lt (by have := N1.out; omega)).1
  have HV1 := hide hv1
  clear hL1 hD1 B1 K3 hv1
  go_wp2_with fail
  refine (draw_height D c n H _ _ hD3).mono ?_
  rintro e w4 ⟨rfl, hw⟩
  obtain rfl := hw.symm
  go_wp2_with fail
  refine (below_yes l t1 H w3 hL3 G1.out (by have := G2.out; omega)).mono ?_
  rintro e w5 ⟨v2, t2, rfl, hv2, hL5, K5⟩
  have hD5 := hD3.kept K5 x1.out x2.out
  have B5 := B3.trans (K5.below B3.size (by simp; exact x3.out))
  have lv2 := hide (hv2.lt (by have := G1.out; omega)).1
  have HV2 := hide hv2
  clear hL3 hD3 B3 K5 hv2 hL5
  go_wp2_with fail
  refine (draw_pick_yes D c n v1 v2 H _ w5 hD5 lv1.out (by omega) (by have := lv2.out; omega)).mono ?_
  rintro e w6 ⟨rfl, B6⟩
  go_wp2_with fail
  go_ret
  exact ⟨v1, t1, v2, t2, rfl, ⟨HV1.out, HV2.out⟩, B5.trans (B6.mono B5.size)⟩

theorem three_ints (w : World) (c l r : Int) (t : TypeId) : Ints (w.alloc (.cells #[.int .i64 c, .int .i64 l, .int .i64 r] t)) w.heap.size 0 3 (tri c l r) := fun i hi => by
  have : i = 0 ∨ i = 1 ∨ i = 2 := by omega
  rcases this with rfl | rfl | rfl <;> exact cell_new _ _ _ _ _ _ rfl rfl

/-! who bakes -/
set_option maxRecDepth 100000 in
theorem rb_bad (a : Option Addr) (n cap seed : Nat) (c l r : Int) (h : ¬ TurnOk c l r) (A : Nat → Addr) (w : World) (hL : DrawLaid w A) :
    Calls Tryz.prog 43 #[.slice a n cap, .int .u64 seed, .int .i64 c, .int .i64 l, .int .i64 r] w fun e w' => e = .returned (.tuple #[.int .i64 0, sent (A 1)]) ∧ Below w.heap.size w w' := by
  have v1 := hL.v1
  by_cases ht : (0 ≤ c ∧ c ≤ 1048576) ∧ 0 ≤ l ∧ l ≤ 4194304
  · have T := time_yes c l ht.1.1 ht.1.2 ht.2.1 ht.2.2
    have R := round_no r (fun g => h ⟨ht.1, ht.2, g⟩)
    clear h ht
    go_enter Tryz.func43, Tryz.ntmps43
    go_wp2_with (first | (go_at_call 68; refine (T _).mono ?_; rintro e w' ⟨rfl, rfl⟩) | (go_at_call 69; refine (R _).mono ?_; rintro e w' ⟨rfl, rfl⟩))
    go_quiet (fail)
    go_wp2
    go_ret2
    exact ⟨rfl, below_drewN (Below.refl _ _) _⟩
  · have T := time_no c l ht
    clear h ht
    go_enter Tryz.func43, Tryz.ntmps43
    go_wp2_with (go_at_call 68; refine (T _).mono ?_; rintro e w' ⟨rfl, rfl⟩)
    go_quiet (fail)
    go_wp2
    go_ret2
    exact ⟨rfl, below_drewN (Below.refl _ _) _⟩
set_option maxRecDepth 100000 in
theorem rb_err (v : Value) (seed : Nat) (_hs : seed < W64) (c l r z p : Int) (h : TurnOk c l r) (A : Nat → Addr) (w : World) (hL : DrawLaid w A) (hC : WCase w v z p) :
    Calls Tryz.prog 43 #[v, .int .u64 seed, .int .i64 c, .int .i64 l, .int .i64 r] w fun e w' => ∃ u y, e = .returned (.tuple #[.int .i64 0, .iface u y]) ∧ ErrAt w.heap.size w' A (.iface u y) z p ∧ Below w.heap.size w w' := by
  have T := time_yes c l h.1.1 h.1.2 h.2.1.1 h.2.1.2
  have R := round_yes r h.2.2.1 h.2.2.2
  have N := new_err v z p A w hL hC
  clear h _hs hC hL
  go_enter Tryz.func43, Tryz.ntmps43
  go_wp2_with (first | (go_at_call 68; refine (T _).mono ?_; rintro e w' ⟨rfl, rfl⟩) | (go_at_call 69; refine (R _).mono ?_; rintro e w' ⟨rfl, rfl⟩))
  refine N.mono ?_
  rintro e w1 ⟨u, y, rfl, hE, hB⟩
  have HE := hide hE
  clear hE N T R
  go_wp2_with fail
  go_ret2
  exact ⟨_, _, rfl, HE.out, hB⟩
set_option maxRecDepth 100000 in
set_option maxHeartbeats 1000000 in
theorem rb_fine (b off n cap seed : Nat) (W : Nat → Int) (c l r : Int) (h : TurnOk c l r) (hs : seed < W64) (w : World) (hI : Ints w b off n W) (hb : b < w.heap.size) (hW : Weights n W) (h0 : sumTo W n ≠ 0) :
    Calls Tryz.prog 43 #[.slice (some ⟨b, off, none⟩) n cap, .int .u64 seed, .int .i64 c, .int .i64 l, .int .i64 r] w fun e w' => ∃ k, e = .returned (.tuple #[.int .i64 k, .nilIface]) ∧ Turn n W seed c l r k ∧ Below w.heap.size w w' := by
  have T := time_yes c l h.1.1 h.1.2 h.2.1.1 h.2.1.2
  have R := round_yes r h.2.2.1 h.2.2.2
  have N := new_fine b off n cap W w hI hb hW h0
  have sm := hW.sum
  obtain ⟨H, eH⟩ : ∃ H : Nat, sumTo W n = H := ⟨(sumTo W n).toNat, by omega⟩
  rw [eH] at N
  have H1 : Hid (1 ≤ H) := by unfold Hid; omega
  have H2 : Hid (H ≤ 68719476736) := by unfold Hid; omega
  have EH := hide eH
  have HS := hide hs
  have HW := hide hW
  clear h hI hb h0 sm eH hs hW
  go_enter Tryz.func43, Tryz.ntmps43
  go_wp2_with (first | (go_at_call 68; refine (T _).mono ?_; rintro e w' ⟨rfl, hw⟩; obtain rfl := hw.symm) | (go_at_call 69; refine (R _).mono ?_; rintro e w' ⟨rfl, hw⟩; obtain rfl := hw.symm))
  refine N.mono ?_
  rintro e w1 ⟨D, cb, rfl, hd, hD, B1⟩
  have hT : Below w1.heap.size w1 (w1.alloc (.cells #[.int .i64 c, .int .i64 l, .int .i64 r] 3)) := (Below.refl _ _).alloc (Nat.le_refl _) _
  have M := hide (prog_mix (some ⟨w1.heap.size, 0, none⟩) w1.heap.size 0 3 3 seed (tri c l r) HS.out (by omega) _ (fun _ => rfl) (fun _ => by simp) (three_ints w1 c l r 3))
  clear N T R hd
  go_wp2_with fail
  refine M.out.mono ?_
  rintro e w2 ⟨rfl, B2⟩
  have hm := hide (mixTo_lt (tri c l r) seed HS.out 3)
  have hD2 := (hD.below hT).below B2
  have B3 := (B1.trans (hT.mono B1.size))
  have B4 := B3.trans (B2.mono B3.size)
  clear M B1 B2 B3 hT hD
  generalize hms : mixTo (tri c l r) seed 3 = ms at *
  have HMS := hide hms
  clear hms
  go_wp2_with fail
  refine (rpick_of D cb n ms H W hm.out w2 hD2 HW.out.n1 HW.out.n64 H1.out H2.out).mono ?_
  rintro e w3 ⟨v1, t1, v2, t2, rfl, hv, B5⟩
  have HT : Hid (Turn n W seed c l r ((dend n W).pick v1 v2)) := ⟨v1, t1, v2, t2, by rw [HMS.out]; exact hv.1, by rw [EH.out]; exact hv.2, rfl⟩
  clear hv hD2 hm
  generalize (dend n W).pick v1 v2 = q at *
  go_wp2_with fail
  go_ret2
  exact ⟨q, rfl, HT.out, B4.trans (B5.mono B4.size)⟩

/-! rows that are filled one by one -/
/-- the first so many of a row of the call's own are laid, the rest is nought -/
structure RowTo (w : World) (m n k : Nat) (K : Nat → Int) : Prop where
  c : ∀ i, i < n → w.cell? ⟨m, i, none⟩ = some (.int .i64 (if i < k then K i else 0))
  f : ∀ i, w.frozen? ⟨m, i, none⟩ = false
  lt : m < w.heap.size
theorem RowTo.new (w : World) (n : Nat) (t : TypeId) (K : Nat → Int) : RowTo (w.alloc (.cells (noughts n) t)) w.heap.size n 0 K :=
  ⟨fun i hi => by rw [if_neg (by omega)]; exact cell_new _ _ _ _ _ _ rfl (noughts_at n i hi), fun i => World.frozen?_alloc_at _ _ _ _ rfl, by simp⟩
theorem RowTo.below {w w' : World} {m n k : Nat} {K : Nat → Int} (h : RowTo w m n k K) (hB : Below w.heap.size w w') : RowTo w' m n k K :=
  ⟨fun i hi => draw_old hB (h.c i hi), fun i => by rw [hB.frozen (p := ⟨m, i, none⟩) h.lt]; exact h.f i, Nat.lt_of_lt_of_le h.lt hB.size⟩
theorem RowTo.next {w : World} {m n k : Nat} {K K' : Nat → Int} {x : Int} (h : RowTo w m n k K) (hk : k < n) (hK : ∀ i, i < k → K' i = K i) (hx : K' k = x) : RowTo (w.setCell ⟨m, k, none⟩ (.int .i64 x)) m n (k + 1) K' := by
  refine ⟨fun i hi => ?_, fun i => by rw [World.frozen?_setCell]; exact h.f i, by simp [World.setCell]; exact h.lt⟩
  by_cases e : i = k
  · subst e
    rw [World.cell?_setCell_same _ _ _ (h.c i hi), if_pos (by omega), hx]
  · rw [World.cell?_setCell_other _ _ _ _ (by simp <;> omega), h.c i hi]
    by_cases g : i < k
    · rw [if_pos g, if_pos (by omega), hK i g]
    · rw [if_neg g, if_neg (by omega)]
theorem RowTo.all {w : World} {m n : Nat} {K : Nat → Int} (h : RowTo w m n n K) : Ints w m 0 n K := fun i hi => by
  have := h.c i hi
  rw [if_pos hi] at this
  rw [Nat.zero_add]; exact this

/-! a picture of nothing -/
theorem make_tri (w : World) : (Instr.makeSlice 38 (.int .i64 3) (.int .i64 3)).run Tryz.prog w = .ok (.slice (some ⟨w.heap.size, 0, none⟩) 3 3) (w.alloc (.cells (noughts 3) 3)) := make_ints 3 (by omega) w
theorem rp_nil (w : World) :
    Calls Tryz.prog 21 #[.pointer none] w fun e w' => ∃ m cap', e = .returned (.slice (some ⟨m, 0, none⟩) 3 cap') ∧ m < w'.heap.size ∧ Ints w' m 0 3 (fun _ => 0) ∧ Below w.heap.size w w' := by
  have mk := make_tri
  have R := RowTo.new w 3 3 (fun _ => 0)
  go_enter Tryz.func21, Tryz.ntmps21
  go_wp2
  go_ret
  exact ⟨_, _, rfl, R.lt, fun i hi => by have := R.c i hi; rw [if_neg (by omega)] at this; rw [Nat.zero_add]; exact this, (Below.refl _ _).alloc (Nat.le_refl _) _⟩

/-! the rounds of a level -/
theorem make_eight (w : World) : (Instr.makeSlice 38 (.int .i64 8) (.int .i64 8)).run Tryz.prog w = .ok (.slice (some ⟨w.heap.size, 0, none⟩) 8 8) (w.alloc (.cells (noughts 8) 3)) := make_ints 8 (by omega) w
end Go.Proofs.YtileplhjbnmgnabGreatDoor

namespace Go.Proofs.YtileplhjbnmgnabGreatDoor
open Go.RowKit

theorem drewN_drewN (w : World) (m n : Nat) : (w.drewN m).drewN n = w.drewN (m + n) := by simp [World.drewN, Nat.add_assoc]
set_option maxRecDepth 100000 in
theorem same_three (a b ca cb : Nat) (K : Nat → Int) (w : World) (hA : Ints w a 0 3 K) (hB : Ints w b 0 3 K) :
    Calls Tryz.prog 20 #[.slice (some ⟨a, 0, none⟩) 3 ca, .slice (some ⟨b, 0, none⟩) 3 cb] w fun e w' => e = .returned (.bool true) ∧ ∃ m, w' = w.drewN m := by
  go_enter Tryz.func20, Tryz.ntmps20
  go_wp2
  go_loopw [5] (fun i wr => ∃ k : Nat, k ≤ 3 ∧ i = .int .i64 k ∧ ∃ m, wr = w.drewN m) (fun i _ => 3 - (intOf i).toNat)
  case atStart => exact ⟨0, Nat.zero_le _, rfl, 0, rfl⟩
  case round =>
    obtain ⟨k, hk, rfl, m, hw⟩ := hrel
    by_cases hlt : k < 3
    · have c0 : wr.cell? ⟨a, k, none⟩ = some (.int .i64 (K k)) := by rw [hw]; have := hA k hlt; rw [Nat.zero_add] at this; exact this
      have c1 : wr.cell? ⟨b, k, none⟩ = some (.int .i64 (K k)) := by rw [hw]; have := hB k hlt; rw [Nat.zero_add] at this; exact this
      have HW := hide hw
      clear hw
      have d : (K k != K k) = false := by simp
      clear hA hB
      go_wp2
      go_quiet (fail)
      go_wp2
      go_roundw
      case rel => exact ⟨k + 1, by omega, by go_num, _, by rw [HW.out, drewN_drewN]⟩
      case measure => simp [intOf]; omega
    · obtain rfl : k = 3 := by omega
      have HW := hide hw
      clear hw
      go_wp2
      go_ret
      exact ⟨rfl, m, HW.out⟩
def one5 : Nat → Int := fun i => if i = 1 then 5 else 0
theorem one5_weights : Weights 3 one5 := ⟨by omega, by omega, fun k _ => by unfold one5; split <;> omega⟩
theorem one5_ints (w : World) (t : TypeId) : Ints (w.alloc (.cells #[.int .i64 0, .int .i64 5, .int .i64 0] t)) w.heap.size 0 3 one5 := fun i hi => by
  have : i = 0 ∨ i = 1 ∨ i = 2 := by omega
  rcases this with rfl | rfl | rfl <;> exact cell_new _ _ _ _ _ _ rfl rfl
theorem zero3_ints (w : World) (t : TypeId) : Ints (w.alloc (.cells #[.int .i64 0, .int .i64 0, .int .i64 0] t)) w.heap.size 0 3 (fun _ => 0) := fun i hi => by
  have : i = 0 ∨ i = 1 ∨ i = 2 := by omega
  rcases this with rfl | rfl | rfl <;> exact cell_new _ _ _ _ _ _ rfl rfl
set_option maxRecDepth 100000 in
set_option maxHeartbeats 1000000 in
theorem entitled_of (w : World) :
    Calls Tryz.prog 19 #[] w fun e w' => e = .returned (.bool true) ∧ Below w.heap.size w w' := by
  have B0 : Below w.heap.size w (w.alloc (.cells #[.int .i64 0, .int .i64 5, .int .i64 0] 3)) := (Below.refl _ _).alloc (Nat.le_refl _) _
  have N := rb_fine w.heap.size 0 3 3 7 one5 1 2 3 (by decide) (by decide) _ (one5_ints w 3) (by simp) one5_weights (by decide)
  go_enter Tryz.func19, Tryz.ntmps19
  go_wp2_with fail
  refine N.mono ?_
  rintro e w1 ⟨k, rfl, hT, B1⟩
  obtain ⟨j, rfl, hj, hw⟩ := hT.heavy one5_weights (by decide)
  obtain rfl : j = 1 := by
    have : j = 0 ∨ j = 1 ∨ j = 2 := by omega
    rcases this with rfl | rfl | rfl
    · exact absurd rfl hw
    · rfl
    · exact absurd rfl hw
  have B2 := B0.trans (B1.mono B0.size)
  clear N hT hj hw B0 B1
  go_wp2_with fail
  refine (rp_nil w1).mono ?_
  rintro e w2 ⟨m, cap, rfl, hm, hI, B3⟩
  have B4 := B2.trans (B3.mono B2.size)
  have hB : Below w2.heap.size w2 (w2.alloc (.cells #[.int .i64 0, .int .i64 0, .int .i64 0] 3)) := (Below.refl _ _).alloc (Nat.le_refl _) _
  have S := same_three m w2.heap.size cap 3 (fun _ => 0) _ (hI.below hB hm) (zero3_ints w2 3)
  have B5 := B4.trans (hB.mono B4.size)
  clear B2 B3 B4 hI hB
  go_wp2_with fail
  refine S.mono ?_
  rintro e w3 ⟨rfl, m3, hw⟩
  have B6 : Below w.heap.size w w3 := by rw [hw]; exact below_drewN B5 m3
  clear hw B5
  go_wp2_with fail
  go_ret
  exact ⟨rfl, B6⟩
end Go.Proofs.YtileplhjbnmgnabGreatDoor
