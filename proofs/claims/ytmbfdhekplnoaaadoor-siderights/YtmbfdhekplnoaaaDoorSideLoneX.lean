/-
  The program's rights by their contracts: who bakes a round, who the rounds of a level; a picture of nothing.
  A level's bakers, as a worker makes them (side.Rights' own function), alone.
-/
import Derived.Test.YtmbfdhekplnoaaaDoorFillAtX
import Derived.Test.YtmbfdhekplnoaaaDoorLotsBelowX
import Derived.Deep.RegionHeld3
namespace Go.Proofs.YtmbfdhekplnoaaaDoor
open Go.RowKit Go.Deep

/-! times -/
theorem rcy_yes (c : Int) (h0 : 0 ≤ c) (h1 : c ≤ 1048576) (w : World) :
    Calls Tryd.prog 56 #[.int .i64 c] w fun e w' => e = .returned (.bool true) ∧ w' = w := by
  go_enter Tryd.func56, Tryd.ntmps56
  go_wp2
  go_ret
  exact ⟨rfl, rfl⟩
theorem rcy_no (c : Int) (h : ¬ (0 ≤ c ∧ c ≤ 1048576)) (w : World) :
    Calls Tryd.prog 56 #[.int .i64 c] w fun e w' => e = .returned (.bool false) ∧ w' = w := by
  by_cases h0 : 0 ≤ c
  · have h3 : ¬ c ≤ 1048576 := by omega
    clear h
    go_enter Tryd.func56, Tryd.ntmps56
    go_wp2
    go_ret
    exact ⟨rfl, rfl⟩
  · clear h
    go_enter Tryd.func56, Tryd.ntmps56
    go_wp2
    go_ret
    exact ⟨rfl, rfl⟩
theorem time_yes (c l : Int) (c0 : 0 ≤ c) (c1 : c ≤ 1048576) (l0 : 0 ≤ l) (l1 : l ≤ 4194304) (w : World) :
    Calls Tryd.prog 31 #[.int .i64 c, .int .i64 l] w fun e w' => e = .returned (.bool true) ∧ w' = w := by
  have I := rcy_yes c c0 c1
  go_enter Tryd.func31, Tryd.ntmps31
  go_wp2_with (go_at_call 56; refine (I _).mono ?_; rintro e w' ⟨rfl, rfl⟩)
  go_ret
  exact ⟨rfl, rfl⟩
theorem time_no (c l : Int) (h : ¬ ((0 ≤ c ∧ c ≤ 1048576) ∧ 0 ≤ l ∧ l ≤ 4194304)) (w : World) :
    Calls Tryd.prog 31 #[.int .i64 c, .int .i64 l] w fun e w' => e = .returned (.bool false) ∧ w' = w := by
  by_cases hc : 0 ≤ c ∧ c ≤ 1048576
  · have I := rcy_yes c hc.1 hc.2
    by_cases l0 : 0 ≤ l
    · have l1 : ¬ l ≤ 4194304 := by omega
      clear h hc
      go_enter Tryd.func31, Tryd.ntmps31
      go_wp2_with (go_at_call 56; refine (I _).mono ?_; rintro e w' ⟨rfl, rfl⟩)
      go_ret
      exact ⟨by simp; omega, rfl⟩
    · clear h hc
      go_enter Tryd.func31, Tryd.ntmps31
      go_wp2_with (go_at_call 56; refine (I _).mono ?_; rintro e w' ⟨rfl, rfl⟩)
      go_ret
      exact ⟨rfl, rfl⟩
  · have I := rcy_no c hc
    clear h hc
    go_enter Tryd.func31, Tryd.ntmps31
    go_wp2_with (go_at_call 56; refine (I _).mono ?_; rintro e w' ⟨rfl, rfl⟩)
    go_ret
    exact ⟨rfl, rfl⟩
/-! weights that there is no draw of -/
theorem new_err (v : Value) (z p : Int) (A : Nat → Addr) (w : World) (hL : DrawLaid w A) (hC : WCase w v z p) :
    Calls Tryd.prog 32 #[v] w fun e w' => ∃ u y, e = .returned (.tuple #[.pointer none, .iface u y]) ∧ ErrAt w.heap.size w' A (.iface u y) z p ∧ Below w.heap.size w w' := by
  cases hC with
  | shape a n cap h hm e =>
    subst e
    refine new_hands _ _ (fun x w' => ErrAt w.heap.size w' A x 3 (-1) ∧ Below w.heap.size w w') ((together_shape a n cap A w hL h hm).mono ?_)
    rintro e w' ⟨rfl, hB⟩
    exact ⟨_, _, rfl, .inl ⟨2, by omega, rfl, rfl, rfl⟩, hB⟩
  | bad b off n cap k0 W hI hb n1 n64 hk0 hG hbad e =>
    subst e
    refine new_hands _ _ (fun x w' => ErrAt w.heap.size w' A x 2 k0 ∧ Below w.heap.size w w') ((together_bad_at b off n cap k0 W A w hL hI n1 n64 hk0 hG hbad).mono ?_)
    rintro e w' ⟨m, rfl, d0, d1, hB, hm⟩
    exact ⟨_, _, rfl, .inr ⟨m, 1, hm, by omega, rfl, rfl, d0, d1⟩, hB⟩
  | none b off n cap W hI hb hW h0 e =>
    subst e
    refine new_hands _ _ (fun x w' => ErrAt w.heap.size w' A x 4 (-1) ∧ Below w.heap.size w w') ((together_none b off n cap W A w hL hI hW h0).mono ?_)
    rintro e w' ⟨rfl, hB⟩
    exact ⟨_, _, rfl, .inl ⟨3, by omega, rfl, rfl, rfl⟩, hB⟩

/-! a number of a draw, by lots -/
theorem DrawAt.kept {w w' : World} {b c n : Nat} {H : Int} {d : DS} {X : List Nat} (h : DrawAt w b c n H d) (hK : Kept X w w') (hb : b ∉ X) (hc : c ∉ X) : DrawAt w' b c n H d :=
  ⟨hK.old h.c0 hb, hK.old h.c1 hb, fun k hk => hK.old (h.l k hk) hc, fun k hk => hK.old (h.o k hk) hc⟩
set_option maxRecDepth 100000 in
set_option maxHeartbeats 1000000 in
theorem rpick_of (D c n s H : Nat) (W : Nat → Int) (hs : s < W64) (w : World) (hD : DrawAt w D c n H (dend n W)) (n1 : 1 ≤ n) (n64 : n ≤ 64) (H1 : 1 ≤ H) (H2 : H ≤ 68719476736) :
    Calls Tryd.prog 33 #[.pointer (some ⟨D, 0, none⟩), .int .u64 s] w fun e w' => ∃ v1 t1 v2 t2 : Nat, e = .returned (.int .i64 ((dend n W).pick v1 v2)) ∧ (Bel n s v1 t1 ∧ Bel H t1 v2 t2) ∧ Below w.heap.size w w' := by
  have N := hide (prog_newLot s hs w)
  have N1 := hide n1
  have N64 := hide n64
  have G1 := hide H1
  have G2 := hide H2
  have z1 : Hid (D < w.heap.size) := cell_lt hD.c0
  have z2 : Hid (c < w.heap.size) := cell_lt (hD.l 0 (by omega))
  clear hs n1 n64 H1 H2
  go_enter Tryd.func33, Tryd.ntmps33
  go_wp2_with fail
  refine N.out.mono ?_
  rintro e w1 ⟨l, rfl, hl, hL1, B1⟩
  have hD1 := hD.below B1
  have x1 : Hid (D ∉ [l]) := by have := z1.out; unfold Hid; simp; omega
  have x2 : Hid (c ∉ [l]) := by have := z2.out; unfold Hid; simp; omega
  have x3 := hide hl
  clear N hD z1 z2 hl
  go_wp2_with fail
  refine (draw_columns D c n H _ _ hD1).mono ?_
  rintro e w2 ⟨rfl, hw⟩
  obtain rfl := hw.symm
  go_wp2_with fail
  refine (below_yes l s n w1 hL1 N1.out (by have := N64.out; omega)).mono ?_
  rintro e w3 ⟨v1, t1, rfl, hv1, hL3, K3⟩
  have hD3 := hD1.kept K3 x1.out x2.out
  have B3 := B1.trans (K3.below B1.size (by simp; exact x3.out))
  have lv1 := hide (hv1.lt (by have := N1.out; omega)).1
  have HV1 := hide hv1
  clear hL1 hD1 B1 K3 hv1
  go_wp2_with fail
  refine (draw_height D c n H _ _ hD3).mono ?_
  rintro e w4 ⟨rfl, hw⟩
  obtain rfl := hw.symm
  go_wp2_with fail
  refine (below_yes l t1 H w3 hL3 G1.out (by have := G2.out; omega)).mono ?_
  rintro e w5 ⟨v2, t2, rfl, hv2, hL5, K5⟩
  have hD5 := hD3.kept K5 x1.out x2.out
  have B5 := B3.trans (K5.below B3.size (by simp; exact x3.out))
  have lv2 := hide (hv2.lt (by have := G1.out; omega)).1
  have HV2 := hide hv2
  clear hL3 hD3 B3 K5 hv2 hL5
  go_wp2_with fail
  refine (draw_pick_yes D c n v1 v2 H _ w5 hD5 lv1.out (by omega) (by have := lv2.out; omega)).mono ?_
  rintro e w6 ⟨rfl, B6⟩
  go_wp2_with fail
  go_ret
  exact ⟨v1, t1, v2, t2, rfl, ⟨HV1.out, HV2.out⟩, B5.trans (B6.mono B5.size)⟩

theorem three_ints (w : World) (c l r : Int) (t : TypeId) : Ints (w.alloc (.cells #[.int .i64 c, .int .i64 l, .int .i64 r] t)) w.heap.size 0 3 (tri c l r) := fun i hi => by
  have : i = 0 ∨ i = 1 ∨ i = 2 := by omega
  rcases this with rfl | rfl | rfl <;> exact cell_new _ _ _ _ _ _ rfl rfl

/-! who bakes -/
/-! rows that are filled one by one -/
structure RowTo (w : World) (m n k : Nat) (K : Nat → Int) : Prop where
  c : ∀ i, i < n → w.cell? ⟨m, i, none⟩ = some (.int .i64 (if i < k then K i else 0))
  f : ∀ i, w.frozen? ⟨m, i, none⟩ = false
  lt : m < w.heap.size
theorem RowTo.new (w : World) (n : Nat) (t : TypeId) (K : Nat → Int) : RowTo (w.alloc (.cells (noughts n) t)) w.heap.size n 0 K :=
  ⟨fun i hi => by rw [if_neg (by omega)]; exact cell_new _ _ _ _ _ _ rfl (noughts_at n i hi), fun i => World.frozen?_alloc_at _ _ _ _ rfl, by simp⟩
theorem RowTo.below {w w' : World} {m n k : Nat} {K : Nat → Int} (h : RowTo w m n k K) (hB : Below w.heap.size w w') : RowTo w' m n k K :=
  ⟨fun i hi => draw_old hB (h.c i hi), fun i => by rw [hB.frozen (p := ⟨m, i, none⟩) h.lt]; exact h.f i, Nat.lt_of_lt_of_le h.lt hB.size⟩
theorem RowTo.next {w : World} {m n k : Nat} {K K' : Nat → Int} {x : Int} (h : RowTo w m n k K) (hk : k < n) (hK : ∀ i, i < k → K' i = K i) (hx : K' k = x) : RowTo (w.setCell ⟨m, k, none⟩ (.int .i64 x)) m n (k + 1) K' := by
  refine ⟨fun i hi => ?_, fun i => by rw [World.frozen?_setCell]; exact h.f i, by simp [World.setCell]; exact h.lt⟩
  by_cases e : i = k
  · subst e
    rw [World.cell?_setCell_same _ _ _ (h.c i hi), if_pos (by omega), hx]
  · rw [World.cell?_setCell_other _ _ _ _ (by simp <;> omega), h.c i hi]
    by_cases g : i < k
    · rw [if_pos g, if_pos (by omega), hK i g]
    · rw [if_neg g, if_neg (by omega)]
theorem RowTo.all {w : World} {m n : Nat} {K : Nat → Int} (h : RowTo w m n n K) : Ints w m 0 n K := fun i hi => by
  have := h.c i hi
  rw [if_pos hi] at this
  rw [Nat.zero_add]; exact this

/-! a picture of nothing -/
/-! the rounds of a level -/
set_option maxRecDepth 100000 in
theorem rr_bad0 (a : Option Addr) (n cap seed : Nat) (c l : Int) (h : ¬ TurnOk c l 0) (A : Nat → Addr) (w : World) (hL : DrawLaid w A) :
    Calls Tryd.prog 15 #[.slice a n cap, .int .u64 seed, .int .i64 c, .int .i64 l] w fun e w' => e = .returned (.tuple #[.slice none 0 0, sent (A 1)]) ∧ Below w.heap.size w w' := by
  have v1 := hL.v1
  have T := time_no c l (fun g => h ⟨g.1, g.2, by omega, by omega⟩)
  clear h
  go_enter Tryd.func15, Tryd.ntmps15
  go_wp2_with (go_at_call 31; refine (T _).mono ?_; rintro e w' ⟨rfl, rfl⟩)
  go_quiet (fail)
  go_wp2
  go_ret2
  exact ⟨rfl, below_drewN (Below.refl _ _) _⟩
set_option maxRecDepth 100000 in
theorem rr_err0 (v : Value) (seed : Nat) (_hs : seed < W64) (c l z p : Int) (h : TurnOk c l 0) (A : Nat → Addr) (w : World) (hL : DrawLaid w A) (hC : WCase w v z p) :
    Calls Tryd.prog 15 #[v, .int .u64 seed, .int .i64 c, .int .i64 l] w fun e w' => ∃ u y, e = .returned (.tuple #[.slice none 0 0, .iface u y]) ∧ ErrAt w.heap.size w' A (.iface u y) z p ∧ Below w.heap.size w w' := by
  have T := time_yes c l h.1.1 h.1.2 h.2.1.1 h.2.1.2
  have N := new_err v z p A w hL hC
  clear h _hs hC hL
  go_enter Tryd.func15, Tryd.ntmps15
  go_wp2_with (go_at_call 31; refine (T _).mono ?_; rintro e w' ⟨rfl, rfl⟩)
  refine N.mono ?_
  rintro e w1 ⟨u, y, rfl, hE, hB⟩
  have HE := hide hE
  clear hE N T
  go_wp2_with fail
  go_ret2
  exact ⟨_, _, rfl, HE.out, hB⟩
theorem make_eight (w : World) : (Instr.makeSlice 22 (.int .i64 8) (.int .i64 8)).run Tryd.prog w = .ok (.slice (some ⟨w.heap.size, 0, none⟩) 8 8) (w.alloc (.cells (noughts 8) 3)) := make_ints 8 (by omega) w
set_option maxRecDepth 100000 in
set_option maxHeartbeats 2000000 in
theorem rr_fine (b off n cap seed : Nat) (W : Nat → Int) (c l : Int) (h : TurnOk c l 0) (hs : seed < W64) (w : World) (hI : Ints w b off n W) (hb : b < w.heap.size) (hW : Weights n W) (h0 : sumTo W n ≠ 0) :
    Calls Tryd.prog 15 #[.slice (some ⟨b, off, none⟩) n cap, .int .u64 seed, .int .i64 c, .int .i64 l] w fun e w' => ∃ m cap' K, e = .returned (.tuple #[.slice (some ⟨m, 0, none⟩) 8 cap', .nilIface]) ∧ (w.heap.size ≤ m ∧ m < w'.heap.size) ∧ Ints w' m 0 8 K ∧ (∀ i : Nat, i < 8 → Turn n W seed c l i (K i)) ∧ Below w.heap.size w w' := by
  have T := time_yes c l h.1.1 h.1.2 h.2.1.1 h.2.1.2
  have N := new_fine b off n cap W w hI hb hW h0
  have mk := make_eight
  have sm := hW.sum
  obtain ⟨H, eH⟩ : ∃ H : Nat, sumTo W n = H := ⟨(sumTo W n).toNat, by omega⟩
  rw [eH] at N
  have H1 : Hid (1 ≤ H) := by unfold Hid; omega
  have H2 : Hid (H ≤ 68719476736) := by unfold Hid; omega
  have EH := hide eH
  have HS := hide hs
  have HW := hide hW
  clear h hI hb h0 sm eH hs hW
  go_enter Tryd.func15, Tryd.ntmps15
  go_wp2_with (go_at_call 31; refine (T _).mono ?_; rintro e w' ⟨rfl, hw⟩; obtain rfl := hw.symm)
  refine N.mono ?_
  rintro e w1 ⟨D, cb, rfl, _, hD, B1⟩
  have hT : Below w1.heap.size w1 (w1.alloc (.cells (noughts 8) 3)) := (Below.refl _ _).alloc (Nat.le_refl _) _
  have R1 := RowTo.new w1 8 3 (fun _ => 0)
  have D1 := hD.below hT
  have B2 := B1.trans (hT.mono B1.size)
  have gm : Hid (w.heap.size ≤ w1.heap.size) := B1.size
  have xD : Hid (D ∉ [w1.heap.size]) := by have : D < w1.heap.size := cell_lt hD.c0; unfold Hid; simp; omega
  have xc : Hid (cb ∉ [w1.heap.size]) := by have : cb < w1.heap.size := cell_lt (hD.l 0 (by have := HW.out.n1; omega)); unfold Hid; simp; omega
  clear N T hD hT B1
  go_wp2_with fail
  generalize w1.heap.size = m at *
  generalize w1.alloc (.cells (noughts 8) 3) = w2 at *
  go_loopw [30] (fun i wr => ∃ (k : Nat) (K : Nat → Int), k ≤ 8 ∧ i = .int .i64 k ∧ RowTo wr m 8 k K ∧ (∀ i : Nat, i < k → Turn n W seed c l i (K i)) ∧ DrawAt wr D cb n H (dend n W) ∧ Below w.heap.size w wr) (fun i _ => 8 - (intOf i).toNat)
  case atStart => exact ⟨0, _, Nat.zero_le _, rfl, R1, fun i hi => by omega, D1, B2⟩
  case round =>
    obtain ⟨k, K, hk, rfl, R, HK', Dk, B⟩ := hrel
    have HK := hide HK'
    clear HK' R1 D1 B2
    by_cases hlt : k < 8
    · have hT : Below wr.heap.size wr (wr.alloc (.cells #[.int .i64 c, .int .i64 l, .int .i64 k] 3)) := (Below.refl _ _).alloc (Nat.le_refl _) _
      have M := hide (prog_mix (some ⟨wr.heap.size, 0, none⟩) wr.heap.size 0 3 3 seed (tri c l k) HS.out (by omega) _ (fun _ => rfl) (fun _ => by simp) (three_ints wr c l k 3))
      go_wp2_with fail
      refine M.out.mono ?_
      rintro e w3 ⟨rfl, B3⟩
      have hm := hide (mixTo_lt (tri c l k) seed HS.out 3)
      have D3 := (Dk.below hT).below B3
      have R3 := (R.below hT).below B3
      have B4 := B.trans (hT.mono B.size)
      have B5 := B4.trans (B3.mono B4.size)
      clear M B B3 B4 hT Dk R
      generalize hms : mixTo (tri c l k) seed 3 = ms at *
      have HMS := hide hms
      clear hms
      go_wp2_with fail
      refine (rpick_of D cb n ms H W hm.out w3 D3 HW.out.n1 HW.out.n64 H1.out H2.out).mono ?_
      rintro e w4 ⟨v1, t1, v2, t2, rfl, hv, B6⟩
      have HT : Hid (Turn n W seed c l k ((dend n W).pick v1 v2)) := ⟨v1, t1, v2, t2, by rw [HMS.out]; exact hv.1, by rw [EH.out]; exact hv.2, rfl⟩
      have D4 := D3.below B6
      have R4 := R3.below B6
      have B7 := B5.trans (B6.mono B5.size)
      clear hv hm B5 B6 D3 R3 HMS
      generalize (dend n W).pick v1 v2 = q at *
      have c4 := R4.c k hlt
      have f4 := R4.f k
      have R5 := R4.next (x := q) (K' := fun i => if i = k then q else K i) hlt (fun i hi => if_neg (by omega)) (if_pos rfl)
      have D5 := D4.kept ((Kept.refl [m] w4).setCell (p := ⟨m, k, none⟩) (by simp) (.int .i64 q)) xD.out xc.out
      have B8 := B7.setCell (p := ⟨m, k, none⟩) gm.out (.int .i64 q)
      have HN : Hid (∀ i : Nat, i < k + 1 → Turn n W seed c l i (if i = k then q else K i)) := fun i hi => by
        by_cases e : i = k
        · subst e; rw [if_pos rfl]; exact HT.out
        · rw [if_neg e]; exact HK.out i (by omega)
      clear R4 D4 B7 HT HK
      go_wp2_with fail
      go_roundw
      case rel => exact ⟨k + 1, _, by omega, by go_num, R5, HN.out, D5, B8⟩
      case measure => simp [intOf]; omega
    · obtain rfl : k = 8 := by omega
      have lt := R.lt
      have I := R.all
      clear R Dk
      go_wp2_with fail
      go_ret2
      exact ⟨m, _, K, rfl, ⟨gm.out, lt⟩, I, HK.out, B⟩
end Go.Proofs.YtmbfdhekplnoaaaDoor

namespace Go.Proofs.YtmbfdhekplnoaaaDoor
open Go.RowKit

def IntsAre (w : World) (a : Option Addr) (n : Nat) (W : Nat → Int) : Prop := n = 0 ∨ ∃ b off, a = some ⟨b, off, none⟩ ∧ b < w.heap.size ∧ Ints w b off n W
theorem IntsAre.below {w w' : World} {a : Option Addr} {n : Nat} {W : Nat → Int} (h : IntsAre w a n W) (hB : Below w.heap.size w w') : IntsAre w' a n W := by
  rcases h with h | ⟨b, off, rfl, hb, hI⟩
  · exact .inl h
  · exact .inr ⟨b, off, rfl, Nat.lt_of_lt_of_le hb hB.size, hI.below hB hb⟩
theorem PCase.w {w : World} {a : Option Addr} {n cap : Nat} {W : Nat → Int} {z p : Int} (h : PCase n W z p) (hn : n ≤ 9223372036854775807) (hI : IntsAre w a n W) : WCase w (.slice a n cap) z p := by
  cases h with
  | shape h => exact .shape a n cap h hn rfl
  | bad k0 n1 n64 hk0 hG hbad =>
    rcases hI with h | ⟨b, off, rfl, hb, hI⟩
    · omega
    · exact .bad b off n cap k0 W hI hb n1 n64 hk0 hG hbad rfl
  | none hW h0 =>
    rcases hI with h | ⟨b, off, rfl, hb, hI⟩
    · have := hW.1; omega
    · exact .none b off n cap W hI hb hW h0 rfl
def LvEnd (B : Nat) (w : World) (A : Nat → Addr) (n : Nat) (W : Nat → Int) (seed : Nat) (c l : Int) (s e : Value) : Prop :=
  (∃ z p, LvFault n W c l z p ∧ s = .slice none 0 0 ∧ (∃ u y, e = .iface u y) ∧ ErrAt B w A e z p) ∨
  ∃ m cap' K, LvFine n W c l ∧ s = .slice (some ⟨m, 0, none⟩) 8 cap' ∧ e = .nilIface ∧ (B ≤ m ∧ m < w.heap.size) ∧ Ints w m 0 8 K ∧ ∀ i : Nat, i < 8 → Turn n W seed c l i (K i)
theorem LvEnd.below {B : Nat} {w w' : World} {A : Nat → Addr} {n : Nat} {W : Nat → Int} {seed : Nat} {c l : Int} {s e : Value} (h : LvEnd B w A n W seed c l s e) (hB : Below w.heap.size w w') : LvEnd B w' A n W seed c l s e := by
  rcases h with ⟨z, p, h1, h2, h3, h4⟩ | ⟨m, cap', K, h1, h2, h3, h4, h5, h6⟩
  · exact .inl ⟨z, p, h1, h2, h3, h4.below hB⟩
  · exact .inr ⟨m, cap', K, h1, h2, h3, ⟨h4.1, Nat.lt_of_lt_of_le h4.2 hB.size⟩, h5.below hB h4.2, h6⟩
theorem rounds_of (a : Option Addr) (n cap seed : Nat) (hs : seed < W64) (hn : n ≤ 9223372036854775807) (W : Nat → Int) (c l : Int) (A : Nat → Addr) (w : World) (hL : DrawLaid w A) (hI : IntsAre w a n W) :
    Calls Tryd.prog 15 #[.slice a n cap, .int .u64 seed, .int .i64 c, .int .i64 l] w fun e w' => ∃ s ev, e = .returned (.tuple #[s, ev]) ∧ LvEnd w.heap.size w' A n W seed c l s ev ∧ Below w.heap.size w w' := by
  rcases lv_cases n W c l with h | ⟨z, p, h⟩
  · obtain ⟨h1, h2, h3⟩ := id h
    rcases hI with q | ⟨b, off, rfl, hb, hI⟩
    · have := h2.1; omega
    · refine (rr_fine b off n cap seed W c l h1 hs w hI hb h2 h3).mono ?_
      rintro e w' ⟨m, cap', K, rfl, hm, hK, hT, hB⟩
      exact ⟨_, _, rfl, .inr ⟨m, cap', K, h, rfl, rfl, hm, hK, hT⟩, hB⟩
  · rcases id h with ⟨h1, rfl, rfl⟩ | ⟨h1, h2⟩
    · refine (rr_bad0 a n cap seed c l h1 A w hL).mono ?_
      rintro e w' ⟨rfl, hB⟩
      exact ⟨_, _, rfl, .inl ⟨2, -1, h, rfl, ⟨_, _, rfl⟩, .inl ⟨1, by omega, rfl, rfl, rfl⟩⟩, hB⟩
    · refine (rr_err0 _ seed hs c l z p h1 A w hL (h2.w hn hI)).mono ?_
      rintro e w' ⟨u, y, rfl, hE, hB⟩
      exact ⟨_, _, rfl, .inl ⟨z, p, h, rfl, ⟨_, _, rfl⟩, hE⟩, hB⟩
theorem LvEnd.cells {B : Nat} {w : World} {A : Nat → Addr} {n : Nat} {W : Nat → Int} {seed : Nat} {c l : Int} {s e : Value} (h : LvEnd B w A n W seed c l s e) : (∃ a k cap, s = .slice a k cap) ∧ (e = .nilIface ∨ ∃ u y, e = .iface u y) := by
  rcases h with ⟨z, p, _, rfl, ⟨u, y, rfl⟩, _⟩ | ⟨m, cap', K, _, rfl, rfl, _⟩
  · exact ⟨⟨_, _, _, rfl⟩, .inr ⟨_, _, rfl⟩⟩
  · exact ⟨⟨_, _, _, rfl⟩, .inl rfl⟩
theorem LvEnd.mono {B B' : Nat} {w : World} {A : Nat → Addr} {n : Nat} {W : Nat → Int} {seed : Nat} {c l : Int} {s e : Value} (h : LvEnd B w A n W seed c l s e) (hB : B' ≤ B) : LvEnd B' w A n W seed c l s e := by
  rcases h with ⟨z, p, h1, h2, h3, h4⟩ | ⟨m, cap', K, h1, h2, h3, h4, h5, h6⟩
  · refine .inl ⟨z, p, h1, h2, h3, ?_⟩
    rcases h4 with q | ⟨m, i, hm, r⟩
    · exact .inl q
    · exact .inr ⟨m, i, Nat.le_trans hB hm, r⟩
  · exact .inr ⟨m, cap', K, h1, h2, h3, ⟨Nat.le_trans hB h4.1, h4.2⟩, h5, h6⟩
theorem LvEnd.setCell {B : Nat} {w : World} {A : Nat → Addr} {n : Nat} {W : Nat → Int} {seed : Nat} {c l : Int} {s e : Value} (h : LvEnd B w A n W seed c l s e) {q : Addr} (hq : q.block < B) (u : Value) : LvEnd B (w.setCell q u) A n W seed c l s e := by
  rcases h with ⟨z, p, h1, h2, h3, h4⟩ | ⟨m, cap', K, h1, h2, h3, h4, h5, h6⟩
  · exact .inl ⟨z, p, h1, h2, h3, h4.setCell hq u⟩
  · refine .inr ⟨m, cap', K, h1, h2, h3, ⟨h4.1, by simpa using h4.2⟩, fun i hi => ?_, h6⟩
    rw [World.cell?_setCell_other _ _ _ _ (fun e => by rw [e] at hq; exact absurd hq (Nat.not_lt.2 h4.1))]
    exact h5 i hi
set_option maxRecDepth 100000 in
set_option maxHeartbeats 1000000 in
theorem level_of (k b0 b1 b2 b3 : Nat) (a la : Option Addr) (n cap ll lc seed : Nat) (hs : seed < W64) (hn : n ≤ 9223372036854775807) (W Lv : Nat → Int) (c : Int) (A : Nat → Addr) (w : World) (hL : DrawLaid w A) (hk : k < ll) (_hll : ll ≤ 9223372036854775807)
    (c0 : w.cell? ⟨b0, 0, none⟩ = some (.slice a n cap)) (c1 : w.cell? ⟨b1, 0, none⟩ = some (.int .u64 seed)) (c2 : w.cell? ⟨b2, 0, none⟩ = some (.int .i64 c)) (c3 : w.cell? ⟨b3, 0, none⟩ = some (.slice la ll lc))
    (hI : IntsAre w a n W) (hJ : IntsAre w la ll Lv) :
    Calls Tryd.prog 14 #[.int .i64 k, .pointer (some ⟨b0, 0, none⟩), .pointer (some ⟨b1, 0, none⟩), .pointer (some ⟨b2, 0, none⟩), .pointer (some ⟨b3, 0, none⟩)] w fun e w' => ∃ s ev, e = .returned (.agg #[s, ev]) ∧ LvEnd w.heap.size w' A n W seed c (Lv k) s ev ∧ Below w.heap.size w w' := by
  have hB0 : Below w.heap.size w (w.alloc (.cells #[.slice none 0 0, .nilIface] 44)) := (Below.refl _ _).alloc (Nat.le_refl _) _
  obtain ⟨lb, lo, rfl, hlb, hJ⟩ : ∃ b off, la = some ⟨b, off, none⟩ ∧ b < w.heap.size ∧ Ints w b off ll Lv := by
    rcases hJ with h | h
    · omega
    · exact h
  have cl := draw_old hB0 (hJ k hk)
  replace c0 := draw_old hB0 c0
  replace c1 := draw_old hB0 c1
  replace c2 := draw_old hB0 c2
  replace c3 := draw_old hB0 c3
  have r0 : (w.alloc (.cells #[.slice none 0 0, .nilIface] 44)).cell? ⟨w.heap.size, 0, none⟩ = some (.slice none 0 0) := cell_new _ _ _ _ _ _ rfl rfl
  have r1 : (w.alloc (.cells #[.slice none 0 0, .nilIface] 44)).cell? ⟨w.heap.size, 1, none⟩ = some .nilIface := cell_new _ _ _ _ _ _ rfl rfl
  have rf : ∀ i, (w.alloc (.cells #[.slice none 0 0, .nilIface] 44)).frozen? ⟨w.heap.size, i, none⟩ = false := fun i => World.frozen?_alloc_at _ _ _ _ rfl
  have lt := cell_lt r0
  have hD : Below w.heap.size w (w.alloc (.cells #[.slice none 0 0, .nilIface] 44)).drew := hB0.drew
  have P := rounds_of a n cap seed hs hn W c (Lv k) A (w.alloc (.cells #[.slice none 0 0, .nilIface] 44)).drew (hL.below hD) (hI.below hD)
  have kl : (k : Int) < (ll : Int) := by omega
  clear hI hJ hL hB0
  go_enter Tryd.func14, Tryd.ntmps14
  go_wp2_with fail
  generalize hnb : w.heap.size = nb at *
  generalize w.alloc (.cells #[.slice none 0 0, .nilIface] 44) = w1 at *
  go_region_held3 (fun w' => w'.cell? ⟨b0, 0, none⟩ = some (.slice a n cap) ∧ w'.cell? ⟨b1, 0, none⟩ = some (.int .u64 seed) ∧ w'.cell? ⟨b2, 0, none⟩ = some (.int .i64 c) ∧ w'.cell? ⟨b3, 0, none⟩ = some (.slice (some ⟨lb, lo, none⟩) ll lc) ∧ w'.cell? ⟨lb, lo + k, none⟩ = some (.int .i64 (Lv k))) (exact ⟨by assumption, by assumption, by assumption, by assumption, by assumption⟩)
    (first
      | (go_simp; go_at_call 15; refine P.mono ?_; rintro e w5 ⟨s, ev, rfl, hE, hB5⟩; have d0 : w5.cell? ⟨b0, 0, none⟩ = some (.slice a n cap) := draw_old hB5 c0; have d1 : w5.cell? ⟨b1, 0, none⟩ = some (.int .u64 seed) := draw_old hB5 c1; have d2 : w5.cell? ⟨b2, 0, none⟩ = some (.int .i64 c) := draw_old hB5 c2; have d3 : w5.cell? ⟨b3, 0, none⟩ = some (.slice (some ⟨lb, lo, none⟩) ll lc) := draw_old hB5 c3; have d4 : w5.cell? ⟨lb, lo + k, none⟩ = some (.int .i64 (Lv k)) := draw_old hB5 cl; replace hE := hide hE))
  obtain ⟨⟨sa, sk, sc, rfl⟩, hev⟩ := hE.out.cells
  have l1 : nb < w1.drew.heap.size := lt
  have q0 : w5.cell? ⟨nb, 0, none⟩ = some (.slice none 0 0) := draw_old hB5 r0
  have q1 : w5.cell? ⟨nb, 1, none⟩ = some .nilIface := draw_old hB5 r1
  have f5 : ∀ i, w5.frozen? ⟨nb, i, none⟩ = false := fun i => by rw [hB5.frozen (p := ⟨nb, i, none⟩) l1]; exact rf i
  have f50 := f5 0
  have f51 := f5 1
  have B5 : Below nb w w5 := by
    have := hD.trans (hB5.mono (show nb ≤ w1.drew.heap.size from Nat.le_of_lt l1))
    exact this
  have E7 : ∀ u v, Hid (LvEnd nb ((w5.setCell ⟨nb, 0, none⟩ u).setCell ⟨nb, 1, none⟩ v) A n W seed c (Lv k) (.slice sa sk sc) ev) := fun u v => hide (((hE.out.setCell (q := ⟨nb, 0, none⟩) l1 u).setCell (q := ⟨nb, 1, none⟩) l1 v).mono (Nat.le_of_lt l1))
  have B7 : ∀ u v, Hid (Below nb w ((w5.setCell ⟨nb, 0, none⟩ u).setCell ⟨nb, 1, none⟩ v)) := fun u v => hide ((B5.setCell (p := ⟨nb, 0, none⟩) (Nat.le_refl _) u).setCell (p := ⟨nb, 1, none⟩) (Nat.le_refl _) v)
  clear hE d0 d1 d2 d3 d4 hB5 rf f5 B5 P
  have z : ∀ u v, ((w5.setCell ⟨nb, 0, none⟩ u).setCell ⟨nb, 1, none⟩ v).cell? ⟨nb, 0, none⟩ = some u ∧ ((w5.setCell ⟨nb, 0, none⟩ u).setCell ⟨nb, 1, none⟩ v).cell? ⟨nb, 1, none⟩ = some v := fun u v => by
    have ne : (⟨nb, 1, none⟩ : Addr) ≠ ⟨nb, 0, none⟩ := by simp
    refine ⟨?_, ?_⟩
    · rw [World.cell?_setCell_other _ _ _ _ ne]
      exact World.cell?_setCell_same _ _ _ q0
    · refine World.cell?_setCell_same _ _ _ (u := .nilIface) ?_
      rw [World.cell?_setCell_other _ _ _ _ ne.symm]
      exact q1
  rcases hev with rfl | ⟨u, y, rfl⟩
  · have z0 := (z (.slice sa sk sc) .nilIface).1
    have z1 := (z (.slice sa sk sc) .nilIface).2
    clear z
    go_wp2_with fail
    exact bodyPost_ret (v := .agg #[.slice sa sk sc, .nilIface]) (by simp [results, Tryd.results14, go_sem, z0, z1]) rfl ⟨_, _, rfl, by rw [hnb]; exact (E7 _ _).out, by rw [hnb]; exact (B7 _ _).out⟩
  · have z0 := (z (.slice sa sk sc) (.iface u y)).1
    have z1 := (z (.slice sa sk sc) (.iface u y)).2
    clear z
    go_wp2_with fail
    exact bodyPost_ret (v := .agg #[.slice sa sk sc, .iface u y]) (by simp [results, Tryd.results14, go_sem, z0, z1]) rfl ⟨_, _, rfl, by rw [hnb]; exact (E7 _ _).out, by rw [hnb]; exact (B7 _ _).out⟩
end Go.Proofs.YtmbfdhekplnoaaaDoor
