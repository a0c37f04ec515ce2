/-
  The program's rights by their contracts: who bakes a round, who the rounds of a level; a picture of nothing.
-/
import Derived.Test.YtaihcceobnfmhaaDoorFillAtX
import Derived.Test.YtaihcceobnfmhaaDoorProgPurseX
import Derived.Test.YtaihcceobnfmhaaDoorLotsMixX
import Derived.Test.YtaihcceobnfmhaaDoorLotsBelow
namespace Go.Proofs.YtaihcceobnfmhaaDoor
open Go.RowKit Go.Deep

/-! times -/
theorem rcy_yes (c : Int) (h0 : 0 ≤ c) (h1 : c ≤ 1048576) (w : World) :
    Calls Tryd.prog 46 #[.int .i64 c] w fun e w' => e = .returned (.bool true) ∧ w' = w := by
  go_enter Tryd.func46, Tryd.ntmps46
  go_wp2
  go_ret
  exact ⟨rfl, rfl⟩
theorem rcy_no (c : Int) (h : ¬ (0 ≤ c ∧ c ≤ 1048576)) (w : World) :
    Calls Tryd.prog 46 #[.int .i64 c] w fun e w' => e = .returned (.bool false) ∧ w' = w := by
  by_cases h0 : 0 ≤ c
  · have h3 : ¬ c ≤ 1048576 := by omega
    clear h
    go_enter Tryd.func46, Tryd.ntmps46
    go_wp2
    go_ret
    exact ⟨rfl, rfl⟩
  · clear h
    go_enter Tryd.func46, Tryd.ntmps46
    go_wp2
    go_ret
    exact ⟨rfl, rfl⟩
theorem time_yes (c l : Int) (c0 : 0 ≤ c) (c1 : c ≤ 1048576) (l0 : 0 ≤ l) (l1 : l ≤ 4194304) (w : World) :
    Calls Tryd.prog 30 #[.int .i64 c, .int .i64 l] w fun e w' => e = .returned (.bool true) ∧ w' = w := by
  have I := rcy_yes c c0 c1
  go_enter Tryd.func30, Tryd.ntmps30
  go_wp2_with (go_at_call 46; refine (I _).mono ?_; rintro e w' ⟨rfl, rfl⟩)
  go_ret
  exact ⟨rfl, rfl⟩
theorem time_no (c l : Int) (h : ¬ ((0 ≤ c ∧ c ≤ 1048576) ∧ 0 ≤ l ∧ l ≤ 4194304)) (w : World) :
    Calls Tryd.prog 30 #[.int .i64 c, .int .i64 l] w fun e w' => e = .returned (.bool false) ∧ w' = w := by
  by_cases hc : 0 ≤ c ∧ c ≤ 1048576
  · have I := rcy_yes c hc.1 hc.2
    by_cases l0 : 0 ≤ l
    · have l1 : ¬ l ≤ 4194304 := by omega
      clear h hc
      go_enter Tryd.func30, Tryd.ntmps30
      go_wp2_with (go_at_call 46; refine (I _).mono ?_; rintro e w' ⟨rfl, rfl⟩)
      go_ret
      exact ⟨by simp; omega, rfl⟩
    · clear h hc
      go_enter Tryd.func30, Tryd.ntmps30
      go_wp2_with (go_at_call 46; refine (I _).mono ?_; rintro e w' ⟨rfl, rfl⟩)
      go_ret
      exact ⟨rfl, rfl⟩
  · have I := rcy_no c hc
    clear h hc
    go_enter Tryd.func30, Tryd.ntmps30
    go_wp2_with (go_at_call 46; refine (I _).mono ?_; rintro e w' ⟨rfl, rfl⟩)
    go_ret
    exact ⟨rfl, rfl⟩
theorem round_yes (r : Int) (r0 : 0 ≤ r) (r1 : r < 8) (w : World) :
    Calls Tryd.prog 31 #[.int .i64 r] w fun e w' => e = .returned (.bool true) ∧ w' = w := by
  go_enter Tryd.func31, Tryd.ntmps31
  go_wp2
  go_ret
  exact ⟨rfl, rfl⟩
theorem round_no (r : Int) (h : ¬ (0 ≤ r ∧ r < 8)) (w : World) :
    Calls Tryd.prog 31 #[.int .i64 r] w fun e w' => e = .returned (.bool false) ∧ w' = w := by
  by_cases r0 : 0 ≤ r
  · have r1 : ¬ r < 8 := by omega
    clear h
    go_enter Tryd.func31, Tryd.ntmps31
    go_wp2
    go_ret
    exact ⟨rfl, rfl⟩
  · clear h
    go_enter Tryd.func31, Tryd.ntmps31
    go_wp2
    go_ret
    exact ⟨rfl, rfl⟩

/-! weights that there is no draw of -/
theorem new_err (v : Value) (z p : Int) (A : Nat → Addr) (w : World) (hL : DrawLaid w A) (hC : WCase w v z p) :
    Calls Tryd.prog 32 #[v] w fun e w' => ∃ u y, e = .returned (.tuple #[.pointer none, .iface u y]) ∧ ErrAt w.heap.size w' A (.iface u y) z p ∧ Below w.heap.size w w' := by
  cases hC with
  | shape a n cap h hm e =>
    subst e
    refine new_hands _ _ (fun x w' => ErrAt w.heap.size w' A x 3 (-1) ∧ Below w.heap.size w w') ((together_shape a n cap A w hL h hm).mono ?_)
    rintro e w' ⟨rfl, hB⟩
    exact ⟨_, _, rfl, .inl ⟨2, by omega, rfl, rfl, rfl⟩, hB⟩
  | bad b off n cap k0 W hI hb n1 n64 hk0 hG hbad e =>
    subst e
    refine new_hands _ _ (fun x w' => ErrAt w.heap.size w' A x 2 k0 ∧ Below w.heap.size w w') ((together_bad_at b off n cap k0 W A w hL hI n1 n64 hk0 hG hbad).mono ?_)
    rintro e w' ⟨m, rfl, d0, d1, hB, hm⟩
    exact ⟨_, _, rfl, .inr ⟨m, 1, hm, by omega, rfl, rfl, d0, d1⟩, hB⟩
  | none b off n cap W hI hb hW h0 e =>
    subst e
    refine new_hands _ _ (fun x w' => ErrAt w.heap.size w' A x 4 (-1) ∧ Below w.heap.size w w') ((together_none b off n cap W A w hL hI hW h0).mono ?_)
    rintro e w' ⟨rfl, hB⟩
    exact ⟨_, _, rfl, .inl ⟨3, by omega, rfl, rfl, rfl⟩, hB⟩

/-! a number of a draw, by lots -/
theorem DrawAt.kept {w w' : World} {b c n : Nat} {H : Int} {d : DS} {X : List Nat} (h : DrawAt w b c n H d) (hK : Kept X w w') (hb : b ∉ X) (hc : c ∉ X) : DrawAt w' b c n H d :=
  ⟨hK.old h.c0 hb, hK.old h.c1 hb, fun k hk => hK.old (h.l k hk) hc, fun k hk => hK.old (h.o k hk) hc⟩
set_option maxRecDepth 100000 in
set_option maxHeartbeats 1000000 in
theorem rpick_of (D c n s H : Nat) (W : Nat → Int) (hs : s < W64) (w : World) (hD : DrawAt w D c n H (dend n W)) (n1 : 1 ≤ n) (n64 : n ≤ 64) (H1 : 1 ≤ H) (H2 : H ≤ 68719476736) :
    Calls Tryd.prog 33 #[.pointer (some ⟨D, 0, none⟩), .int .u64 s] w fun e w' => ∃ v1 t1 v2 t2 : Nat, e = .returned (.int .i64 ((dend n W).pick v1 v2)) ∧ (Bel n s v1 t1 ∧ Bel H t1 v2 t2) ∧ Below w.heap.size w w' := by
  have N := hide (prog_newLot s hs w)
  have N1 := hide n1
  have N64 := hide n64
  have G1 := hide H1
  have G2 := hide H2
  have z1 : Hid (D < w.heap.size) := cell_lt hD.c0
  have z2 : Hid (c < w.heap.size) := cell_lt (hD.l 0 (by omega))
  clear hs n1 n64 H1 H2
  go_enter Tryd.func33, Tryd.ntmps33
  go_wp2_with fail
  refine N.out.mono ?_
  rintro e w1 ⟨l, rfl, hl, hL1, B1⟩
  have hD1 := hD.below B1
  have x1 : Hid (D ∉ [l]) := by have := z1.out; unfold Hid; simp; omega
  have x2 : Hid (c ∉ [l]) := by have := z2.out; unfold Hid; simp; omega
  have x3 := hide hl
  clear N hD z1 z2 hl
  go_wp2_with fail
  refine (draw_columns D c n H _ _ hD1).mono ?_
  rintro e w2 ⟨rfl, hw⟩
  obtain rfl := hw.symm
  go_wp2_with fail
  refine (below_yes l s n w1 hL1 N1.out (by have := N64.out; omega)).mono ?_
  rintro e w3 ⟨v1, t1, rfl, hv1, hL3, K3⟩
  have hD3 := hD1.kept K3 x1.out x2.out
  have B3 := B1.trans (K3.below B1.size (by simp; exact x3.out))
  have lv1 := hide (hv1.lt (by have := N1.out; omega)).1
  have HV1 := hide hv1
  clear hL1 hD1 B1 K3 hv1
  go_wp2_with fail
  refine (draw_height D c n H _ _ hD3).mono ?_
  rintro e w4 ⟨rfl, hw⟩
  obtain rfl := hw.symm
  go_wp2_with fail
  refine (below_yes l t1 H w3 hL3 G1.out (by have := G2.out; omega)).mono ?_
  rintro e w5 ⟨v2, t2, rfl, hv2, hL5, K5⟩
  have hD5 := hD3.kept K5 x1.out x2.out
  have B5 := B3.trans (K5.below B3.size (by simp; exact x3.out))
  have lv2 := hide (hv2.lt (by have := G1.out; omega)).1
  have HV2 := hide hv2
  clear hL3 hD3 B3 K5 hv2 hL5
  go_wp2_with fail
  refine (draw_pick_yes D c n v1 v2 H _ w5 hD5 lv1.out (by omega) (by have := lv2.out; omega)).mono ?_
  rintro e w6 ⟨rfl, B6⟩
  go_wp2_with fail
  go_ret
  exact ⟨v1, t1, v2, t2, rfl, ⟨HV1.out, HV2.out⟩, B5.trans (B6.mono B5.size)⟩

theorem three_ints (w : World) (c l r : Int) (t : TypeId) : Ints (w.alloc (.cells #[.int .i64 c, .int .i64 l, .int .i64 r] t)) w.heap.size 0 3 (tri c l r) := fun i hi => by
  have : i = 0 ∨ i = 1 ∨ i = 2 := by omega
  rcases this with rfl | rfl | rfl <;> exact cell_new _ _ _ _ _ _ rfl rfl

/-! who bakes -/
set_option maxRecDepth 100000 in
theorem rb_bad (a : Option Addr) (n cap seed : Nat) (c l r : Int) (h : ¬ TurnOk c l r) (A : Nat → Addr) (w : World) (hL : DrawLaid w A) :
    Calls Tryd.prog 17 #[.slice a n cap, .int .u64 seed, .int .i64 c, .int .i64 l, .int .i64 r] w fun e w' => e = .returned (.tuple #[.int .i64 0, sent (A 1)]) ∧ Below w.heap.size w w' := by
  have v1 := hL.v1
  by_cases ht : (0 ≤ c ∧ c ≤ 1048576) ∧ 0 ≤ l ∧ l ≤ 4194304
  · have T := time_yes c l ht.1.1 ht.1.2 ht.2.1 ht.2.2
    have R := round_no r (fun g => h ⟨ht.1, ht.2, g⟩)
    clear h ht
    go_enter Tryd.func17, Tryd.ntmps17
    go_wp2_with (first | (go_at_call 30; refine (T _).mono ?_; rintro e w' ⟨rfl, rfl⟩) | (go_at_call 31; refine (R _).mono ?_; rintro e w' ⟨rfl, rfl⟩))
    go_quiet (fail)
    go_wp2
    go_ret2
    exact ⟨rfl, below_drewN (Below.refl _ _) _⟩
  · have T := time_no c l ht
    clear h ht
    go_enter Tryd.func17, Tryd.ntmps17
    go_wp2_with (go_at_call 30; refine (T _).mono ?_; rintro e w' ⟨rfl, rfl⟩)
    go_quiet (fail)
    go_wp2
    go_ret2
    exact ⟨rfl, below_drewN (Below.refl _ _) _⟩
set_option maxRecDepth 100000 in
theorem rb_err (v : Value) (seed : Nat) (_hs : seed < W64) (c l r z p : Int) (h : TurnOk c l r) (A : Nat → Addr) (w : World) (hL : DrawLaid w A) (hC : WCase w v z p) :
    Calls Tryd.prog 17 #[v, .int .u64 seed, .int .i64 c, .int .i64 l, .int .i64 r] w fun e w' => ∃ u y, e = .returned (.tuple #[.int .i64 0, .iface u y]) ∧ ErrAt w.heap.size w' A (.iface u y) z p ∧ Below w.heap.size w w' := by
  have T := time_yes c l h.1.1 h.1.2 h.2.1.1 h.2.1.2
  have R := round_yes r h.2.2.1 h.2.2.2
  have N := new_err v z p A w hL hC
  clear h _hs hC hL
  go_enter Tryd.func17, Tryd.ntmps17
  go_wp2_with (first | (go_at_call 30; refine (T _).mono ?_; rintro e w' ⟨rfl, rfl⟩) | (go_at_call 31; refine (R _).mono ?_; rintro e w' ⟨rfl, rfl⟩))
  refine N.mono ?_
  rintro e w1 ⟨u, y, rfl, hE, hB⟩
  have HE := hide hE
  clear hE N T R
  go_wp2_with fail
  go_ret2
  exact ⟨_, _, rfl, HE.out, hB⟩
set_option maxRecDepth 100000 in
set_option maxHeartbeats 1000000 in
theorem rb_fine (b off n cap seed : Nat) (W : Nat → Int) (c l r : Int) (h : TurnOk c l r) (hs : seed < W64) (w : World) (hI : Ints w b off n W) (hb : b < w.heap.size) (hW : Weights n W) (h0 : sumTo W n ≠ 0) :
    Calls Tryd.prog 17 #[.slice (some ⟨b, off, none⟩) n cap, .int .u64 seed, .int .i64 c, .int .i64 l, .int .i64 r] w fun e w' => ∃ k, e = .returned (.tuple #[.int .i64 k, .nilIface]) ∧ Turn n W seed c l r k ∧ Below w.heap.size w w' := by
  have T := time_yes c l h.1.1 h.1.2 h.2.1.1 h.2.1.2
  have R := round_yes r h.2.2.1 h.2.2.2
  have N := new_fine b off n cap W w hI hb hW h0
  have sm := hW.sum
  obtain ⟨H, eH⟩ : ∃ H : Nat, sumTo W n = H := ⟨(sumTo W n).toNat, by omega⟩
  rw [eH] at N
  have H1 : Hid (1 ≤ H) := by unfold Hid; omega
  have H2 : Hid (H ≤ 68719476736) := by unfold Hid; omega
  have EH := hide eH
  have HS := hide hs
  have HW := hide hW
  clear h hI hb h0 sm eH hs hW
  go_enter Tryd.func17, Tryd.ntmps17
  go_wp2_with (first | (go_at_call 30; refine (T _).mono ?_; rintro e w' ⟨rfl, hw⟩; obtain rfl := hw.symm) | (go_at_call 31; refine (R _).mono ?_; rintro e w' ⟨rfl, hw⟩; obtain rfl := hw.symm))
  refine N.mono ?_
  rintro e w1 ⟨D, cb, rfl, hd, hD, B1⟩
  have hT : Below w1.heap.size w1 (w1.alloc (.cells #[.int .i64 c, .int .i64 l, .int .i64 r] 3)) := (Below.refl _ _).alloc (Nat.le_refl _) _
  have M := hide (prog_mix (some ⟨w1.heap.size, 0, none⟩) w1.heap.size 0 3 3 seed (tri c l r) HS.out (by omega) _ (fun _ => rfl) (fun _ => by simp) (three_ints w1 c l r 3))
  clear N T R hd
  go_wp2_with fail
  refine M.out.mono ?_
  rintro e w2 ⟨rfl, B2⟩
  have hm := hide (mixTo_lt (tri c l r) seed HS.out 3)
  have hD2 := (hD.below hT).below B2
  have B3 := (B1.trans (hT.mono B1.size))
  have B4 := B3.trans (B2.mono B3.size)
  clear M B1 B2 B3 hT hD
  generalize hms : mixTo (tri c l r) seed 3 = ms at *
  have HMS := hide hms
  clear hms
  go_wp2_with fail
  refine (rpick_of D cb n ms H W hm.out w2 hD2 HW.out.n1 HW.out.n64 H1.out H2.out).mono ?_
  rintro e w3 ⟨v1, t1, v2, t2, rfl, hv, B5⟩
  have HT : Hid (Turn n W seed c l r ((dend n W).pick v1 v2)) := ⟨v1, t1, v2, t2, by rw [HMS.out]; exact hv.1, by rw [EH.out]; exact hv.2, rfl⟩
  clear hv hD2 hm
  generalize (dend n W).pick v1 v2 = q at *
  go_wp2_with fail
  go_ret2
  exact ⟨q, rfl, HT.out, B4.trans (B5.mono B4.size)⟩

/-! rows that are filled one by one -/
/-- the first so many of a row of the call's own are laid, the rest is nought -/
structure RowTo (w : World) (m n k : Nat) (K : Nat → Int) : Prop where
  c : ∀ i, i < n → w.cell? ⟨m, i, none⟩ = some (.int .i64 (if i < k then K i else 0))
  f : ∀ i, w.frozen? ⟨m, i, none⟩ = false
  lt : m < w.heap.size
theorem RowTo.new (w : World) (n : Nat) (t : TypeId) (K : Nat → Int) : RowTo (w.alloc (.cells (noughts n) t)) w.heap.size n 0 K :=
  ⟨fun i hi => by rw [if_neg (by omega)]; exact cell_new _ _ _ _ _ _ rfl (noughts_at n i hi), fun i => World.frozen?_alloc_at _ _ _ _ rfl, by simp⟩
theorem RowTo.below {w w' : World} {m n k : Nat} {K : Nat → Int} (h : RowTo w m n k K) (hB : Below w.heap.size w w') : RowTo w' m n k K :=
  ⟨fun i hi => draw_old hB (h.c i hi), fun i => by rw [hB.frozen (p := ⟨m, i, none⟩) h.lt]; exact h.f i, Nat.lt_of_lt_of_le h.lt hB.size⟩
theorem RowTo.next {w : World} {m n k : Nat} {K K' : Nat → Int} {x : Int} (h : RowTo w m n k K) (hk : k < n) (hK : ∀ i, i < k → K' i = K i) (hx : K' k = x) : RowTo (w.setCell ⟨m, k, none⟩ (.int .i64 x)) m n (k + 1) K' := by
  refine ⟨fun i hi => ?_, fun i => by rw [World.frozen?_setCell]; exact h.f i, by simp [World.setCell]; exact h.lt⟩
  by_cases e : i = k
  · subst e
    rw [World.cell?_setCell_same _ _ _ (h.c i hi), if_pos (by omega), hx]
  · rw [World.cell?_setCell_other _ _ _ _ (by simp <;> omega), h.c i hi]
    by_cases g : i < k
    · rw [if_pos g, if_pos (by omega), hK i g]
    · rw [if_neg g, if_neg (by omega)]
theorem RowTo.all {w : World} {m n : Nat} {K : Nat → Int} (h : RowTo w m n n K) : Ints w m 0 n K := fun i hi => by
  have := h.c i hi
  rw [if_pos hi] at this
  rw [Nat.zero_add]; exact this

/-! a picture of nothing -/
theorem make_tri (w : World) : (Instr.makeSlice 43 (.int .i64 3) (.int .i64 3)).run Tryd.prog w = .ok (.slice (some ⟨w.heap.size, 0, none⟩) 3 3) (w.alloc (.cells (noughts 3) 3)) := make_ints 3 (by omega) w
theorem rp_nil (w : World) :
    Calls Tryd.prog 15 #[.pointer none] w fun e w' => ∃ m cap', e = .returned (.slice (some ⟨m, 0, none⟩) 3 cap') ∧ m < w'.heap.size ∧ Ints w' m 0 3 (fun _ => 0) ∧ Below w.heap.size w w' := by
  have mk := make_tri
  have R := RowTo.new w 3 3 (fun _ => 0)
  go_enter Tryd.func15, Tryd.ntmps15
  go_wp2
  go_ret
  exact ⟨_, _, rfl, R.lt, fun i hi => by have := R.c i hi; rw [if_neg (by omega)] at this; rw [Nat.zero_add]; exact this, (Below.refl _ _).alloc (Nat.le_refl _) _⟩

/-! the rounds of a level -/
theorem make_eight (w : World) : (Instr.makeSlice 43 (.int .i64 8) (.int .i64 8)).run Tryd.prog w = .ok (.slice (some ⟨w.heap.size, 0, none⟩) 8 8) (w.alloc (.cells (noughts 8) 3)) := make_ints 8 (by omega) w
end Go.Proofs.YtaihcceobnfmhaaDoor
