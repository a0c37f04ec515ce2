/-
  The program's purse by its contracts: what is done to it.
-/
import Derived.Test.YtamjnkjgdaojiaaDoorProgPurse
namespace Go.Proofs.YtamjnkjgdaojiaaDoor
open Go.RowKit

theorem pa_setN {w w0 : World} {b : Nat} {f : Int → Int} {N : Int} (h : PRaw w b f N ∧ Kept [b] w0 w) (v : Int) : PRaw (w.setCell ⟨b, 6, none⟩ (.int .i64 v)) b f v ∧ Kept [b] w0 (w.setCell ⟨b, 6, none⟩ (.int .i64 v)) := ⟨h.1.setN v, h.2.setCell (by simp) _⟩
theorem pa_setO {w w0 : World} {b : Nat} {f : Int → Int} {N : Int} (h : PRaw w b f N ∧ Kept [b] w0 w) (k : Nat) (hk : k < 6) (v : Int) : PRaw (w.setCell ⟨b, k, none⟩ (.int .i64 v)) b (put f k v) N ∧ Kept [b] w0 (w.setCell ⟨b, k, none⟩ (.int .i64 v)) := ⟨h.1.setO k hk v, h.2.setCell (by simp) _⟩
theorem pa_drew {w w0 : World} {b : Nat} {f : Int → Int} {N : Int} (h : PRaw w b f N ∧ Kept [b] w0 w) : PRaw w.drew b f N ∧ Kept [b] w0 w.drew := ⟨h.1.drew, h.2.drew⟩
theorem PurAt.of {w w0 : World} {b : Nat} {N : Int} (y : Pu) (h : PRaw w b y.s N ∧ Kept [b] w0 w) (hN : N = y.S - y.sum) (ok : y.Ok) : PurAt w b y ∧ Kept [b] w0 w := ⟨⟨by rw [← hN]; exact h.1, ok⟩, h.2⟩
theorem PurAt.stay {w : World} {b : Nat} {x y : Pu} (h : PurAt w b x) (e : y = x) : PurAt w b y ∧ Kept [b] w w := by rw [e]; exact ⟨h, Kept.refl _ _⟩
theorem pa_own {o : Int} (h : Own o) : ∃ k : Nat, o = k ∧ k < 6 := ⟨o.toNat, by have := h.1; omega, by have := h.2; have := h.1; omega⟩
theorem pu_fresh (w : World) (t : TypeId) : PurAt (w.alloc (.cells #[.int .i64 0, .int .i64 0, .int .i64 0, .int .i64 0, .int .i64 0, .int .i64 0, .int .i64 0] t)) w.heap.size none' where
  raw := ⟨fun i hi => by
    have : i = 0 ∨ i = 1 ∨ i = 2 ∨ i = 3 ∨ i = 4 ∨ i = 5 := by omega
    rcases this with rfl | rfl | rfl | rfl | rfl | rfl <;> exact cell_new _ _ _ _ _ _ rfl rfl, cell_new _ _ _ _ _ _ rfl rfl, fun i => World.frozen?_alloc_at _ _ _ _ rfl⟩
  ok := none_ok
set_option maxRecDepth 100000 in
theorem pu_new (w : World) :
    Calls Tryd.prog 8 #[] w fun e w' => ∃ b, e = .returned (.pointer (some ⟨b, 0, none⟩)) ∧ w.heap.size ≤ b ∧ PurAt w' b none' ∧ Below w.heap.size w w' := by
  go_enter Tryd.func8, Tryd.ntmps8
  go_wp2
  go_ret
  exact ⟨w.heap.size, rfl, Nat.le_refl _, pu_fresh w _, (Below.refl _ _).alloc (Nat.le_refl _) _⟩

set_option maxRecDepth 100000 in
set_option maxHeartbeats 1000000 in
theorem pu_grow (b : Nat) (x : Pu) (hx : x.Ok) (n : Int) (A : Nat → Addr) (w : World) (hL : PurLaid w A) (h : PurAt w b x) :
    Calls Tryd.prog 10 #[.pointer (some ⟨b, 0, none⟩), .int .i64 n] w fun e w' => ∃ ev, e = .returned ev ∧ ErrIs A ev (x.growC n) ∧ PurAt w' b (x.grow n) ∧ Kept [b] w w' := by
  have v1 := hL.v1
  by_cases hn : Amt n ∧ x.S + n ≤ 1125899906842624
  · have e1 : x.growC n = 0 := if_pos hn
    have e2 : x.grow n = ⟨x.s, x.S + n⟩ := if_pos e1
    have G := pu_may b x hx n hn w h
    have ok := hx.grow n
    rw [e2] at ok
    have s0 := hx.sum0
    have a1 := hx.le
    have n0 := hn.1.1
    have n1 := hn.1.2
    have n2 := hn.2
    have R := h.raw
    have hN : x.S - x.sum + n = (⟨x.s, x.S + n⟩ : Pu).S - (⟨x.s, x.S + n⟩ : Pu).sum := by show _ = x.S + n - x.sum; omega
    obtain ⟨N, eN⟩ : ∃ N, x.S - x.sum = N := ⟨_, rfl⟩
    rw [eN] at R hN
    have b0 : 0 ≤ N := by omega
    have b1 : N ≤ 1125899906842624 := by omega
    have c6 := R.c6
    have f6 := R.f 6
    rw [e1, e2]
    have Z := hide (And.intro R (And.intro hN ok))
    clear hn e1 e2 eN s0 a1 n2 R hN ok
    go_enter Tryd.func10, Tryd.ntmps10
    go_wp2_with fail
    refine G.mono ?_
    rintro e w' ⟨rfl, rfl⟩
    go_wp2_with fail
    go_ret
    exact ⟨_, rfl, err_none A rfl, PurAt.of _ (pa_setN ⟨Z.out.1, Kept.refl _ _⟩ _) Z.out.2.1 Z.out.2.2⟩
  · have e1 : x.growC n = 2 := if_neg hn
    have e2 : x.grow n = x := if_neg (by rw [e1]; decide)
    have G := pu_mayNot b x hx n hn w h
    rw [e1, e2]
    clear hn e1 e2
    go_enter Tryd.func10, Tryd.ntmps10
    go_wp2_with fail
    refine G.mono ?_
    rintro e w' ⟨rfl, rfl⟩
    go_wp2_with fail
    go_ret
    exact ⟨_, rfl, err_bound A rfl, h, Kept.refl _ _⟩

set_option maxRecDepth 100000 in
set_option maxHeartbeats 1000000 in
theorem pu_mint (b : Nat) (x : Pu) (hx : x.Ok) (o n : Int) (A : Nat → Addr) (w : World) (hL : PurLaid w A) (h : PurAt w b x) :
    Calls Tryd.prog 9 #[.pointer (some ⟨b, 0, none⟩), .int .i64 o, .int .i64 n] w fun e w' => ∃ ev, e = .returned ev ∧ ErrIs A ev (x.mintC o n) ∧ PurAt w' b (x.mint o n) ∧ Kept [b] w w' := by
  have v1 := hL.v1
  by_cases ho : Own o
  · have Iw := owner_yes o ho.1 ho.2 w
    by_cases hn : Amt n ∧ x.S + n ≤ 1125899906842624
    · have e1 : x.mintC o n = 0 := if_pos ⟨ho, hn⟩
      have e2 : x.mint o n = ⟨put x.s o (x.s o + n), x.S + n⟩ := if_pos e1
      have G := pu_may b x hx n hn w h
      have ok := hx.mint o n
      rw [e2] at ok
      have hN : x.S - x.sum = (⟨put x.s o (x.s o + n), x.S + n⟩ : Pu).S - (⟨put x.s o (x.s o + n), x.S + n⟩ : Pu).sum := by rw [sum_put x _ _ _ ho]; show _ = x.S + n - _; omega
      have s0 := hx.one o
      have a0 := hx.pos o
      have a1 := hx.le
      have n0 := hn.1.1
      have n1 := hn.1.2
      have n2 := hn.2
      have R := h.raw
      rw [e1, e2]
      obtain ⟨k, rfl, hk⟩ := pa_own ho
      have cs := R.s k hk
      have fs := R.f k
      obtain ⟨v, ev⟩ : ∃ v, x.s k = v := ⟨_, rfl⟩
      rw [ev] at cs hN ok s0 a0 ⊢
      have b1 : v ≤ 1125899906842624 := by have := hx.top; omega
      have Z := hide (And.intro R (And.intro hN ok))
      clear hn e1 e2 ev s0 a1 n2 R hN ok ho
      go_enter Tryd.func9, Tryd.ntmps9
      go_wp2_with fail
      refine Iw.mono ?_
      rintro e w' ⟨rfl, rfl⟩
      go_wp2_with fail
      refine G.mono ?_
      rintro e w' ⟨rfl, rfl⟩
      go_wp2_with fail
      go_region
      go_wp2_with fail
      go_ret
      exact ⟨_, rfl, err_none A rfl, PurAt.of _ (pa_drew (pa_setO ⟨Z.out.1, Kept.refl _ _⟩ k hk _)) Z.out.2.1 Z.out.2.2⟩
    · have e1 : x.mintC o n = 2 := if_neg (fun g => hn g.2)
      have e2 : x.mint o n = x := if_neg (by rw [e1]; decide)
      have G := pu_mayNot b x hx n hn w h
      rw [e1, e2]
      clear hn e1 e2 ho
      go_enter Tryd.func9, Tryd.ntmps9
      go_wp2_with fail
      refine Iw.mono ?_
      rintro e w' ⟨rfl, rfl⟩
      go_wp2_with fail
      refine G.mono ?_
      rintro e w' ⟨rfl, rfl⟩
      go_wp2_with fail
      go_ret
      exact ⟨_, rfl, err_bound A rfl, h, Kept.refl _ _⟩
  · have Iw := owner_no o ho w
    have e1 : x.mintC o n = 2 := if_neg (fun g => ho g.1)
    have e2 : x.mint o n = x := if_neg (by rw [e1]; decide)
    rw [e1, e2]
    clear e1 e2 ho
    go_enter Tryd.func9, Tryd.ntmps9
    go_wp2_with fail
    refine Iw.mono ?_
    rintro e w' ⟨rfl, rfl⟩
    go_wp2_with fail
    go_ret
    exact ⟨_, rfl, err_bound A rfl, h, Kept.refl _ _⟩

set_option maxRecDepth 100000 in
set_option maxHeartbeats 1000000 in
theorem pu_burn (b : Nat) (x : Pu) (hx : x.Ok) (n : Int) (A : Nat → Addr) (w : World) (hL : PurLaid w A) (h : PurAt w b x) :
    Calls Tryd.prog 11 #[.pointer (some ⟨b, 0, none⟩), .int .i64 n] w fun e w' => ∃ ev, e = .returned ev ∧ ErrIs A ev (x.burnC n) ∧ PurAt w' b (x.burn n) ∧ Kept [b] w w' := by
  have v1 := hL.v1
  have v5 := hL.v5
  by_cases hb : Amt n
  · have I := amount_yes n hb.1 hb.2 w
    have s0 := hx.sum0
    have a1 := hx.le
    have a2 := hx.top
    have n0 := hb.1
    have n1 := hb.2
    have R := h.raw
    by_cases ht : x.S - x.sum < n
    · have e1 : x.burnC n = 6 := by unfold Pu.burnC; rw [if_neg (fun g => g hb), if_pos ht]
      have e2 : x.burn n = x := if_neg (by rw [e1]; decide)
      rw [e1, e2]
      obtain ⟨N, eN⟩ : ∃ N, x.S - x.sum = N := ⟨_, rfl⟩
      rw [eN] at R ht
      have b0 : 0 ≤ N := by omega
      have c6 := R.c6
      clear e1 e2 hb eN s0 a1 a2
      go_enter Tryd.func11, Tryd.ntmps11
      go_wp2_with fail
      refine I.mono ?_
      rintro e w' ⟨rfl, rfl⟩
      go_wp2_with fail
      go_ret
      exact ⟨_, rfl, err_short A rfl, h, Kept.refl _ _⟩
    · have e1 : x.burnC n = 0 := by unfold Pu.burnC; rw [if_neg (fun g => g hb), if_neg ht]
      have e2 : x.burn n = ⟨x.s, x.S - n⟩ := if_pos e1
      have ok := hx.burn n
      rw [e2] at ok
      have hN : x.S - x.sum - n = (⟨x.s, x.S - n⟩ : Pu).S - (⟨x.s, x.S - n⟩ : Pu).sum := by show _ = x.S - n - x.sum; omega
      rw [e1, e2]
      obtain ⟨N, eN⟩ : ∃ N, x.S - x.sum = N := ⟨_, rfl⟩
      rw [eN] at R hN ht
      have b0 : 0 ≤ N := by omega
      have b1 : N ≤ 1125899906842624 := by omega
      have c6 := R.c6
      have f6 := R.f 6
      have Z := hide (And.intro R (And.intro hN ok))
      clear e1 e2 hb eN s0 a1 a2 R hN ok
      go_enter Tryd.func11, Tryd.ntmps11
      go_wp2_with fail
      refine I.mono ?_
      rintro e w' ⟨rfl, rfl⟩
      go_wp2_with fail
      go_ret
      exact ⟨_, rfl, err_none A rfl, PurAt.of _ (pa_setN ⟨Z.out.1, Kept.refl _ _⟩ _) Z.out.2.1 Z.out.2.2⟩
  · have e1 : x.burnC n = 2 := if_pos hb
    have e2 : x.burn n = x := if_neg (by rw [e1]; decide)
    have I := amount_no n hb w
    rw [e1, e2]
    clear e1 e2 hb
    go_enter Tryd.func11, Tryd.ntmps11
    go_wp2_with fail
    refine I.mono ?_
    rintro e w' ⟨rfl, rfl⟩
    go_wp2_with fail
    go_ret
    exact ⟨_, rfl, err_bound A rfl, h, Kept.refl _ _⟩

set_option maxRecDepth 100000 in
set_option maxHeartbeats 1000000 in
theorem pu_out (b : Nat) (x : Pu) (hx : x.Ok) (o n : Int) (A : Nat → Addr) (w : World) (hL : PurLaid w A) (h : PurAt w b x) :
    Calls Tryd.prog 12 #[.pointer (some ⟨b, 0, none⟩), .int .i64 o, .int .i64 n] w fun e w' => ∃ ev, e = .returned ev ∧ ErrIs A ev (x.outC o n) ∧ PurAt w' b (x.out o n) ∧ Kept [b] w w' := by
  have v1 := hL.v1
  have v5 := hL.v5
  by_cases hb : ¬ (Own o ∧ Amt n)
  · have e1 : x.outC o n = 2 := if_pos hb
    have e2 : x.out o n = x := if_neg (by rw [e1]; decide)
    rw [e1, e2]
    clear e1 e2
    by_cases ho : Own o
    · have Iw := owner_yes o ho.1 ho.2 w
      have I := amount_no n (fun g => hb ⟨ho, g⟩) w
      clear hb ho
      go_enter Tryd.func12, Tryd.ntmps12
      go_wp2_with fail
      refine Iw.mono ?_
      rintro e w' ⟨rfl, rfl⟩
      go_wp2_with fail
      refine I.mono ?_
      rintro e w' ⟨rfl, rfl⟩
      go_wp2_with fail
      go_ret
      exact ⟨_, rfl, err_bound A rfl, h, Kept.refl _ _⟩
    · have Iw := owner_no o ho w
      clear hb ho
      go_enter Tryd.func12, Tryd.ntmps12
      go_wp2_with fail
      refine Iw.mono ?_
      rintro e w' ⟨rfl, rfl⟩
      go_wp2_with fail
      go_ret
      exact ⟨_, rfl, err_bound A rfl, h, Kept.refl _ _⟩
  · have hb : Own o ∧ Amt n := Classical.not_not.mp hb
    have Iw := owner_yes o hb.1.1 hb.1.2 w
    have I := amount_yes n hb.2.1 hb.2.2 w
    have s0 := hx.sum0
    have s1 := hx.one o
    have a0 := hx.pos o
    have a1 := hx.le
    have a2 := hx.top
    have n0 := hb.2.1
    have n1 := hb.2.2
    have R := h.raw
    by_cases ht : x.s o < n
    · have e1 : x.outC o n = 6 := by unfold Pu.outC; rw [if_neg (fun g => g hb), if_pos ht]
      have e2 : x.out o n = x := if_neg (by rw [e1]; decide)
      rw [e1, e2]
      obtain ⟨k, rfl, hk⟩ := pa_own hb.1
      obtain ⟨N, eN⟩ : ∃ N, x.S - x.sum = N := ⟨_, rfl⟩
      have cs := R.s k hk
      obtain ⟨v, ev⟩ : ∃ v, x.s k = v := ⟨_, rfl⟩
      rw [eN] at R
      rw [ev] at cs a0 s1 ht
      have b0 : 0 ≤ N := by omega
      have c6 := R.c6
      clear e1 e2 hb eN ev s0 s1 a1 a2
      go_enter Tryd.func12, Tryd.ntmps12
      go_wp2_with fail
      refine Iw.mono ?_
      rintro e w' ⟨rfl, rfl⟩
      go_wp2_with fail
      refine I.mono ?_
      rintro e w' ⟨rfl, rfl⟩
      go_wp2_with fail
      go_ret
      exact ⟨_, rfl, err_short A rfl, h, Kept.refl _ _⟩
    · have e1 : x.outC o n = 0 := by unfold Pu.outC; rw [if_neg (fun g => g hb), if_neg ht]
      have e2 : x.out o n = ⟨put x.s o (x.s o - n), x.S⟩ := if_pos e1
      have ok := hx.out' o n
      rw [e2] at ok
      have hN : x.S - x.sum + n = (⟨put x.s o (x.s o - n), x.S⟩ : Pu).S - (⟨put x.s o (x.s o - n), x.S⟩ : Pu).sum := by rw [sum_put x _ _ _ hb.1]; show _ = x.S - _; omega
      rw [e1, e2]
      obtain ⟨k, rfl, hk⟩ := pa_own hb.1
      obtain ⟨N, eN⟩ : ∃ N, x.S - x.sum = N := ⟨_, rfl⟩
      have cs := R.s k hk
      have fs := R.f k
      have f6 := R.f 6
      obtain ⟨v, ev⟩ : ∃ v, x.s k = v := ⟨_, rfl⟩
      rw [eN] at R hN
      rw [ev] at cs a0 s1 hN ok ht ⊢
      have b0 : 0 ≤ N := by omega
      have b1 : N ≤ 1125899906842624 := by omega
      have b2 : v ≤ 1125899906842624 := by omega
      have b3 : N + v ≤ 1125899906842624 := by omega
      have c6 := R.c6
      have Z := hide (And.intro R (And.intro hN ok))
      clear e1 e2 hb eN ev s0 s1 a1 a2 R hN ok
      go_enter Tryd.func12, Tryd.ntmps12
      go_wp2_with fail
      refine Iw.mono ?_
      rintro e w' ⟨rfl, rfl⟩
      go_wp2_with fail
      refine I.mono ?_
      rintro e w' ⟨rfl, rfl⟩
      go_wp2_with fail
      go_region
      have M2 := pa_drew (pa_setO ⟨Z.out.1, Kept.refl _ _⟩ k hk (v - n))
      clear c6 cs fs h hL v1 v5 Iw I
      generalize (w'.setCell ⟨b, k, none⟩ (.int .i64 (v - n))).drew = w1 at *
      have c6 := M2.1.c6
      have f6 := M2.1.f 6
      go_wp2_with fail
      go_ret
      exact ⟨_, rfl, err_none A rfl, PurAt.of _ (pa_setN M2 _) Z.out.2.1 Z.out.2.2⟩

set_option maxRecDepth 100000 in
set_option maxHeartbeats 1000000 in
theorem pu_in (b : Nat) (x : Pu) (hx : x.Ok) (o n : Int) (A : Nat → Addr) (w : World) (hL : PurLaid w A) (h : PurAt w b x) :
    Calls Tryd.prog 13 #[.pointer (some ⟨b, 0, none⟩), .int .i64 o, .int .i64 n] w fun e w' => ∃ ev, e = .returned ev ∧ ErrIs A ev (x.inC o n) ∧ PurAt w' b (x.in' o n) ∧ Kept [b] w w' := by
  have v1 := hL.v1
  have v5 := hL.v5
  by_cases hb : ¬ (Own o ∧ Amt n)
  · have e1 : x.inC o n = 2 := if_pos hb
    have e2 : x.in' o n = x := if_neg (by rw [e1]; decide)
    rw [e1, e2]
    clear e1 e2
    by_cases ho : Own o
    · have Iw := owner_yes o ho.1 ho.2 w
      have I := amount_no n (fun g => hb ⟨ho, g⟩) w
      clear hb ho
      go_enter Tryd.func13, Tryd.ntmps13
      go_wp2_with fail
      refine Iw.mono ?_
      rintro e w' ⟨rfl, rfl⟩
      go_wp2_with fail
      refine I.mono ?_
      rintro e w' ⟨rfl, rfl⟩
      go_wp2_with fail
      go_ret
      exact ⟨_, rfl, err_bound A rfl, h, Kept.refl _ _⟩
    · have Iw := owner_no o ho w
      clear hb ho
      go_enter Tryd.func13, Tryd.ntmps13
      go_wp2_with fail
      refine Iw.mono ?_
      rintro e w' ⟨rfl, rfl⟩
      go_wp2_with fail
      go_ret
      exact ⟨_, rfl, err_bound A rfl, h, Kept.refl _ _⟩
  · have hb : Own o ∧ Amt n := Classical.not_not.mp hb
    have Iw := owner_yes o hb.1.1 hb.1.2 w
    have I := amount_yes n hb.2.1 hb.2.2 w
    have s0 := hx.sum0
    have s1 := hx.one o
    have a0 := hx.pos o
    have a1 := hx.le
    have a2 := hx.top
    have n0 := hb.2.1
    have n1 := hb.2.2
    have R := h.raw
    by_cases ht : x.S - x.sum < n
    · have e1 : x.inC o n = 6 := by unfold Pu.inC; rw [if_neg (fun g => g hb), if_pos ht]
      have e2 : x.in' o n = x := if_neg (by rw [e1]; decide)
      rw [e1, e2]
      obtain ⟨k, rfl, hk⟩ := pa_own hb.1
      obtain ⟨N, eN⟩ : ∃ N, x.S - x.sum = N := ⟨_, rfl⟩
      have cs := R.s k hk
      obtain ⟨v, ev⟩ : ∃ v, x.s k = v := ⟨_, rfl⟩
      rw [eN] at R ht
      rw [ev] at cs a0 s1
      have b0 : 0 ≤ N := by omega
      have c6 := R.c6
      clear e1 e2 hb eN ev s0 s1 a1 a2
      go_enter Tryd.func13, Tryd.ntmps13
      go_wp2_with fail
      refine Iw.mono ?_
      rintro e w' ⟨rfl, rfl⟩
      go_wp2_with fail
      refine I.mono ?_
      rintro e w' ⟨rfl, rfl⟩
      go_wp2_with fail
      go_ret
      exact ⟨_, rfl, err_short A rfl, h, Kept.refl _ _⟩
    · have e1 : x.inC o n = 0 := by unfold Pu.inC; rw [if_neg (fun g => g hb), if_neg ht]
      have e2 : x.in' o n = ⟨put x.s o (x.s o + n), x.S⟩ := if_pos e1
      have ok := hx.in' o n
      rw [e2] at ok
      have hN : x.S - x.sum - n = (⟨put x.s o (x.s o + n), x.S⟩ : Pu).S - (⟨put x.s o (x.s o + n), x.S⟩ : Pu).sum := by rw [sum_put x _ _ _ hb.1]; show _ = x.S - _; omega
      rw [e1, e2]
      obtain ⟨k, rfl, hk⟩ := pa_own hb.1
      obtain ⟨N, eN⟩ : ∃ N, x.S - x.sum = N := ⟨_, rfl⟩
      have cs := R.s k hk
      have fs := R.f k
      have f6 := R.f 6
      obtain ⟨v, ev⟩ : ∃ v, x.s k = v := ⟨_, rfl⟩
      rw [eN] at R hN ht
      rw [ev] at cs a0 s1 hN ok ⊢
      have b0 : 0 ≤ N := by omega
      have b1 : N ≤ 1125899906842624 := by omega
      have b2 : v ≤ 1125899906842624 := by omega
      have b3 : N + v ≤ 1125899906842624 := by omega
      have c6 := R.c6
      have Z := hide (And.intro R (And.intro hN ok))
      have EV := hide ev
      clear e1 e2 hb eN ev s0 s1 a1 a2 R hN ok
      go_enter Tryd.func13, Tryd.ntmps13
      go_wp2_with fail
      refine Iw.mono ?_
      rintro e w' ⟨rfl, rfl⟩
      go_wp2_with fail
      refine I.mono ?_
      rintro e w' ⟨rfl, rfl⟩
      go_wp2_with fail
      have M2 := pa_setN ⟨Z.out.1, Kept.refl _ _⟩ (N - n)
      clear c6 cs fs h hL v1 v5 Iw I
      generalize w'.setCell ⟨b, 6, none⟩ (.int .i64 (N - n)) = w1 at *
      have cs := M2.1.s k hk
      rw [EV.out] at cs
      have fs := M2.1.f k
      go_region
      go_wp2_with fail
      go_ret
      exact ⟨_, rfl, err_none A rfl, PurAt.of _ (pa_drew (pa_setO M2 k hk _)) Z.out.2.1 Z.out.2.2⟩

set_option maxRecDepth 100000 in
set_option maxHeartbeats 2000000 in
theorem pu_move (b : Nat) (x : Pu) (hx : x.Ok) (o t n : Int) (A : Nat → Addr) (w : World) (hL : PurLaid w A) (h : PurAt w b x) :
    Calls Tryd.prog 14 #[.pointer (some ⟨b, 0, none⟩), .int .i64 o, .int .i64 t, .int .i64 n] w fun e w' => ∃ ev, e = .returned ev ∧ ErrIs A ev (x.moveC o t n) ∧ PurAt w' b (x.move o t n) ∧ Kept [b] w w' := by
  have v1 := hL.v1
  have v5 := hL.v5
  by_cases hb : ¬ (Own o ∧ Own t ∧ Amt n)
  · have e1 : x.moveC o t n = 2 := if_pos hb
    have e2 : x.move o t n = x := if_neg (by rw [e1]; decide)
    rw [e1, e2]
    clear e1 e2
    by_cases ho : Own o
    · have Iw := owner_yes o ho.1 ho.2 w
      by_cases ht : Own t
      · have IT := owner_yes t ht.1 ht.2 w
        have I := amount_no n (fun g => hb ⟨ho, ht, g⟩) w
        clear hb ho ht
        go_enter Tryd.func14, Tryd.ntmps14
        go_wp2_with fail
        refine Iw.mono ?_
        rintro e w' ⟨rfl, rfl⟩
        go_wp2_with fail
        refine IT.mono ?_
        rintro e w' ⟨rfl, rfl⟩
        go_wp2_with fail
        refine I.mono ?_
        rintro e w' ⟨rfl, rfl⟩
        go_wp2_with fail
        go_ret
        exact ⟨_, rfl, err_bound A rfl, h, Kept.refl _ _⟩
      · have IT := owner_no t ht w
        clear hb ho ht
        go_enter Tryd.func14, Tryd.ntmps14
        go_wp2_with fail
        refine Iw.mono ?_
        rintro e w' ⟨rfl, rfl⟩
        go_wp2_with fail
        refine IT.mono ?_
        rintro e w' ⟨rfl, rfl⟩
        go_wp2_with fail
        go_ret
        exact ⟨_, rfl, err_bound A rfl, h, Kept.refl _ _⟩
    · have Iw := owner_no o ho w
      clear hb ho
      go_enter Tryd.func14, Tryd.ntmps14
      go_wp2_with fail
      refine Iw.mono ?_
      rintro e w' ⟨rfl, rfl⟩
      go_wp2_with fail
      go_ret
      exact ⟨_, rfl, err_bound A rfl, h, Kept.refl _ _⟩
  · have hb : Own o ∧ Own t ∧ Amt n := Classical.not_not.mp hb
    have Iw := owner_yes o hb.1.1 hb.1.2 w
    have IT := owner_yes t hb.2.1.1 hb.2.1.2 w
    have I := amount_yes n hb.2.2.1 hb.2.2.2 w
    have s0 := hx.sum0
    have s1 := hx.one o
    have a0 := hx.pos o
    have a1 := hx.le
    have a2 := hx.top
    have n0 := hb.2.2.1
    have n1 := hb.2.2.2
    have R := h.raw
    by_cases ht : x.s o < n
    · have e1 : x.moveC o t n = 6 := by unfold Pu.moveC; rw [if_neg (fun g => g hb), if_pos ht]
      have e2 : x.move o t n = x := if_neg (by rw [e1]; decide)
      rw [e1, e2]
      obtain ⟨k, rfl, hk⟩ := pa_own hb.1
      have cs := R.s k hk
      obtain ⟨v, ev⟩ : ∃ v, x.s k = v := ⟨_, rfl⟩
      rw [ev] at cs a0 s1 ht
      clear e1 e2 hb ev s0 s1 a1 a2
      go_enter Tryd.func14, Tryd.ntmps14
      go_wp2_with fail
      refine Iw.mono ?_
      rintro e w' ⟨rfl, rfl⟩
      go_wp2_with fail
      refine IT.mono ?_
      rintro e w' ⟨rfl, rfl⟩
      go_wp2_with fail
      refine I.mono ?_
      rintro e w' ⟨rfl, rfl⟩
      go_wp2_with fail
      go_ret
      exact ⟨_, rfl, err_short A rfl, h, Kept.refl _ _⟩
    · have e1 : x.moveC o t n = 0 := by unfold Pu.moveC; rw [if_neg (fun g => g hb), if_neg ht]
      have e2 : x.move o t n = ⟨put (put x.s o (x.s o - n)) t (put x.s o (x.s o - n) t + n), x.S⟩ := if_pos e1
      have ok := hx.move o t n
      rw [e2] at ok
      have hN : x.S - x.sum = (⟨put (put x.s o (x.s o - n)) t (put x.s o (x.s o - n) t + n), x.S⟩ : Pu).S - (⟨put (put x.s o (x.s o - n)) t (put x.s o (x.s o - n) t + n), x.S⟩ : Pu).sum := by
        rw [sum_put ⟨put x.s o (x.s o - n), x.S⟩ _ _ _ hb.2.1, sum_put x _ _ _ hb.1]
        show _ = x.S - (_ - put x.s o (x.s o - n) t + _)
        omega
      have hP : 0 ≤ put x.s o (x.s o - n) t ∧ put x.s o (x.s o - n) t ≤ 1125899906842624 := by
        have := hx.pos t
        have := hx.one t
        unfold put; split <;> omega
      rw [e1, e2]
      obtain ⟨k, rfl, hk⟩ := pa_own hb.1
      obtain ⟨j, rfl, hj⟩ := pa_own hb.2.1
      have cs := R.s k hk
      have fs := R.f k
      obtain ⟨v, ev⟩ : ∃ v, x.s k = v := ⟨_, rfl⟩
      rw [ev] at cs a0 s1 hN ok ht hP ⊢
      have b2 : v ≤ 1125899906842624 := by omega
      obtain ⟨u, eu⟩ : ∃ u, put x.s k (v - n) j = u := ⟨_, rfl⟩
      rw [eu] at hN ok hP ⊢
      obtain ⟨u0, u1⟩ := hP
      have Z := hide (And.intro R (And.intro hN (And.intro ok eu)))
      clear e1 e2 hb ev s0 s1 a1 a2 R hN ok eu
      go_enter Tryd.func14, Tryd.ntmps14
      go_wp2_with fail
      refine Iw.mono ?_
      rintro e w' ⟨rfl, rfl⟩
      go_wp2_with fail
      refine IT.mono ?_
      rintro e w' ⟨rfl, rfl⟩
      go_wp2_with fail
      refine I.mono ?_
      rintro e w' ⟨rfl, rfl⟩
      go_wp2_with fail
      go_region
      have M2 := pa_drew (pa_setO ⟨Z.out.1, Kept.refl _ _⟩ k hk (v - n))
      clear cs fs h hL v1 v5 Iw I
      generalize (w'.setCell ⟨b, k, none⟩ (.int .i64 (v - n))).drew = w1 at *
      have cs := M2.1.s j hj
      have fs := M2.1.f j
      rw [Z.out.2.2.2] at cs
      go_wp2_with fail
      go_region
      go_wp2_with fail
      go_ret
      exact ⟨_, rfl, err_none A rfl, PurAt.of _ (pa_drew (pa_setO M2 j hj _)) Z.out.2.1 Z.out.2.2.1⟩
end Go.Proofs.YtamjnkjgdaojiaaDoor
