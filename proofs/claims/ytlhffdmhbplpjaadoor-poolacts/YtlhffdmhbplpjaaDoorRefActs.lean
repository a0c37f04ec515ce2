/-
  The document's pool (bakehouseref1.Pool) by its contracts: what is done to it.
-/
import Derived.Test.YtlhffdmhbplpjaaDoorRefPool
import Derived.BigRegion
namespace Go.Proofs.YtlhffdmhbplpjaaDoor
open Go.RowKit

theorem RefAt.setS {w : World} {b q : Nat} {x : St} (h : RefAt w b q x) (k : Nat) (hk : k < 6) (v : Int) : RefAt (w.setCell ⟨q, k, none⟩ (.int .i64 v)) b q (x.set k v x.T) where
  c0 := by rw [World.cell?_setCell_other _ _ _ _ (by simp; intro e; exact absurd e.symm h.ne)]; exact h.c0
  c1 := h.c1.imp fun _ g => by rw [World.cell?_setCell_other _ _ _ _ (by simp; intro e; exact absurd e.symm h.ne)]; exact g
  s := fun i hi => by
    by_cases e : i = k
    · subst e
      rw [World.cell?_setCell_same _ _ _ (h.s i hi), St.set_same]
    · have ne : (⟨q, k, none⟩ : Addr) ≠ ⟨q, i, none⟩ := fun g => e (by cases g; rfl)
      rw [World.cell?_setCell_other _ _ _ _ ne, St.set_other _ _ _ _ _ (by omega)]
      exact h.s i hi
  f0 := by rw [World.frozen?_setCell]; exact h.f0
  fs := fun i hi => by rw [World.frozen?_setCell]; exact h.fs i hi
  ne := h.ne
theorem RefAt.setT {w : World} {b q : Nat} {x : St} (h : RefAt w b q x) (T : Int) : RefAt (w.setCell ⟨b, 0, none⟩ (.int .i64 T)) b q ⟨T, x.s⟩ where
  c0 := World.cell?_setCell_same _ _ _ h.c0
  c1 := h.c1.imp fun _ g => by rw [World.cell?_setCell_other _ _ _ _ (by simp)]; exact g
  s := fun i hi => by rw [World.cell?_setCell_other _ _ _ _ (by simp; intro e; exact absurd e h.ne)]; exact h.s i hi
  f0 := by rw [World.frozen?_setCell]; exact h.f0
  fs := fun i hi => by rw [World.frozen?_setCell]; exact h.fs i hi
  ne := h.ne
theorem RefAt.wrote {w : World} {b q : Nat} {x : St} (h : RefAt w b q x) (k : Nat) (hk : k < 6) (v T : Int) : RefAt ((w.setCell ⟨q, k, none⟩ (.int .i64 v)).setCell ⟨b, 0, none⟩ (.int .i64 T)) b q (x.set k v T) ∧ Kept [b, q] w ((w.setCell ⟨q, k, none⟩ (.int .i64 v)).setCell ⟨b, 0, none⟩ (.int .i64 T)) :=
  ⟨(h.setS k hk v).setT T, ((Kept.refl _ _).setCell (by simp) _).setCell (by simp) _⟩

theorem isAmount_ref (n : Int) (w : World) :
    Calls Tryd.prog 73 #[.int .i64 n] w fun e w' => e = .returned (.bool (decide (0 ≤ n ∧ n ≤ 1125899906842624))) ∧ w' = w := by
  by_cases h0 : 0 ≤ n
  · by_cases h1 : n ≤ 1125899906842624
    · have e : decide (0 ≤ n ∧ n ≤ 1125899906842624) = true := by simp [h0, h1]
      rw [e]
      go_enter Tryd.func73, Tryd.ntmps73
      go_wp2
      go_ret
      exact ⟨rfl, rfl⟩
    · have e : decide (0 ≤ n ∧ n ≤ 1125899906842624) = false := by simp [h0]; omega
      rw [e]
      go_enter Tryd.func73, Tryd.ntmps73
      go_wp2
      go_ret
      exact ⟨rfl, rfl⟩
  · have e : decide (0 ≤ n ∧ n ≤ 1125899906842624) = false := by simp [h0]
    rw [e]
    go_enter Tryd.func73, Tryd.ntmps73
    go_wp2
    go_ret
    exact ⟨rfl, rfl⟩

/-- what an act leaves where it is refused -/
theorem ref_stay {b q : Nat} {x y : St} {w : World} (h : RefAt w b q x) (e : y = x) : RefAt w b q y ∧ Kept [b, q] w w := by
  subst e; exact ⟨h, Kept.refl _ _⟩
theorem RefAt.as {b q : Nat} {x y : St} {w w' : World} (h : RefAt w' b q x ∧ Kept [b, q] w w') (e : y = x) : RefAt w' b q y ∧ Kept [b, q] w w' := by subst e; exact h

set_option maxRecDepth 100000 in
set_option maxHeartbeats 1000000 in
theorem ref_add (b q : Nat) (x : St) (hx : x.Ok) (n : Int) (w : World) (h : RefAt w b q x) :
    Calls Tryd.prog 44 #[.pointer (some ⟨b, 0, none⟩), .int .i64 n] w fun e w' => e = .returned (.int .i64 (x.addC n)) ∧ RefAt w' b q (x.add n) ∧ Kept [b, q] w w' := by
  have c0 := h.c0
  have f0 := h.f0
  have t0 := hx.t0
  have t1 := hx.t1
  have I := isAmount_ref n
  by_cases hn : 0 ≤ n ∧ n ≤ 1125899906842624
  · rw [decide_eq_true hn] at I
    by_cases hA : x.A = 0
    · have e1 := hide (St.addC_none hn hA)
      have tA : (x.A == 0) = true := by simp [hA]
      clear hA hn
      go_enter Tryd.func44, Tryd.ntmps44
      go_wp2_with (first | (go_at_call 73; refine (I _).mono ?_; rintro e w' ⟨rfl, rfl⟩) | (go_at_call 46; refine (ref_all b q x hx _ h).mono ?_; rintro e w' ⟨rfl, rfl⟩))
      go_ret
      exact ⟨ret_int e1.out.symm, ref_stay h (St.add_no e1.out (by omega))⟩
    · have tA : (x.A == 0) = false := by simp [hA]
      by_cases hT : x.T + n ≤ 1125899906842624
      · have e1 := hide (St.addC_fine hn hA hT)
        clear hA
        obtain ⟨n0, n1⟩ := hn
        go_enter Tryd.func44, Tryd.ntmps44
        go_wp2_with (first | (go_at_call 73; refine (I _).mono ?_; rintro e w' ⟨rfl, rfl⟩) | (go_at_call 46; refine (ref_all b q x hx _ h).mono ?_; rintro e w' ⟨rfl, rfl⟩))
        go_ret
        exact ⟨ret_int e1.out.symm, RefAt.as ⟨h.setT _, (Kept.refl _ _).setCell (by simp) _⟩ (St.add_yes e1.out)⟩
      · have e1 := hide (St.addC_over hn hA (by omega))
        clear hA
        obtain ⟨n0, n1⟩ := hn
        go_enter Tryd.func44, Tryd.ntmps44
        go_wp2_with (first | (go_at_call 73; refine (I _).mono ?_; rintro e w' ⟨rfl, rfl⟩) | (go_at_call 46; refine (ref_all b q x hx _ h).mono ?_; rintro e w' ⟨rfl, rfl⟩))
        go_ret
        exact ⟨ret_int e1.out.symm, ref_stay h (St.add_no e1.out (by omega))⟩
  · rw [decide_eq_false hn] at I
    have e1 := hide (St.addC_bad (x := x) hn)
    clear hn
    go_enter Tryd.func44, Tryd.ntmps44
    go_wp2_with (go_at_call 73; refine (I _).mono ?_; rintro e w' ⟨rfl, rfl⟩)
    go_ret
    exact ⟨ret_int e1.out.symm, ref_stay h (St.add_no e1.out (by omega))⟩

theorem slash_cut (T p : Int) : T / 100 * p + T % 100 * p / 100 = T * p / 100 := by
  have e : T * p = T % 100 * p + T / 100 * p * 100 := by
    have h := Int.emod_add_mul_ediv T 100
    have : T % 100 * p + T / 100 * p * 100 = (T % 100 + 100 * (T / 100)) * p := by grind
    rw [this, h]
  rw [e, Int.add_mul_ediv_right _ _ (by omega)]
  omega
theorem slash_bd (T p : Int) (t0 : 0 ≤ T) (t1 : T ≤ 1125899906842624) (p0 : 0 ≤ p) (p1 : p ≤ 100) : 0 ≤ T / 100 * p ∧ T / 100 * p ≤ 1125899906842624 ∧ 0 ≤ T % 100 * p ∧ T % 100 * p ≤ 10000 ∧ 0 ≤ T * p / 100 ∧ T * p / 100 ≤ T := by
  have h0 : 0 ≤ T / 100 := by omega
  have h1 : 0 ≤ T % 100 ∧ T % 100 < 100 := by omega
  have g1 := Int.mul_nonneg h0 p0
  have g2 : T / 100 * p ≤ T / 100 * 100 := Int.mul_le_mul_of_nonneg_left p1 h0
  have g3 := Int.mul_nonneg h1.1 p0
  have g4 : T % 100 * p ≤ T % 100 * 100 := Int.mul_le_mul_of_nonneg_left p1 h1.1
  have g5 := Int.mul_nonneg t0 p0
  have g6 : T * p ≤ T * 100 := Int.mul_le_mul_of_nonneg_left p1 t0
  omega

set_option maxRecDepth 100000 in
set_option maxHeartbeats 1000000 in
theorem ref_slash (b q : Nat) (x : St) (hx : x.Ok) (p : Int) (w : World) (h : RefAt w b q x) :
    Calls Tryd.prog 45 #[.pointer (some ⟨b, 0, none⟩), .int .i64 p] w fun e w' => e = .returned (.tuple #[.int .i64 (x.slashN p), .int .i64 (x.slashC p)]) ∧ RefAt w' b q (x.slash p) ∧ Kept [b, q] w w' := by
  have c0 := h.c0
  have f0 := h.f0
  have t0 := hx.t0
  have t1 := hx.t1
  by_cases hp : 0 ≤ p ∧ p ≤ 100
  · have e1 := hide (St.slash_yes (x := x) hp)
    have e2 := hide (slash_cut x.T p)
    obtain ⟨g1, g2, g3, g4, g5, g6⟩ := slash_bd x.T p t0 t1 hp.1 hp.2
    obtain ⟨p0, p1⟩ := hp
    have g7 : x.T / 100 * p + x.T % 100 * p / 100 ≤ x.T := by rw [e2.out]; exact g6
    go_enter Tryd.func45, Tryd.ntmps45
    go_wp2
    go_ret2
    refine ⟨ret_int2 (e2.out.trans e1.out.2.1.symm) e1.out.1.symm, RefAt.as ⟨h.setT _, (Kept.refl _ _).setCell (by simp) _⟩ ?_⟩
    rw [e1.out.2.2, e2.out]
  · have e1 := hide (St.slash_no (x := x) hp)
    by_cases p0 : 0 ≤ p
    · have p1 : 100 < p := by omega
      clear hp
      go_enter Tryd.func45, Tryd.ntmps45
      go_wp2
      go_ret2
      exact ⟨ret_int2 e1.out.2.1.symm e1.out.1.symm, ref_stay h e1.out.2.2⟩
    · clear hp
      go_enter Tryd.func45, Tryd.ntmps45
      go_wp2
      go_ret2
      exact ⟨ret_int2 e1.out.2.1.symm e1.out.1.symm, ref_stay h e1.out.2.2⟩

set_option maxRecDepth 100000 in
set_option maxHeartbeats 1000000 in
theorem ref_leave (b q : Nat) (x : St) (hx : x.Ok) (o : Int) (w : World) (h : RefAt w b q x) :
    Calls Tryd.prog 43 #[.pointer (some ⟨b, 0, none⟩), .int .i64 o] w fun e w' => e = .returned (.tuple #[.int .i64 (x.leaveN o), .int .i64 (x.leaveC o)]) ∧ RefAt w' b q (x.leave o) ∧ Kept [b, q] w w' := by
  have c0 := h.c0
  obtain ⟨cap, c1⟩ := h.c1
  have f0 := h.f0
  have t0 := hx.t0
  have t1 := hx.t1
  by_cases ho : 0 ≤ o ∧ o < 6
  · have I := isOwner_yes o ho.1 ho.2
    obtain ⟨k, rfl⟩ : ∃ k : Nat, o = k := ⟨o.toNat, by omega⟩
    have hk : k < 6 := by omega
    have cs := h.s k hk
    have fs := h.fs k hk
    have ne := h.ne
    by_cases hs : x.s k = 0
    · have e1 := hide (St.leaveC_none ho hs)
      have ts : (x.s k == 0) = true := by simp [hs]
      clear hs ho
      go_enter Tryd.func43, Tryd.ntmps43
      go_wp2_with (go_at_call 80; refine (I _).mono ?_; rintro e w' ⟨rfl, rfl⟩)
      go_ret2
      exact ⟨ret_int2 (St.leave_no e1.out (by omega)).2.symm e1.out.symm, ref_stay h (St.leave_no e1.out (by omega)).1⟩
    · have e1 := hide (St.leaveC_fine ho hs)
      have ts : (x.s k == 0) = false := by simp [hs]
      have v0 := hx.val0 k
      have v1 := hx.val1 k
      clear hs ho
      go_enter Tryd.func43, Tryd.ntmps43
      go_wp2_with (first | (go_at_call 80; refine (I _).mono ?_; rintro e w' ⟨rfl, rfl⟩) | (go_at_call 48; refine (ref_value b q x hx k _ h).mono ?_; rintro e w' ⟨rfl, m, rfl⟩))
      go_ret2
      have hw := (h.drewN m).wrote k hk 0 (x.T - x.val k)
      exact ⟨ret_int2 (St.leave_yes e1.out).2.symm e1.out.symm, RefAt.as ⟨hw.1, ((Kept.refl _ _).drewN m).trans hw.2⟩ (St.leave_yes e1.out).1⟩
  · have I := isOwner_no o ho
    have e1 := hide (St.leaveC_bad (x := x) ho)
    clear ho
    go_enter Tryd.func43, Tryd.ntmps43
    go_wp2_with (go_at_call 80; refine (I _).mono ?_; rintro e w' ⟨rfl, rfl⟩)
    go_ret2
    exact ⟨ret_int2 (St.leave_no e1.out (by omega)).2.symm e1.out.symm, ref_stay h (St.leave_no e1.out (by omega)).1⟩
end Go.Proofs.YtlhffdmhbplpjaaDoor
