/-
  Pools, plainly: a total and shares of six owners; what each act makes of them, and that nobody's value falls by what others do.
  Stakes, plainly: a pool for each of three bakers, and pools of what waits by bakers and cycles; what each act makes of them, and what is in all of them together.
  Stakes, plainly: what each act makes of all together.
  Stakes, plainly: how many pools wait.
  Weights of stakes, plainly.
  A court, plainly: what was ever brought, in order; so many were asked for.
  What is issued, plainly: ratios, rates, bonuses, rewards, and that they fall where more is staked.
-/
import Derived.Test.YtaihcceobnfmhaaDoorQuoX
namespace Go.Proofs.YtaihcceobnfmhaaDoor

/-- a pool: its total, and shares by owners -/
structure St where
  T : Int
  s : Int → Int
/-- all shares -/
def St.A (x : St) : Int := x.s 0 + x.s 1 + x.s 2 + x.s 3 + x.s 4 + x.s 5
structure St.Ok (x : St) : Prop where
  t0 : 0 ≤ x.T
  t1 : x.T ≤ 1125899906842624
  pos : ∀ o, 0 ≤ x.s o
  out : ∀ o, (o < 0 ∨ 6 ≤ o) → x.s o = 0
  a1 : x.A ≤ 1125899906842624
  none : x.A = 0 → x.T = 0
theorem St.Ok.a0 {x : St} (h : x.Ok) : 0 ≤ x.A := by
  have h0 := h.pos 0
  have h1 := h.pos 1
  have h2 := h.pos 2
  have h3 := h.pos 3
  have h4 := h.pos 4
  have h5 := h.pos 5
  unfold St.A; omega
theorem own_cases (o : Int) (h0 : 0 ≤ o) (h6 : o < 6) : o = 0 ∨ o = 1 ∨ o = 2 ∨ o = 3 ∨ o = 4 ∨ o = 5 := by omega
theorem St.Ok.le_all {x : St} (h : x.Ok) (o : Int) : x.s o ≤ x.A := by
  have h0 := h.pos 0
  have h1 := h.pos 1
  have h2 := h.pos 2
  have h3 := h.pos 3
  have h4 := h.pos 4
  have h5 := h.pos 5
  by_cases g : 0 ≤ o ∧ o < 6
  · rcases own_cases o g.1 g.2 with rfl | rfl | rfl | rfl | rfl | rfl <;> (unfold St.A; omega)
  · rw [h.out o (by omega)]; exact h.a0
/-- the value of an owner's shares -/
def St.val (x : St) (o : Int) : Int := if x.A = 0 then 0 else x.s o * x.T / x.A
theorem St.val_none {x : St} (o : Int) (h : x.A = 0) : x.val o = 0 := if_pos h
theorem St.val_some {x : St} (o : Int) (h : 0 < x.A) : x.val o = x.s o * x.T / x.A := if_neg (by omega)
theorem St.Ok.val0 {x : St} (h : x.Ok) (o : Int) : 0 ≤ x.val o := by
  unfold St.val
  split
  · exact Int.le_refl _
  · exact div_nonneg _ _ (Int.mul_nonneg (h.pos o) h.t0) (by have := h.a0; omega)
theorem St.Ok.val1 {x : St} (h : x.Ok) (o : Int) : x.val o ≤ x.T := by
  unfold St.val
  split
  · exact h.t0
  · have := h.a0
    refine div_le _ _ _ (by omega) ?_
    rw [Int.mul_comm x.T]
    exact Int.mul_le_mul_of_nonneg_right (h.le_all o) h.t0

/-- one owner's shares set, and the total -/
def St.set (x : St) (o v T : Int) : St := ⟨T, fun i => if i = o then v else x.s i⟩
theorem St.set_same (x : St) (o v T : Int) : (x.set o v T).s o = v := if_pos rfl
theorem St.set_other (x : St) (o v T i : Int) (h : i ≠ o) : (x.set o v T).s i = x.s i := if_neg h
theorem St.set_T (x : St) (o v T : Int) : (x.set o v T).T = T := rfl
theorem St.set_A (x : St) (o v T : Int) (h0 : 0 ≤ o) (h6 : o < 6) : (x.set o v T).A = x.A - x.s o + v := by
  rcases own_cases o h0 h6 with rfl | rfl | rfl | rfl | rfl | rfl <;> (simp [St.A, St.set] <;> omega)
theorem St.Ok.set {x : St} (h : x.Ok) (o v T : Int) (h0 : 0 ≤ o) (h6 : o < 6) (v0 : 0 ≤ v) (T0 : 0 ≤ T) (T1 : T ≤ 1125899906842624) (a1 : x.A - x.s o + v ≤ 1125899906842624) (hn : x.A - x.s o + v = 0 → T = 0) : (x.set o v T).Ok where
  t0 := T0
  t1 := T1
  pos := fun i => by
    by_cases e : i = o
    · subst e; rw [St.set_same]; exact v0
    · rw [St.set_other _ _ _ _ _ e]; exact h.pos i
  out := fun i hi => by rw [St.set_other _ _ _ _ _ (by omega)]; exact h.out i hi
  a1 := by rw [St.set_A _ _ _ _ h0 h6]; exact a1
  none := by rw [St.set_A _ _ _ _ h0 h6]; exact hn

/-- an owner, and a right number -/
abbrev Act1 (o n : Int) : Prop := 0 ≤ o ∧ o < 6 ∧ 1 ≤ n ∧ n ≤ 1125899906842624

/-- what comes of joining: shares, an error's number, the pool -/
def St.joinK (x : St) (n : Int) : Int := if x.A = 0 then n else n * x.A / x.T
def St.joinC (x : St) (o n : Int) : Int :=
  if ¬ Act1 o n then 2 else if 0 < x.A ∧ x.T = 0 then 8 else if 1125899906842624 < x.joinK n ∨ 1125899906842624 < x.T + n ∨ 1125899906842624 < x.A + x.joinK n then 2 else if x.joinK n = 0 then 7 else 0
def St.join (x : St) (o n : Int) : St := if x.joinC o n = 0 then x.set o (x.s o + x.joinK n) (x.T + n) else x
/-- of taking -/
def St.takeK (x : St) (n : Int) : Int := upQ (n * x.A) x.T
def St.takeC (x : St) (o n : Int) : Int :=
  if ¬ Act1 o n then 2 else if x.val o < n then 6 else if x.takeK n = x.A ∧ n < x.T then 6 else 0
def St.take (x : St) (o n : Int) : St := if x.takeC o n = 0 then x.set o (x.s o - x.takeK n) (x.T - n) else x
/-- of leaving -/
def St.leaveC (x : St) (o : Int) : Int := if ¬ (0 ≤ o ∧ o < 6) then 2 else if x.s o = 0 then 4 else 0
def St.leaveN (x : St) (o : Int) : Int := if x.leaveC o = 0 then x.val o else 0
def St.leave (x : St) (o : Int) : St := if x.leaveC o = 0 then x.set o 0 (x.T - x.val o) else x
/-- of adding -/
def St.addC (x : St) (n : Int) : Int := if ¬ (0 ≤ n ∧ n ≤ 1125899906842624) then 2 else if x.A = 0 then 4 else if 1125899906842624 < x.T + n then 2 else 0
def St.add (x : St) (n : Int) : St := if x.addC n = 0 then ⟨x.T + n, x.s⟩ else x
/-- of slashing -/
def St.slashC (_ : St) (p : Int) : Int := if ¬ (0 ≤ p ∧ p ≤ 100) then 2 else 0
def St.slashN (x : St) (p : Int) : Int := if 0 ≤ p ∧ p ≤ 100 then x.T * p / 100 else 0
def St.slash (x : St) (p : Int) : St := ⟨x.T - x.slashN p, x.s⟩

/-! joining -/
theorem St.joinC_zero {x : St} {o n : Int} (h : x.joinC o n = 0) : Act1 o n ∧ (0 < x.A → x.T ≠ 0) ∧ x.joinK n ≤ 1125899906842624 ∧ x.T + n ≤ 1125899906842624 ∧ x.A + x.joinK n ≤ 1125899906842624 ∧ x.joinK n ≠ 0 := by
  unfold St.joinC at h
  by_cases h1 : Act1 o n
  · rw [if_neg (not_not_intro h1)] at h
    by_cases h2 : 0 < x.A ∧ x.T = 0
    · rw [if_pos h2] at h; omega
    · rw [if_neg h2] at h
      by_cases h3 : 1125899906842624 < x.joinK n ∨ 1125899906842624 < x.T + n ∨ 1125899906842624 < x.A + x.joinK n
      · rw [if_pos h3] at h; omega
      · rw [if_neg h3] at h
        by_cases h4 : x.joinK n = 0
        · rw [if_pos h4] at h; omega
        · exact ⟨h1, fun g e => h2 ⟨g, e⟩, by omega, by omega, by omega, h4⟩
  · rw [if_pos h1] at h; omega
theorem St.Ok.joinK0 {x : St} (h : x.Ok) {n : Int} (hn : 0 ≤ n) : 0 ≤ x.joinK n := by
  unfold St.joinK
  split
  · exact hn
  · exact Int.ediv_nonneg (Int.mul_nonneg hn h.a0) h.t0
theorem St.Ok.join {x : St} (h : x.Ok) (o n : Int) : (x.join o n).Ok := by
  unfold St.join
  split
  · rename_i hc
    obtain ⟨⟨o0, o6, n1, nM⟩, _, k1, t1, a1, k0⟩ := St.joinC_zero hc
    have hk := h.joinK0 (n := n) (by omega)
    have := h.pos o
    have := h.le_all o
    have := h.t0
    exact h.set o _ _ o0 o6 (by omega) (by omega) t1 (by omega) (by omega)
  · exact h

/-! taking -/
theorem St.takeC_zero {x : St} {o n : Int} (h : x.takeC o n = 0) : Act1 o n ∧ n ≤ x.val o ∧ (x.takeK n = x.A → x.T ≤ n) := by
  unfold St.takeC at h
  by_cases h1 : Act1 o n
  · rw [if_neg (not_not_intro h1)] at h
    by_cases h2 : x.val o < n
    · rw [if_pos h2] at h; omega
    · rw [if_neg h2] at h
      by_cases h3 : x.takeK n = x.A ∧ n < x.T
      · rw [if_pos h3] at h; omega
      · exact ⟨h1, by omega, fun e => by
          rcases Int.lt_or_le n x.T with g | g
          · exact absurd ⟨e, g⟩ h3
          · exact g⟩
  · rw [if_pos h1] at h; omega
/-- who takes no more than its value: there are shares, a total, and its shares are enough -/
theorem St.Ok.take_in {x : St} (h : x.Ok) {o n : Int} (n1 : 1 ≤ n) (hv : n ≤ x.val o) : 0 < x.A ∧ 0 < x.T ∧ n ≤ x.T ∧ 0 ≤ x.takeK n ∧ x.takeK n ≤ x.s o ∧ n * x.A ≤ x.takeK n * x.T := by
  have hv1 := h.val1 o
  have hT : 0 < x.T := by omega
  have hA : 0 < x.A := by
    have := h.a0
    rcases Int.lt_or_eq_of_le this with g | g
    · exact g
    · rw [St.val_none o g.symm] at hv; omega
  rw [St.val_some o hA] at hv
  have g1 : n * x.A ≤ x.s o * x.T := Int.le_trans (Int.mul_le_mul_of_nonneg_right hv (by omega)) (div_mul_le _ _ hA)
  exact ⟨hA, hT, by rw [St.val_some o hA] at hv1; omega, upQ_nonneg _ _ (Int.mul_nonneg (by omega) (by omega)) hT, upQ_le _ _ _ hT g1, upQ_ge _ _ hT⟩
theorem St.Ok.take {x : St} (h : x.Ok) (o n : Int) : (x.take o n).Ok := by
  unfold St.take
  split
  · rename_i hc
    obtain ⟨⟨o0, o6, n1, nM⟩, hv, hall⟩ := St.takeC_zero hc
    obtain ⟨hA, hT, hnT, k0, k1, _⟩ := h.take_in n1 hv
    have := h.t1
    have := h.a1
    have := h.le_all o
    refine h.set o _ _ o0 o6 (by omega) (by omega) (by omega) (by omega) (fun e => ?_)
    have := hall (by omega)
    omega
  · exact h

/-! leaving -/
theorem St.leaveC_zero {x : St} {o : Int} (h : x.leaveC o = 0) : 0 ≤ o ∧ o < 6 ∧ x.s o ≠ 0 := by
  unfold St.leaveC at h
  by_cases h1 : 0 ≤ o ∧ o < 6
  · rw [if_neg (not_not_intro h1)] at h
    by_cases h2 : x.s o = 0
    · rw [if_pos h2] at h; omega
    · exact ⟨h1.1, h1.2, h2⟩
  · rw [if_pos h1] at h; omega
theorem St.Ok.leave {x : St} (h : x.Ok) (o : Int) : (x.leave o).Ok := by
  unfold St.leave
  split
  · rename_i hc
    obtain ⟨o0, o6, hs⟩ := St.leaveC_zero hc
    have v0 := h.val0 o
    have v1 := h.val1 o
    have := h.t1
    have := h.a1
    have hp := h.pos o
    have hl := h.le_all o
    refine h.set o _ _ o0 o6 (by omega) (by omega) (by omega) (by omega) (fun e => ?_)
    have e1 : x.s o = x.A := by omega
    have e2 : x.val o = x.T := by
      rw [St.val_some o (by omega), e1, Int.mul_ediv_cancel_left _ (by omega)]
    omega
  · exact h

/-! adding and slashing -/
theorem St.addC_zero {x : St} {n : Int} (h : x.addC n = 0) : 0 ≤ n ∧ n ≤ 1125899906842624 ∧ x.A ≠ 0 ∧ x.T + n ≤ 1125899906842624 := by
  unfold St.addC at h
  by_cases h1 : 0 ≤ n ∧ n ≤ 1125899906842624
  · rw [if_neg (not_not_intro h1)] at h
    by_cases h2 : x.A = 0
    · rw [if_pos h2] at h; omega
    · rw [if_neg h2] at h
      by_cases h3 : 1125899906842624 < x.T + n
      · rw [if_pos h3] at h; omega
      · exact ⟨h1.1, h1.2, h2, by omega⟩
  · rw [if_pos h1] at h; omega
theorem St.Ok.add {x : St} (h : x.Ok) (n : Int) : (x.add n).Ok := by
  unfold St.add
  split
  · rename_i hc
    obtain ⟨n0, n1, ha, ht⟩ := St.addC_zero hc
    have := h.t0
    exact ⟨by show 0 ≤ x.T + n; omega, ht, h.pos, h.out, h.a1, fun e => absurd e ha⟩
  · exact h
theorem St.Ok.slashN_bd {x : St} (h : x.Ok) (p : Int) : 0 ≤ x.slashN p ∧ x.slashN p ≤ x.T := by
  unfold St.slashN
  split
  · rename_i hp
    refine ⟨div_nonneg _ _ (Int.mul_nonneg h.t0 hp.1) (by omega), div_le _ _ _ (by omega) ?_⟩
    exact Int.mul_le_mul_of_nonneg_left hp.2 h.t0
  · exact ⟨Int.le_refl _, h.t0⟩
theorem St.Ok.slash {x : St} (h : x.Ok) (p : Int) : (x.slash p).Ok := by
  have hb := h.slashN_bd p
  have h1 := h.t1
  refine ⟨by show 0 ≤ x.T - x.slashN p; omega, by show x.T - x.slashN p ≤ _; omega, h.pos, h.out, h.a1, fun e => ?_⟩
  have := h.none e
  show x.T - x.slashN p = 0
  omega

/-! the acts, case by case -/
theorem St.joinC_bad {x : St} {o n : Int} (h : ¬ Act1 o n) : x.joinC o n = 2 := if_pos h
theorem St.joinC_gone {x : St} {o n : Int} (h : Act1 o n) (h1 : 0 < x.A) (h2 : x.T = 0) : x.joinC o n = 8 := by
  unfold St.joinC; rw [if_neg (not_not_intro h), if_pos ⟨h1, h2⟩]
theorem St.joinC_over {x : St} {o n : Int} (h : Act1 o n) (h1 : ¬ (0 < x.A ∧ x.T = 0)) (h2 : 1125899906842624 < x.joinK n ∨ 1125899906842624 < x.T + n ∨ 1125899906842624 < x.A + x.joinK n) : x.joinC o n = 2 := by
  unfold St.joinC; rw [if_neg (not_not_intro h), if_neg h1, if_pos h2]
theorem St.joinC_small {x : St} {o n : Int} (h : Act1 o n) (h1 : ¬ (0 < x.A ∧ x.T = 0)) (h3 : x.T + n ≤ 1125899906842624) (h4 : x.A + x.joinK n ≤ 1125899906842624) (h5 : x.joinK n = 0) : x.joinC o n = 7 := by
  unfold St.joinC; rw [if_neg (not_not_intro h), if_neg h1, if_neg (by omega), if_pos h5]
theorem St.joinC_fine {x : St} {o n : Int} (h : Act1 o n) (h1 : ¬ (0 < x.A ∧ x.T = 0)) (h2 : x.joinK n ≤ 1125899906842624) (h3 : x.T + n ≤ 1125899906842624) (h4 : x.A + x.joinK n ≤ 1125899906842624) (h5 : ¬ x.joinK n = 0) : x.joinC o n = 0 := by
  unfold St.joinC; rw [if_neg (not_not_intro h), if_neg h1, if_neg (by omega), if_neg h5]
theorem St.joinK_none {x : St} {n : Int} (h : x.A = 0) : x.joinK n = n := if_pos h
theorem St.joinK_some {x : St} {n : Int} (h : ¬ x.A = 0) : x.joinK n = n * x.A / x.T := if_neg h
theorem St.join_no {x : St} {o n c : Int} (h : x.joinC o n = c) (hc : c ≠ 0) : x.join o n = x := if_neg (by omega)
theorem St.join_yes {x : St} {o n : Int} (h : x.joinC o n = 0) : x.join o n = x.set o (x.s o + x.joinK n) (x.T + n) := if_pos h
theorem St.takeC_bad {x : St} {o n : Int} (h : ¬ Act1 o n) : x.takeC o n = 2 := if_pos h
theorem St.takeC_short {x : St} {o n : Int} (h : Act1 o n) (h1 : x.val o < n) : x.takeC o n = 6 := by
  unfold St.takeC; rw [if_neg (not_not_intro h), if_pos h1]
theorem St.takeC_all {x : St} {o n : Int} (h : Act1 o n) (h1 : n ≤ x.val o) (h2 : x.takeK n = x.A) (h3 : n < x.T) : x.takeC o n = 6 := by
  unfold St.takeC; rw [if_neg (not_not_intro h), if_neg (by omega), if_pos ⟨h2, h3⟩]
theorem St.takeC_fine {x : St} {o n : Int} (h : Act1 o n) (h1 : n ≤ x.val o) (h2 : ¬ (x.takeK n = x.A ∧ n < x.T)) : x.takeC o n = 0 := by
  unfold St.takeC; rw [if_neg (not_not_intro h), if_neg (by omega), if_neg h2]
theorem St.take_no {x : St} {o n c : Int} (h : x.takeC o n = c) (hc : c ≠ 0) : x.take o n = x := if_neg (by omega)
theorem St.take_yes {x : St} {o n : Int} (h : x.takeC o n = 0) : x.take o n = x.set o (x.s o - x.takeK n) (x.T - n) := if_pos h
theorem St.leaveC_bad {x : St} {o : Int} (h : ¬ (0 ≤ o ∧ o < 6)) : x.leaveC o = 2 := if_pos h
theorem St.leaveC_none {x : St} {o : Int} (h : 0 ≤ o ∧ o < 6) (h1 : x.s o = 0) : x.leaveC o = 4 := by
  unfold St.leaveC; rw [if_neg (not_not_intro h), if_pos h1]
theorem St.leaveC_fine {x : St} {o : Int} (h : 0 ≤ o ∧ o < 6) (h1 : ¬ x.s o = 0) : x.leaveC o = 0 := by
  unfold St.leaveC; rw [if_neg (not_not_intro h), if_neg h1]
theorem St.leave_no {x : St} {o c : Int} (h : x.leaveC o = c) (hc : c ≠ 0) : x.leave o = x ∧ x.leaveN o = 0 := ⟨if_neg (by omega), if_neg (by omega)⟩
theorem St.leave_yes {x : St} {o : Int} (h : x.leaveC o = 0) : x.leave o = x.set o 0 (x.T - x.val o) ∧ x.leaveN o = x.val o := ⟨if_pos h, if_pos h⟩
theorem St.addC_bad {x : St} {n : Int} (h : ¬ (0 ≤ n ∧ n ≤ 1125899906842624)) : x.addC n = 2 := if_pos h
theorem St.addC_none {x : St} {n : Int} (h : 0 ≤ n ∧ n ≤ 1125899906842624) (h1 : x.A = 0) : x.addC n = 4 := by
  unfold St.addC; rw [if_neg (not_not_intro h), if_pos h1]
theorem St.addC_over {x : St} {n : Int} (h : 0 ≤ n ∧ n ≤ 1125899906842624) (h1 : ¬ x.A = 0) (h2 : 1125899906842624 < x.T + n) : x.addC n = 2 := by
  unfold St.addC; rw [if_neg (not_not_intro h), if_neg h1, if_pos h2]
theorem St.addC_fine {x : St} {n : Int} (h : 0 ≤ n ∧ n ≤ 1125899906842624) (h1 : ¬ x.A = 0) (h2 : x.T + n ≤ 1125899906842624) : x.addC n = 0 := by
  unfold St.addC; rw [if_neg (not_not_intro h), if_neg h1, if_neg (by omega)]
theorem St.add_no {x : St} {n c : Int} (h : x.addC n = c) (hc : c ≠ 0) : x.add n = x := if_neg (by omega)
theorem St.add_yes {x : St} {n : Int} (h : x.addC n = 0) : x.add n = ⟨x.T + n, x.s⟩ := if_pos h
theorem St.slash_no {x : St} {p : Int} (h : ¬ (0 ≤ p ∧ p ≤ 100)) : x.slashC p = 2 ∧ x.slashN p = 0 ∧ x.slash p = x := by
  refine ⟨if_pos h, if_neg h, ?_⟩
  unfold St.slash St.slashN
  rw [if_neg h, Int.sub_zero]
theorem St.slash_yes {x : St} {p : Int} (h : 0 ≤ p ∧ p ≤ 100) : x.slashC p = 0 ∧ x.slashN p = x.T * p / 100 ∧ x.slash p = ⟨x.T - x.T * p / 100, x.s⟩ := by
  refine ⟨if_neg (not_not_intro h), if_pos h, ?_⟩
  unfold St.slash St.slashN
  rw [if_pos h]
end Go.Proofs.YtaihcceobnfmhaaDoor

namespace Go.Proofs.YtaihcceobnfmhaaDoor

/-- a pool that has nothing -/
def e0 : St := ⟨0, fun _ => 0⟩
theorem e0_A : e0.A = 0 := rfl
theorem e0_ok : e0.Ok := ⟨by decide, by decide, fun _ => Int.le_refl _, fun _ _ => rfl, by decide, fun _ => rfl⟩
theorem e0_val (o : Int) : e0.val o = 0 := if_pos rfl
theorem St.eta (x : St) (t : Int) (h : t = x.T) : (⟨t, x.s⟩ : St) = x := by subst h; rfl

/-! sums over keys -/
def sumK (K : List (Int × Int)) (f : Int → Int → Int) : Int := match K with
  | [] => 0
  | k :: l => f k.1 k.2 + sumK l f
theorem sumK_cons (k : Int × Int) (l : List (Int × Int)) (f : Int → Int → Int) : sumK (k :: l) f = f k.1 k.2 + sumK l f := rfl
theorem sumK_append (f : Int → Int → Int) : ∀ (K L : List (Int × Int)), sumK (K ++ L) f = sumK K f + sumK L f
  | [], L => by rw [List.nil_append]; exact (Int.zero_add _).symm
  | k :: l, L => by rw [List.cons_append, sumK_cons, sumK_cons, sumK_append f l L]; omega
theorem sumK_congr {f g : Int → Int → Int} : ∀ (K : List (Int × Int)), (∀ k, k ∈ K → f k.1 k.2 = g k.1 k.2) → sumK K f = sumK K g
  | [], _ => rfl
  | k :: l, h => by rw [sumK_cons, sumK_cons, h k (List.mem_cons_self ..), sumK_congr l (fun j hj => h j (List.mem_cons_of_mem _ hj))]
theorem sumK_add (f g : Int → Int → Int) : ∀ (K : List (Int × Int)), sumK K (fun b c => f b c + g b c) = sumK K f + sumK K g
  | [] => rfl
  | k :: l => by rw [sumK_cons, sumK_cons, sumK_cons, sumK_add f g l]; omega
theorem sumK_nonneg {f : Int → Int → Int} : ∀ (K : List (Int × Int)), (∀ k, k ∈ K → 0 ≤ f k.1 k.2) → 0 ≤ sumK K f
  | [], _ => Int.le_refl _
  | k :: l, h => by
    rw [sumK_cons]
    have := h k (List.mem_cons_self ..)
    have := sumK_nonneg l (fun j hj => h j (List.mem_cons_of_mem _ hj))
    omega
theorem sumK_le {f : Int → Int → Int} {M : Int} : ∀ (K : List (Int × Int)), (∀ k, k ∈ K → f k.1 k.2 ≤ M) → sumK K f ≤ K.length * M
  | [], _ => by rw [List.length_nil]; exact Int.le_of_eq (Int.zero_mul M).symm
  | k :: l, h => by
    rw [sumK_cons, List.length_cons]
    have := h k (List.mem_cons_self ..)
    have := sumK_le l (fun j hj => h j (List.mem_cons_of_mem _ hj))
    have e : ((l.length + 1 : Nat) : Int) * M = l.length * M + M := by rw [Int.natCast_add, Int.add_mul]; simp
    omega
theorem sumK_zero {f : Int → Int → Int} (K : List (Int × Int)) (h : ∀ k, k ∈ K → f k.1 k.2 = 0) : sumK K f = 0 := by
  rw [sumK_congr (g := fun _ _ => 0) K h]
  induction K with
  | nil => rfl
  | cons k l ih => rw [sumK_cons, ih (fun j hj => h j (List.mem_cons_of_mem _ hj))]; rfl
/-- one key's summand changed -/
theorem sumK_one {f g : Int → Int → Int} (b c : Int) : ∀ (K : List (Int × Int)), K.Nodup → (b, c) ∈ K → (∀ k, k ∈ K → k ≠ (b, c) → g k.1 k.2 = f k.1 k.2) → sumK K g = sumK K f - f b c + g b c
  | [], _, h, _ => by cases h
  | k :: l, hn, h, hg => by
    obtain ⟨hk, hl⟩ := List.nodup_cons.1 hn
    rw [sumK_cons, sumK_cons]
    rcases List.mem_cons.1 h with e | e
    · subst e
      rw [sumK_congr (f := g) (g := f) l (fun j hj => hg j (List.mem_cons_of_mem _ hj) (fun e => hk (e ▸ hj)))]
      show g b c + _ = f b c + _ - f b c + g b c
      omega
    · rw [sumK_one b c l hl e (fun j hj ne => hg j (List.mem_cons_of_mem _ hj) ne), hg k (List.mem_cons_self ..) (fun g => hk (g ▸ e))]
      omega

/-! functions set at one place -/
def set1 {α : Type} (f : Int → α) (b : Int) (v : α) : Int → α := fun i => if i = b then v else f i
theorem set1_same {α : Type} (f : Int → α) (b : Int) (v : α) : set1 f b v b = v := if_pos rfl
theorem set1_other {α : Type} (f : Int → α) (b : Int) (v : α) (i : Int) (h : i ≠ b) : set1 f b v i = f i := if_neg h
theorem set1_id {α : Type} (f : Int → α) (b : Int) (v : α) (h : v = f b) : set1 f b v = f := by
  funext i
  by_cases e : i = b
  · subst e; rw [set1_same, h]
  · rw [set1_other _ _ _ _ e]
def set2 {α : Type} (f : Int → Int → α) (b c : Int) (v : α) : Int → Int → α := fun i j => if i = b ∧ j = c then v else f i j
theorem set2_same {α : Type} (f : Int → Int → α) (b c : Int) (v : α) : set2 f b c v b c = v := if_pos ⟨rfl, rfl⟩
theorem set2_other {α : Type} (f : Int → Int → α) (b c : Int) (v : α) (i j : Int) (h : (i, j) ≠ (b, c)) : set2 f b c v i j = f i j := if_neg fun g => h (by rw [g.1, g.2])

/-- stakes: who is registered, bakers' pools, the keys of what waits in their order, and those pools -/
structure Sk where
  R : Int → Bool
  P : Int → St
  K : List (Int × Int)
  W : Int → Int → St
abbrev Bk (b : Int) : Prop := 0 ≤ b ∧ b < 3
abbrev Cy (c : Int) : Prop := 0 ≤ c ∧ c ≤ 1048576
abbrev Ow (o : Int) : Prop := 0 ≤ o ∧ o < 6
structure Sk.Ok (S : Sk) : Prop where
  rin : ∀ b, S.R b = true → Bk b
  pok : ∀ b, (S.P b).Ok
  pout : ∀ b, S.R b = false → S.P b = e0
  wok : ∀ b c, (S.W b c).Ok
  wout : ∀ b c, (b, c) ∉ S.K → S.W b c = e0
  kin : ∀ k, k ∈ S.K → S.R k.1 = true ∧ Cy k.2
  knd : S.K.Nodup
def Sk.none : Sk := ⟨fun _ => false, fun _ => e0, [], fun _ _ => e0⟩
theorem Sk.none_ok : Sk.none.Ok := ⟨fun _ h => (by cases h), fun _ => e0_ok, fun _ _ => rfl, fun _ _ => e0_ok, fun _ _ _ => rfl, fun _ h => (by cases h), List.nodup_nil⟩
/-- all that is in them -/
def Sk.total (S : Sk) : Int := (S.P 0).T + (S.P 1).T + (S.P 2).T + sumK S.K fun b c => (S.W b c).T
theorem Sk.Ok.total_bd {S : Sk} (h : S.Ok) : 0 ≤ S.total ∧ S.total ≤ (3 + S.K.length) * 1125899906842624 := by
  have a0 := h.pok 0
  have a1 := h.pok 1
  have a2 := h.pok 2
  have := a0.t0
  have := a0.t1
  have := a1.t0
  have := a1.t1
  have := a2.t0
  have := a2.t1
  have s0 := sumK_nonneg (f := fun b c => (S.W b c).T) S.K (fun k _ => (h.wok _ _).t0)
  have s1 := sumK_le (f := fun b c => (S.W b c).T) (M := 1125899906842624) S.K (fun k _ => (h.wok _ _).t1)
  unfold Sk.total
  generalize sumK S.K (fun b c => (S.W b c).T) = x at *
  constructor <;> omega

/-! what each act makes -/
def Sk.regC (S : Sk) (b : Int) : Int := if ¬ Bk b then 2 else if S.R b then 5 else 0
def Sk.reg (S : Sk) (b : Int) : Sk := if S.regC b = 0 then ⟨set1 S.R b true, S.P, S.K, S.W⟩ else S
def Sk.joinC (S : Sk) (o b n : Int) : Int := if S.R b then (S.P b).joinC o n else 4
def Sk.join (S : Sk) (o b n : Int) : Sk := if S.R b then ⟨S.R, set1 S.P b ((S.P b).join o n), S.K, S.W⟩ else S
def Sk.leaveC (S : Sk) (o b n c : Int) : Int := if S.R b then (if ¬ Cy c then 2 else if (S.P b).takeC o n ≠ 0 then (S.P b).takeC o n else (S.W b c).joinC o n) else 4
def keyed2 (K : List (Int × Int)) (b c : Int) : List (Int × Int) := if (b, c) ∈ K then K else K ++ [(b, c)]
def Sk.leave (S : Sk) (o b n c : Int) : Sk := if S.leaveC o b n c = 0 then ⟨S.R, set1 S.P b ((S.P b).take o n), keyed2 S.K b c, set2 S.W b c ((S.W b c).join o n)⟩ else S
def Sk.has (S : Sk) (o c : Int) : Bool := S.K.any fun k => decide (k.2 + 2 < c) && decide ((S.W k.1 k.2).leaveC o = 0)
def Sk.freeC (S : Sk) (o c : Int) : Int := if ¬ (Ow o ∧ Cy c) then 2 else if S.has o c then 0 else 4
def Sk.freeN (S : Sk) (o c : Int) : Int := if ¬ (Ow o ∧ Cy c) then 0 else sumK S.K fun b' c' => if c' + 2 < c then (S.W b' c').leaveN o else 0
def Sk.free (S : Sk) (o c : Int) : Sk := if ¬ (Ow o ∧ Cy c) then S else ⟨S.R, S.P, S.K, fun b' c' => if c' + 2 < c then (S.W b' c').leave o else S.W b' c'⟩
def Sk.addC (S : Sk) (b n : Int) : Int := if S.R b then (S.P b).addC n else 4
def Sk.add (S : Sk) (b n : Int) : Sk := if S.R b then ⟨S.R, set1 S.P b ((S.P b).add n), S.K, S.W⟩ else S
def Sk.slashC (S : Sk) (b p : Int) : Int := if S.R b then (if 0 ≤ p ∧ p ≤ 100 then 0 else 2) else 4
def Sk.slashN (S : Sk) (b f p : Int) : Int := if S.slashC b p = 0 then (S.P b).slashN p + sumK S.K (fun b' c' => if b' = b ∧ f ≤ c' then (S.W b' c').slashN p else 0) else 0
def Sk.slash (S : Sk) (b f p : Int) : Sk := if S.slashC b p = 0 then ⟨S.R, set1 S.P b ((S.P b).slash p), S.K, fun b' c' => if b' = b ∧ f ≤ c' then (S.W b' c').slash p else S.W b' c'⟩ else S

/-! small facts -/
theorem e0_leave (o : Int) : e0.leave o = e0 := by
  refine if_neg ?_
  unfold St.leaveC
  split
  · omega
  · rw [if_pos (show e0.s o = 0 from rfl)]; omega
theorem e0_slash (p : Int) : e0.slash p = e0 := by
  refine St.eta e0 _ ?_
  show (0 : Int) - e0.slashN p = 0
  unfold St.slashN
  split
  · show (0 : Int) - 0 * p / 100 = 0
    rw [Int.zero_mul]; decide
  · rfl
theorem keyed2_mem (K : List (Int × Int)) (b c : Int) : (b, c) ∈ keyed2 K b c := by
  unfold keyed2
  split
  · assumption
  · simp
theorem keyed2_old {K : List (Int × Int)} {b c : Int} {k : Int × Int} (h : k ∈ K) : k ∈ keyed2 K b c := by
  unfold keyed2
  split
  · exact h
  · exact List.mem_append.2 (.inl h)
theorem keyed2_cases {K : List (Int × Int)} {b c : Int} {k : Int × Int} (h : k ∈ keyed2 K b c) : k ∈ K ∨ k = (b, c) := by
  unfold keyed2 at h
  split at h
  · exact .inl h
  · rcases List.mem_append.1 h with g | g
    · exact .inl g
    · exact .inr (by simpa using g)
theorem keyed2_nodup {K : List (Int × Int)} {b c : Int} (h : K.Nodup) : (keyed2 K b c).Nodup := by
  unfold keyed2
  split
  · exact h
  · rename_i hn
    refine List.nodup_append.2 ⟨h, by simp, ?_⟩
    intro a ha x hx e
    have : x = (b, c) := by simpa using hx
    exact hn (by rw [← this, ← e]; exact ha)
theorem keyed2_len (K : List (Int × Int)) (b c : Int) : (keyed2 K b c).length ≤ K.length + 1 := by
  unfold keyed2
  split
  · exact Nat.le_succ _
  · rw [List.length_append]; exact Nat.le_refl _

/-! they stay as they should be -/
theorem Sk.Ok.reg {S : Sk} (h : S.Ok) (b : Int) : (S.reg b).Ok := by
  unfold Sk.reg
  split
  · rename_i hc
    unfold Sk.regC at hc
    have hb : Bk b := by
      by_cases g : Bk b
      · exact g
      · rw [if_pos g] at hc; omega
    refine ⟨fun i hi => ?_, h.pok, fun i hi => ?_, h.wok, h.wout, fun k hk => ⟨?_, (h.kin k hk).2⟩, h.knd⟩
    · by_cases e : i = b
      · subst e; exact hb
      · exact h.rin i ((set1_other S.R b true i e).symm.trans hi)
    · by_cases e : i = b
      · subst e
        rw [show (⟨set1 S.R i true, S.P, S.K, S.W⟩ : Sk).R i = true from set1_same ..] at hi
        cases hi
      · exact h.pout i (by rw [show (⟨set1 S.R b true, S.P, S.K, S.W⟩ : Sk).R i = S.R i from set1_other _ _ _ _ e] at hi; exact hi)
    · by_cases e : k.1 = b
      · rw [e]; exact set1_same ..
      · exact (set1_other _ _ _ _ e).trans (h.kin k hk).1
  · exact h
/-- a baker's pool changed -/
theorem Sk.Ok.pool {S : Sk} (h : S.Ok) {b : Int} {x : St} (hr : S.R b = true) (hx : x.Ok) : (⟨S.R, set1 S.P b x, S.K, S.W⟩ : Sk).Ok := by
  refine ⟨h.rin, fun i => ?_, fun i hi => ?_, h.wok, h.wout, h.kin, h.knd⟩
  · by_cases e : i = b
    · subst e; rw [show (⟨S.R, set1 S.P i x, S.K, S.W⟩ : Sk).P i = x from set1_same ..]; exact hx
    · rw [show (⟨S.R, set1 S.P b x, S.K, S.W⟩ : Sk).P i = S.P i from set1_other _ _ _ _ e]; exact h.pok i
  · have e : i ≠ b := fun e => by
      subst e
      rw [show (⟨S.R, set1 S.P i x, S.K, S.W⟩ : Sk).R i = true from hr] at hi
      cases hi
    rw [show (⟨S.R, set1 S.P b x, S.K, S.W⟩ : Sk).P i = S.P i from set1_other _ _ _ _ e]; exact h.pout i hi
/-- what waits changed, each pool by itself, nothing staying so -/
theorem Sk.Ok.waits {S : Sk} (h : S.Ok) {V : Int → Int → St} (hv : ∀ b c, (V b c).Ok) (h0 : ∀ b c, S.W b c = e0 → V b c = e0) : (⟨S.R, S.P, S.K, V⟩ : Sk).Ok :=
  ⟨h.rin, h.pok, h.pout, hv, fun b c hk => h0 b c (h.wout b c hk), h.kin, h.knd⟩
theorem Sk.Ok.join {S : Sk} (h : S.Ok) (o b n : Int) : (S.join o b n).Ok := by
  unfold Sk.join
  split
  · exact h.pool (by assumption) ((h.pok b).join o n)
  · exact h
theorem Sk.Ok.add {S : Sk} (h : S.Ok) (b n : Int) : (S.add b n).Ok := by
  unfold Sk.add
  split
  · exact h.pool (by assumption) ((h.pok b).add n)
  · exact h
theorem Sk.leaveC_zero {S : Sk} {o b n c : Int} (h : S.leaveC o b n c = 0) : S.R b = true ∧ Cy c ∧ (S.P b).takeC o n = 0 ∧ (S.W b c).joinC o n = 0 := by
  unfold Sk.leaveC at h
  by_cases hr : S.R b
  · rw [if_pos hr] at h
    by_cases hc : Cy c
    · rw [if_neg (not_not_intro hc)] at h
      by_cases ht : (S.P b).takeC o n = 0
      · rw [if_neg (not_not_intro ht)] at h
        exact ⟨hr, hc, ht, h⟩
      · rw [if_pos ht] at h; exact absurd h ht
    · rw [if_pos hc] at h; omega
  · rw [if_neg hr] at h; omega
theorem Sk.Ok.leave {S : Sk} (h : S.Ok) (o b n c : Int) : (S.leave o b n c).Ok := by
  unfold Sk.leave
  split
  · rename_i hc
    obtain ⟨hr, hcy, _, _⟩ := Sk.leaveC_zero hc
    have g := h.pool hr ((h.pok b).take o n)
    refine ⟨g.rin, g.pok, g.pout, fun i j => ?_, fun i j hn => ?_, fun k hk => ?_, keyed2_nodup h.knd⟩
    · by_cases e : (i, j) = (b, c)
      · cases e
        show (set2 S.W b c _ b c).Ok
        rw [set2_same]
        exact (h.wok b c).join o n
      · show (set2 S.W b c _ i j).Ok
        rw [set2_other _ _ _ _ _ _ e]
        exact h.wok i j
    · have e : (i, j) ≠ (b, c) := fun e => hn (e ▸ keyed2_mem ..)
      exact (set2_other S.W b c _ i j e).trans (h.wout i j fun g => hn (keyed2_old g))
    · rcases keyed2_cases hk with e | e
      · exact h.kin k e
      · subst e; exact ⟨hr, hcy⟩
  · exact h
theorem Sk.Ok.free {S : Sk} (h : S.Ok) (o c : Int) : (S.free o c).Ok := by
  unfold Sk.free
  split
  · exact h
  · refine h.waits (fun b' c' => ?_) (fun b' c' e => ?_)
    · split
      · exact (h.wok b' c').leave o
      · exact h.wok b' c'
    · split
      · rw [e]; exact e0_leave o
      · exact e
theorem Sk.Ok.slash {S : Sk} (h : S.Ok) (b f p : Int) : (S.slash b f p).Ok := by
  unfold Sk.slash
  split
  · rename_i hc
    have hr : S.R b = true := by
      unfold Sk.slashC at hc
      by_cases g : S.R b
      · exact g
      · rw [if_neg g] at hc; omega
    refine (h.pool hr ((h.pok b).slash p)).waits (fun b' c' => ?_) (fun b' c' e => ?_)
    · split
      · exact (h.wok b' c').slash p
      · exact h.wok b' c'
    · split
      · rw [show S.W b' c' = e0 from e]; exact e0_slash p
      · exact e
  · exact h
theorem freeN_none (S : Sk) (o c : Int) (h : S.has o c = false) : S.freeN o c = 0 := by
  unfold Sk.freeN
  split
  · rfl
  · refine sumK_zero _ fun k hk => ?_
    split
    · rename_i hc
      unfold Sk.has at h
      have := List.any_eq_false.1 h k hk
      refine if_neg fun e => this ?_
      simp [hc, e]
    · rfl
theorem Sk.freeN_err {S : Sk} {o c : Int} (h : S.freeC o c ≠ 0) : S.freeN o c = 0 := by
  unfold Sk.freeC at h
  by_cases hb : Ow o ∧ Cy c
  · rw [if_neg (not_not_intro hb)] at h
    refine freeN_none S o c ?_
    cases g : S.has o c with
    | false => rfl
    | true => rw [g] at h; exact absurd rfl h
  · exact if_pos hb
end Go.Proofs.YtaihcceobnfmhaaDoor

namespace Go.Proofs.YtaihcceobnfmhaaDoor

theorem St.join_T {x : St} {o n : Int} (h : x.joinC o n = 0) : (x.join o n).T = x.T + n := by rw [St.join_yes h]; rfl
theorem St.take_T {x : St} {o n : Int} (h : x.takeC o n = 0) : (x.take o n).T = x.T - n := by rw [St.take_yes h]; rfl
theorem St.add_T {x : St} {n : Int} (h : x.addC n = 0) : (x.add n).T = x.T + n := by rw [St.add_yes h]
theorem St.leave_T (x : St) (o : Int) : (x.leave o).T = x.T - x.leaveN o := by
  by_cases h : x.leaveC o = 0
  · rw [(St.leave_yes h).1, (St.leave_yes h).2]; rfl
  · rw [(St.leave_no rfl h).1, (St.leave_no rfl h).2]; omega
theorem St.slash_T (x : St) (p : Int) : (x.slash p).T = x.T - x.slashN p := rfl
theorem Sk.total_pool {S : Sk} {b : Int} (hb : Bk b) (x : St) : (⟨S.R, set1 S.P b x, S.K, S.W⟩ : Sk).total = S.total - (S.P b).T + x.T := by
  have h : b = 0 ∨ b = 1 ∨ b = 2 := by omega
  unfold Sk.total
  rcases h with rfl | rfl | rfl <;> (simp only [set1]; simp; omega)
theorem Sk.reg_total {S : Sk} (b : Int) : (S.reg b).total = S.total := by
  unfold Sk.reg
  split <;> rfl
theorem Sk.Ok.join_total {S : Sk} (h : S.Ok) {o b n : Int} (hc : S.joinC o b n = 0) : (S.join o b n).total = S.total + n := by
  unfold Sk.joinC at hc
  by_cases hr : S.R b
  · rw [if_pos hr] at hc
    unfold Sk.join
    rw [if_pos hr, Sk.total_pool (h.rin b hr), St.join_T hc]; omega
  · rw [if_neg hr] at hc; omega
theorem Sk.join_same {S : Sk} {o b n : Int} (hc : S.joinC o b n ≠ 0) : S.join o b n = S := by
  unfold Sk.joinC at hc
  unfold Sk.join
  by_cases hr : S.R b
  · rw [if_pos hr] at hc ⊢
    rw [St.join_no rfl hc, set1_id S.P b _ rfl]
  · rw [if_neg hr]
theorem Sk.Ok.add_total {S : Sk} (h : S.Ok) {b n : Int} (hc : S.addC b n = 0) : (S.add b n).total = S.total + n := by
  unfold Sk.addC at hc
  by_cases hr : S.R b
  · rw [if_pos hr] at hc
    unfold Sk.add
    rw [if_pos hr, Sk.total_pool (h.rin b hr), St.add_T hc]; omega
  · rw [if_neg hr] at hc; omega
theorem Sk.add_same {S : Sk} {b n : Int} (hc : S.addC b n ≠ 0) : S.add b n = S := by
  unfold Sk.addC at hc
  unfold Sk.add
  by_cases hr : S.R b
  · rw [if_pos hr] at hc ⊢
    rw [St.add_no rfl hc, set1_id S.P b _ rfl]
  · rw [if_neg hr]
theorem sumK_set2 {K : List (Int × Int)} (hn : K.Nodup) (W : Int → Int → St) (b c : Int) (x : St) (h0 : (b, c) ∉ K → W b c = e0) : sumK (keyed2 K b c) (fun i j => (set2 W b c x i j).T) = sumK K (fun i j => (W i j).T) - (W b c).T + x.T := by
  unfold keyed2
  split
  · rename_i h
    have := sumK_one (f := fun i j => (W i j).T) (g := fun i j => (set2 W b c x i j).T) b c K hn h (fun k _ ne => by
      show (set2 W b c x k.1 k.2).T = _
      rw [set2_other _ _ _ _ _ _ ne])
    rw [this]
    show _ - _ + (set2 W b c x b c).T = _
    rw [set2_same]
  · rename_i h
    rw [sumK_append, sumK_congr (f := fun i j => (set2 W b c x i j).T) (g := fun i j => (W i j).T) K (fun k hk => by
      show (set2 W b c x k.1 k.2).T = _
      rw [set2_other _ _ _ _ _ _ (fun e => h (e ▸ hk))])]
    show _ + ((set2 W b c x b c).T + 0) = _
    rw [set2_same, h0 h]
    show _ + (x.T + 0) = _ - (0 : Int) + x.T
    omega
theorem Sk.Ok.leave_total {S : Sk} (h : S.Ok) (o b n c : Int) : (S.leave o b n c).total = S.total := by
  by_cases hc : S.leaveC o b n c = 0
  · obtain ⟨hr, _, ht, hj⟩ := Sk.leaveC_zero hc
    have e : S.leave o b n c = ⟨S.R, set1 S.P b ((S.P b).take o n), keyed2 S.K b c, set2 S.W b c ((S.W b c).join o n)⟩ := if_pos hc
    have t := Sk.total_pool (S := ⟨S.R, S.P, keyed2 S.K b c, set2 S.W b c ((S.W b c).join o n)⟩) (h.rin b hr) ((S.P b).take o n)
    have u := sumK_set2 h.knd S.W b c ((S.W b c).join o n) (h.wout b c)
    rw [e]
    refine t.trans ?_
    have v : (⟨S.R, S.P, keyed2 S.K b c, set2 S.W b c ((S.W b c).join o n)⟩ : Sk).total = (S.P 0).T + (S.P 1).T + (S.P 2).T + sumK (keyed2 S.K b c) (fun i j => (set2 S.W b c ((S.W b c).join o n) i j).T) := rfl
    rw [v, u, St.join_T hj, St.take_T ht]
    unfold Sk.total
    show _ - (S.P b).T + _ = _
    omega
  · have e : S.leave o b n c = S := if_neg hc
    rw [e]
theorem sumK_split (K : List (Int × Int)) (f f' g : Int → Int → Int) (h : ∀ b c, f' b c = f b c - g b c) : sumK K f' = sumK K f - sumK K g := by
  have := sumK_add f' g K
  rw [sumK_congr (f := fun b c => f' b c + g b c) (g := f) K (fun k _ => by show f' k.1 k.2 + g k.1 k.2 = f k.1 k.2; rw [h]; omega)] at this
  omega
theorem Sk.free_total (S : Sk) (o c : Int) : (S.free o c).total = S.total - S.freeN o c := by
  unfold Sk.free Sk.freeN
  split
  · omega
  · have := sumK_split S.K (fun b' c' => (S.W b' c').T) (fun b' c' => (if c' + 2 < c then (S.W b' c').leave o else S.W b' c').T) (fun b' c' => if c' + 2 < c then (S.W b' c').leaveN o else 0) (fun b' c' => by
      split
      · exact St.leave_T _ _
      · omega)
    unfold Sk.total
    simp only []
    omega
theorem Sk.Ok.freeN_nn {S : Sk} (h : S.Ok) (o c : Int) : 0 ≤ S.freeN o c := by
  unfold Sk.freeN
  split
  · exact Int.le_refl _
  · refine sumK_nonneg _ fun k _ => ?_
    split
    · unfold St.leaveN
      split
      · exact (h.wok _ _).val0 o
      · exact Int.le_refl _
    · exact Int.le_refl _
theorem Sk.Ok.slash_total {S : Sk} (h : S.Ok) (b f p : Int) : (S.slash b f p).total = S.total - S.slashN b f p := by
  unfold Sk.slash Sk.slashN
  by_cases hc : S.slashC b p = 0
  · rw [if_pos hc, if_pos hc]
    have hr : S.R b = true := by
      unfold Sk.slashC at hc
      by_cases g : S.R b
      · exact g
      · rw [if_neg g] at hc; omega
    have t := Sk.total_pool (S := ⟨S.R, S.P, S.K, fun b' c' => if b' = b ∧ f ≤ c' then (S.W b' c').slash p else S.W b' c'⟩) (h.rin b hr) ((S.P b).slash p)
    refine t.trans ?_
    have u := sumK_split S.K (fun b' c' => (S.W b' c').T) (fun b' c' => (if b' = b ∧ f ≤ c' then (S.W b' c').slash p else S.W b' c').T) (fun b' c' => if b' = b ∧ f ≤ c' then (S.W b' c').slashN p else 0) (fun b' c' => by
      split
      · exact St.slash_T _ _
      · omega)
    have v : (⟨S.R, S.P, S.K, fun b' c' => if b' = b ∧ f ≤ c' then (S.W b' c').slash p else S.W b' c'⟩ : Sk).total = (S.P 0).T + (S.P 1).T + (S.P 2).T + sumK S.K (fun b' c' => (if b' = b ∧ f ≤ c' then (S.W b' c').slash p else S.W b' c').T) := rfl
    rw [v, u, St.slash_T]
    unfold Sk.total
    show _ - (S.P b).T + _ = _
    omega
  · rw [if_neg hc, if_neg hc]; omega
theorem Sk.Ok.slashN_nn {S : Sk} (h : S.Ok) (b f p : Int) : 0 ≤ S.slashN b f p := by
  unfold Sk.slashN
  split
  · have := ((h.pok b).slashN_bd p).1
    have := sumK_nonneg (f := fun b' c' => if b' = b ∧ f ≤ c' then (S.W b' c').slashN p else 0) S.K (fun k _ => by
      show 0 ≤ ite _ _ _
      split
      · exact ((h.wok _ _).slashN_bd p).1
      · exact Int.le_refl _)
    omega
  · exact Int.le_refl _
theorem Sk.slashN_err {S : Sk} {b f p : Int} (h : S.slashC b p ≠ 0) : S.slashN b f p = 0 := if_neg h
end Go.Proofs.YtaihcceobnfmhaaDoor

namespace Go.Proofs.YtaihcceobnfmhaaDoor

theorem reg_len (S : Sk) (b : Int) : (S.reg b).K.length ≤ S.K.length + 1 := by unfold Sk.reg; split <;> exact Nat.le_succ _
theorem join_len (S : Sk) (o b n : Int) : (S.join o b n).K.length ≤ S.K.length + 1 := by unfold Sk.join; split <;> exact Nat.le_succ _
theorem leave_len (S : Sk) (o b n c : Int) : (S.leave o b n c).K.length ≤ S.K.length + 1 := by
  unfold Sk.leave
  split
  · exact keyed2_len S.K b c
  · exact Nat.le_succ _
theorem free_len (S : Sk) (o c : Int) : (S.free o c).K.length ≤ S.K.length + 1 := by unfold Sk.free; split <;> exact Nat.le_succ _
theorem add_len (S : Sk) (b n : Int) : (S.add b n).K.length ≤ S.K.length + 1 := by unfold Sk.add; split <;> exact Nat.le_succ _
theorem slash_len (S : Sk) (b f p : Int) : (S.slash b f p).K.length ≤ S.K.length + 1 := by unfold Sk.slash; split <;> exact Nat.le_succ _
end Go.Proofs.YtaihcceobnfmhaaDoor

namespace Go.Proofs.YtaihcceobnfmhaaDoor

/-- a weight of what is staked -/
def wtOf (n : Int) : Int := if n < 100 then 0 else if 1073741824 < n then 1073741824 else n
def Sk.pic (S : Sk) (i : Nat) : Int := wtOf (S.P i).T
end Go.Proofs.YtaihcceobnfmhaaDoor

namespace Go.Proofs.YtaihcceobnfmhaaDoor

/-- evidence: a baker, a cycle, a number -/
abbrev Ev : Type := Int × Int × Int
/-- a case: who brought it, and what -/
abbrev Cs : Type := Int × Ev
structure Ct where
  L : List Cs
  done : Nat
abbrev AccIn (o : Int) (e : Ev) (c : Int) : Prop := (0 ≤ o ∧ o < 6) ∧ (0 ≤ e.1 ∧ e.1 < 3) ∧ 0 ≤ e.2.2 ∧ 0 ≤ c ∧ c ≤ 1048576
abbrev AccNow (e : Ev) (c : Int) : Prop := 0 ≤ e.2.1 ∧ e.2.1 ≤ c ∧ c - 2 ≤ e.2.1
def Ct.seen (x : Ct) (e : Ev) : Bool := x.L.any fun t => decide (t.2 = e)
def Ct.accC (x : Ct) (o : Int) (e : Ev) (c : Int) : Int := if ¬ AccIn o e c then 2 else if ¬ AccNow e c then 10 else if x.seen e then 5 else 0
def Ct.acc (x : Ct) (o : Int) (e : Ev) (c : Int) : Ct := if x.accC o e c = 0 then ⟨x.L ++ [(o, e)], x.done⟩ else x
def Ct.due (x : Ct) : List Cs := x.L.drop x.done
def Ct.asked (x : Ct) : Ct := ⟨x.L, x.L.length⟩
structure Ct.Ok (x : Ct) : Prop where
  le : x.done ≤ x.L.length
  once : (x.L.map (·.2)).Nodup
theorem ct0_ok : (⟨[], 0⟩ : Ct).Ok := ⟨Nat.le_refl _, List.nodup_nil⟩
theorem Ct.seen_iff (x : Ct) (e : Ev) : x.seen e = true ↔ e ∈ x.L.map (·.2) := by
  unfold Ct.seen
  rw [List.any_eq_true, List.mem_map]
  exact ⟨fun ⟨t, h, g⟩ => ⟨t, h, of_decide_eq_true g⟩, fun ⟨t, h, g⟩ => ⟨t, h, decide_eq_true g⟩⟩
theorem Ct.accC_zero {x : Ct} {o : Int} {e : Ev} {c : Int} (h : x.accC o e c = 0) : AccIn o e c ∧ AccNow e c ∧ x.seen e = false := by
  unfold Ct.accC at h
  by_cases h1 : AccIn o e c
  · rw [if_neg (not_not_intro h1)] at h
    by_cases h2 : AccNow e c
    · rw [if_neg (not_not_intro h2)] at h
      cases h3 : x.seen e with
      | false => exact ⟨h1, h2, rfl⟩
      | true => rw [h3] at h; simp at h
    · rw [if_pos h2] at h; omega
  · rw [if_pos h1] at h; omega
theorem Ct.Ok.acc {x : Ct} (h : x.Ok) (o : Int) (e : Ev) (c : Int) : (x.acc o e c).Ok := by
  unfold Ct.acc
  split
  · rename_i hc
    obtain ⟨_, _, hs⟩ := Ct.accC_zero hc
    refine ⟨by show x.done ≤ (x.L ++ [(o, e)]).length; rw [List.length_append]; have := h.le; omega, ?_⟩
    show ((x.L ++ [(o, e)]).map (·.2)).Nodup
    rw [List.map_append]
    refine List.nodup_append.2 ⟨h.once, by simp, fun a ha b hb g => ?_⟩
    have : b = e := by simpa using hb
    subst this
    subst g
    have := (Ct.seen_iff x a).2 ha
    rw [hs] at this
    cases this
  · exact h
theorem Ct.Ok.asked {x : Ct} (h : x.Ok) : x.asked.Ok := ⟨Nat.le_refl _, h.once⟩
/-- what was asked for, and what is due, are all -/
theorem Ct.parts (x : Ct) : x.L.take x.done ++ x.due = x.L := List.take_append_drop _ _
end Go.Proofs.YtaihcceobnfmhaaDoor

namespace Go.Proofs.YtaihcceobnfmhaaDoor

abbrev isAmt (n : Int) : Prop := 0 ≤ n ∧ n ≤ 1125899906842624
abbrev RatioOk (s t : Int) : Prop := isAmt s ∧ 1 ≤ t ∧ t ≤ 1125899906842624 ∧ s ≤ t
def ratioC (s t : Int) : Int := if RatioOk s t then 0 else 2
def ratioN (s t : Int) : Int := if RatioOk s t then s * 1000000 / t else 0
abbrev RateOk (r b : Int) : Prop := (0 ≤ r ∧ r ≤ 1000000) ∧ 0 ≤ b ∧ b ≤ 5000
def rateC (r b : Int) : Int := if RateOk r b then 0 else 2
/-- the bend -/
def bendR (r : Int) : Int := if r < 250000 then 40000 + -20000 * r / 250000 else if r < 500000 then 20000 + -10000 * (r - 250000) / 250000 else if r < 1000000 then 10000 + -5000 * (r - 500000) / 500000 else 5000
def rateN (r b : Int) : Int := if RateOk r b then bendR r + b else 0
def bonusV (b r : Int) : Int := if r < 480000 then (if b + 100 < 5000 then b + 100 else 5000) else if 520000 < r then (if 0 < b - 100 then b - 100 else 0) else b
def bonusN (b r : Int) : Int := if RateOk r b then bonusV b r else 0
abbrev RewardOk (s r : Int) : Prop := isAmt s ∧ 0 ≤ r ∧ r ≤ 1000000
def rewardC (s r : Int) : Int := if RewardOk s r then 0 else 2
def rewardN (s r : Int) : Int := if RewardOk s r then s * r / 1000000 / 4 else 0

theorem bendR_bd {r : Int} (h0 : 0 ≤ r) (h1 : r ≤ 1000000) : 5000 ≤ bendR r ∧ bendR r ≤ 40000 := by
  unfold bendR
  split
  · omega
  · split
    · omega
    · split <;> omega
theorem bendR_falls {a b : Int} (h0 : 0 ≤ a) (h : a ≤ b) (h1 : b ≤ 1000000) : bendR b ≤ bendR a := by
  unfold bendR
  split <;> split <;> (try split) <;> (try split) <;> (try split) <;> (try split) <;> omega
theorem bonusV_bd {b r : Int} (h0 : 0 ≤ b) (h1 : b ≤ 5000) : 0 ≤ bonusV b r ∧ bonusV b r ≤ 5000 := by
  unfold bonusV
  split
  · split <;> omega
  · split
    · split <;> omega
    · omega
theorem bonusV_falls {b r s : Int} (h0 : 0 ≤ b) (h1 : b ≤ 5000) (h : r ≤ s) : bonusV b s ≤ bonusV b r := by
  unfold bonusV
  split <;> split <;> (try split) <;> (try split) <;> (try split) <;> (try split) <;> omega
theorem ratio_bd {s t : Int} (h : RatioOk s t) : 0 ≤ s * 1000000 / t ∧ s * 1000000 / t ≤ 1000000 := by
  obtain ⟨⟨s0, _⟩, t1, _, st⟩ := h
  refine ⟨Int.ediv_nonneg (by omega) (by omega), ?_⟩
  have : s * 1000000 / t ≤ t * 1000000 / t := Int.ediv_le_ediv (by omega) (by omega)
  rw [Int.mul_comm t, Int.mul_ediv_cancel _ (by omega)] at this
  exact this
theorem ratio_mono {s s' t : Int} (t1 : 1 ≤ t) (h : s ≤ s') : s * 1000000 / t ≤ s' * 1000000 / t := Int.ediv_le_ediv (by omega) (by omega)
theorem reward_bd {s r : Int} (h : RewardOk s r) : 0 ≤ s * r / 1000000 ∧ s * r / 1000000 ≤ s := by
  obtain ⟨⟨s0, _⟩, r0, r1⟩ := h
  have g0 : 0 ≤ s * r := Int.mul_nonneg s0 r0
  have g1 : s * r ≤ s * 1000000 := Int.mul_le_mul_of_nonneg_left r1 s0
  omega
theorem reward_part {s r : Int} (s0 : 0 ≤ s) (r0 : 0 ≤ r) (r1 : r ≤ 45000) : s * r / 1000000 / 4 * 4 ≤ s / 20 := by
  have g0 : 0 ≤ s * r := Int.mul_nonneg s0 r0
  have g1 : s * r ≤ s * 45000 := Int.mul_le_mul_of_nonneg_left r1 s0
  omega
end Go.Proofs.YtaihcceobnfmhaaDoor
