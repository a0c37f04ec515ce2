/-
  Pools, plainly: a total and shares of six owners; what each act makes of them, and that nobody's value falls by what others do.
-/
import Derived.Test.YtlhffdmhbplpjaaDoorQuo
namespace Go.Proofs.YtlhffdmhbplpjaaDoor

/-- a pool: its total, and shares by owners -/
structure St where
  T : Int
  s : Int → Int
/-- all shares -/
def St.A (x : St) : Int := x.s 0 + x.s 1 + x.s 2 + x.s 3 + x.s 4 + x.s 5
structure St.Ok (x : St) : Prop where
  t0 : 0 ≤ x.T
  t1 : x.T ≤ 1125899906842624
  pos : ∀ o, 0 ≤ x.s o
  out : ∀ o, (o < 0 ∨ 6 ≤ o) → x.s o = 0
  a1 : x.A ≤ 1125899906842624
  none : x.A = 0 → x.T = 0
theorem St.Ok.a0 {x : St} (h : x.Ok) : 0 ≤ x.A := by
  have h0 := h.pos 0
  have h1 := h.pos 1
  have h2 := h.pos 2
  have h3 := h.pos 3
  have h4 := h.pos 4
  have h5 := h.pos 5
  unfold St.A; omega
theorem own_cases (o : Int) (h0 : 0 ≤ o) (h6 : o < 6) : o = 0 ∨ o = 1 ∨ o = 2 ∨ o = 3 ∨ o = 4 ∨ o = 5 := by omega
theorem St.Ok.le_all {x : St} (h : x.Ok) (o : Int) : x.s o ≤ x.A := by
  have h0 := h.pos 0
  have h1 := h.pos 1
  have h2 := h.pos 2
  have h3 := h.pos 3
  have h4 := h.pos 4
  have h5 := h.pos 5
  by_cases g : 0 ≤ o ∧ o < 6
  · rcases own_cases o g.1 g.2 with rfl | rfl | rfl | rfl | rfl | rfl <;> (unfold St.A; omega)
  · rw [h.out o (by omega)]; exact h.a0
/-- the value of an owner's shares -/
def St.val (x : St) (o : Int) : Int := if x.A = 0 then 0 else x.s o * x.T / x.A
theorem St.val_none {x : St} (o : Int) (h : x.A = 0) : x.val o = 0 := if_pos h
theorem St.val_some {x : St} (o : Int) (h : 0 < x.A) : x.val o = x.s o * x.T / x.A := if_neg (by omega)
theorem St.Ok.val0 {x : St} (h : x.Ok) (o : Int) : 0 ≤ x.val o := by
  unfold St.val
  split
  · exact Int.le_refl _
  · exact div_nonneg _ _ (Int.mul_nonneg (h.pos o) h.t0) (by have := h.a0; omega)
theorem St.Ok.val1 {x : St} (h : x.Ok) (o : Int) : x.val o ≤ x.T := by
  unfold St.val
  split
  · exact h.t0
  · have := h.a0
    refine div_le _ _ _ (by omega) ?_
    rw [Int.mul_comm x.T]
    exact Int.mul_le_mul_of_nonneg_right (h.le_all o) h.t0

/-- one owner's shares set, and the total -/
def St.set (x : St) (o v T : Int) : St := ⟨T, fun i => if i = o then v else x.s i⟩
theorem St.set_same (x : St) (o v T : Int) : (x.set o v T).s o = v := if_pos rfl
theorem St.set_other (x : St) (o v T i : Int) (h : i ≠ o) : (x.set o v T).s i = x.s i := if_neg h
theorem St.set_T (x : St) (o v T : Int) : (x.set o v T).T = T := rfl
theorem St.set_A (x : St) (o v T : Int) (h0 : 0 ≤ o) (h6 : o < 6) : (x.set o v T).A = x.A - x.s o + v := by
  rcases own_cases o h0 h6 with rfl | rfl | rfl | rfl | rfl | rfl <;> (simp [St.A, St.set] <;> omega)
theorem St.Ok.set {x : St} (h : x.Ok) (o v T : Int) (h0 : 0 ≤ o) (h6 : o < 6) (v0 : 0 ≤ v) (T0 : 0 ≤ T) (T1 : T ≤ 1125899906842624) (a1 : x.A - x.s o + v ≤ 1125899906842624) (hn : x.A - x.s o + v = 0 → T = 0) : (x.set o v T).Ok where
  t0 := T0
  t1 := T1
  pos := fun i => by
    by_cases e : i = o
    · subst e; rw [St.set_same]; exact v0
    · rw [St.set_other _ _ _ _ _ e]; exact h.pos i
  out := fun i hi => by rw [St.set_other _ _ _ _ _ (by omega)]; exact h.out i hi
  a1 := by rw [St.set_A _ _ _ _ h0 h6]; exact a1
  none := by rw [St.set_A _ _ _ _ h0 h6]; exact hn

/-- an owner, and a right number -/
abbrev Act1 (o n : Int) : Prop := 0 ≤ o ∧ o < 6 ∧ 1 ≤ n ∧ n ≤ 1125899906842624

/-- what comes of joining: shares, an error's number, the pool -/
def St.joinK (x : St) (n : Int) : Int := if x.A = 0 then n else n * x.A / x.T
def St.joinC (x : St) (o n : Int) : Int :=
  if ¬ Act1 o n then 2 else if 0 < x.A ∧ x.T = 0 then 8 else if 1125899906842624 < x.joinK n ∨ 1125899906842624 < x.T + n ∨ 1125899906842624 < x.A + x.joinK n then 2 else if x.joinK n = 0 then 7 else 0
def St.join (x : St) (o n : Int) : St := if x.joinC o n = 0 then x.set o (x.s o + x.joinK n) (x.T + n) else x
/-- of taking -/
def St.takeK (x : St) (n : Int) : Int := upQ (n * x.A) x.T
def St.takeC (x : St) (o n : Int) : Int :=
  if ¬ Act1 o n then 2 else if x.val o < n then 6 else if x.takeK n = x.A ∧ n < x.T then 6 else 0
def St.take (x : St) (o n : Int) : St := if x.takeC o n = 0 then x.set o (x.s o - x.takeK n) (x.T - n) else x
/-- of leaving -/
def St.leaveC (x : St) (o : Int) : Int := if ¬ (0 ≤ o ∧ o < 6) then 2 else if x.s o = 0 then 4 else 0
def St.leaveN (x : St) (o : Int) : Int := if x.leaveC o = 0 then x.val o else 0
def St.leave (x : St) (o : Int) : St := if x.leaveC o = 0 then x.set o 0 (x.T - x.val o) else x
/-- of adding -/
def St.addC (x : St) (n : Int) : Int := if ¬ (0 ≤ n ∧ n ≤ 1125899906842624) then 2 else if x.A = 0 then 4 else if 1125899906842624 < x.T + n then 2 else 0
def St.add (x : St) (n : Int) : St := if x.addC n = 0 then ⟨x.T + n, x.s⟩ else x
/-- of slashing -/
def St.slashC (_ : St) (p : Int) : Int := if ¬ (0 ≤ p ∧ p ≤ 100) then 2 else 0
def St.slashN (x : St) (p : Int) : Int := if 0 ≤ p ∧ p ≤ 100 then x.T * p / 100 else 0
def St.slash (x : St) (p : Int) : St := ⟨x.T - x.slashN p, x.s⟩

/-! joining -/
theorem St.joinC_zero {x : St} {o n : Int} (h : x.joinC o n = 0) : Act1 o n ∧ (0 < x.A → x.T ≠ 0) ∧ x.joinK n ≤ 1125899906842624 ∧ x.T + n ≤ 1125899906842624 ∧ x.A + x.joinK n ≤ 1125899906842624 ∧ x.joinK n ≠ 0 := by
  unfold St.joinC at h
  by_cases h1 : Act1 o n
  · rw [if_neg (not_not_intro h1)] at h
    by_cases h2 : 0 < x.A ∧ x.T = 0
    · rw [if_pos h2] at h; omega
    · rw [if_neg h2] at h
      by_cases h3 : 1125899906842624 < x.joinK n ∨ 1125899906842624 < x.T + n ∨ 1125899906842624 < x.A + x.joinK n
      · rw [if_pos h3] at h; omega
      · rw [if_neg h3] at h
        by_cases h4 : x.joinK n = 0
        · rw [if_pos h4] at h; omega
        · exact ⟨h1, fun g e => h2 ⟨g, e⟩, by omega, by omega, by omega, h4⟩
  · rw [if_pos h1] at h; omega
theorem St.Ok.joinK0 {x : St} (h : x.Ok) {n : Int} (hn : 0 ≤ n) : 0 ≤ x.joinK n := by
  unfold St.joinK
  split
  · exact hn
  · exact Int.ediv_nonneg (Int.mul_nonneg hn h.a0) h.t0
theorem St.Ok.join {x : St} (h : x.Ok) (o n : Int) : (x.join o n).Ok := by
  unfold St.join
  split
  · rename_i hc
    obtain ⟨⟨o0, o6, n1, nM⟩, _, k1, t1, a1, k0⟩ := St.joinC_zero hc
    have hk := h.joinK0 (n := n) (by omega)
    have := h.pos o
    have := h.le_all o
    have := h.t0
    exact h.set o _ _ o0 o6 (by omega) (by omega) t1 (by omega) (by omega)
  · exact h

/-! taking -/
theorem St.takeC_zero {x : St} {o n : Int} (h : x.takeC o n = 0) : Act1 o n ∧ n ≤ x.val o ∧ (x.takeK n = x.A → x.T ≤ n) := by
  unfold St.takeC at h
  by_cases h1 : Act1 o n
  · rw [if_neg (not_not_intro h1)] at h
    by_cases h2 : x.val o < n
    · rw [if_pos h2] at h; omega
    · rw [if_neg h2] at h
      by_cases h3 : x.takeK n = x.A ∧ n < x.T
      · rw [if_pos h3] at h; omega
      · exact ⟨h1, by omega, fun e => by
          rcases Int.lt_or_le n x.T with g | g
          · exact absurd ⟨e, g⟩ h3
          · exact g⟩
  · rw [if_pos h1] at h; omega
/-- who takes no more than its value: there are shares, a total, and its shares are enough -/
theorem St.Ok.take_in {x : St} (h : x.Ok) {o n : Int} (n1 : 1 ≤ n) (hv : n ≤ x.val o) : 0 < x.A ∧ 0 < x.T ∧ n ≤ x.T ∧ 0 ≤ x.takeK n ∧ x.takeK n ≤ x.s o ∧ n * x.A ≤ x.takeK n * x.T := by
  have hv1 := h.val1 o
  have hT : 0 < x.T := by omega
  have hA : 0 < x.A := by
    have := h.a0
    rcases Int.lt_or_eq_of_le this with g | g
    · exact g
    · rw [St.val_none o g.symm] at hv; omega
  rw [St.val_some o hA] at hv
  have g1 : n * x.A ≤ x.s o * x.T := Int.le_trans (Int.mul_le_mul_of_nonneg_right hv (by omega)) (div_mul_le _ _ hA)
  exact ⟨hA, hT, by rw [St.val_some o hA] at hv1; omega, upQ_nonneg _ _ (Int.mul_nonneg (by omega) (by omega)) hT, upQ_le _ _ _ hT g1, upQ_ge _ _ hT⟩
theorem St.Ok.take {x : St} (h : x.Ok) (o n : Int) : (x.take o n).Ok := by
  unfold St.take
  split
  · rename_i hc
    obtain ⟨⟨o0, o6, n1, nM⟩, hv, hall⟩ := St.takeC_zero hc
    obtain ⟨hA, hT, hnT, k0, k1, _⟩ := h.take_in n1 hv
    have := h.t1
    have := h.a1
    have := h.le_all o
    refine h.set o _ _ o0 o6 (by omega) (by omega) (by omega) (by omega) (fun e => ?_)
    have := hall (by omega)
    omega
  · exact h

/-! leaving -/
theorem St.leaveC_zero {x : St} {o : Int} (h : x.leaveC o = 0) : 0 ≤ o ∧ o < 6 ∧ x.s o ≠ 0 := by
  unfold St.leaveC at h
  by_cases h1 : 0 ≤ o ∧ o < 6
  · rw [if_neg (not_not_intro h1)] at h
    by_cases h2 : x.s o = 0
    · rw [if_pos h2] at h; omega
    · exact ⟨h1.1, h1.2, h2⟩
  · rw [if_pos h1] at h; omega
theorem St.Ok.leave {x : St} (h : x.Ok) (o : Int) : (x.leave o).Ok := by
  unfold St.leave
  split
  · rename_i hc
    obtain ⟨o0, o6, hs⟩ := St.leaveC_zero hc
    have v0 := h.val0 o
    have v1 := h.val1 o
    have := h.t1
    have := h.a1
    have hp := h.pos o
    have hl := h.le_all o
    refine h.set o _ _ o0 o6 (by omega) (by omega) (by omega) (by omega) (fun e => ?_)
    have e1 : x.s o = x.A := by omega
    have e2 : x.val o = x.T := by
      rw [St.val_some o (by omega), e1, Int.mul_ediv_cancel_left _ (by omega)]
    omega
  · exact h

/-! adding and slashing -/
theorem St.addC_zero {x : St} {n : Int} (h : x.addC n = 0) : 0 ≤ n ∧ n ≤ 1125899906842624 ∧ x.A ≠ 0 ∧ x.T + n ≤ 1125899906842624 := by
  unfold St.addC at h
  by_cases h1 : 0 ≤ n ∧ n ≤ 1125899906842624
  · rw [if_neg (not_not_intro h1)] at h
    by_cases h2 : x.A = 0
    · rw [if_pos h2] at h; omega
    · rw [if_neg h2] at h
      by_cases h3 : 1125899906842624 < x.T + n
      · rw [if_pos h3] at h; omega
      · exact ⟨h1.1, h1.2, h2, by omega⟩
  · rw [if_pos h1] at h; omega
theorem St.Ok.add {x : St} (h : x.Ok) (n : Int) : (x.add n).Ok := by
  unfold St.add
  split
  · rename_i hc
    obtain ⟨n0, n1, ha, ht⟩ := St.addC_zero hc
    have := h.t0
    exact ⟨by show 0 ≤ x.T + n; omega, ht, h.pos, h.out, h.a1, fun e => absurd e ha⟩
  · exact h
theorem St.Ok.slashN_bd {x : St} (h : x.Ok) (p : Int) : 0 ≤ x.slashN p ∧ x.slashN p ≤ x.T := by
  unfold St.slashN
  split
  · rename_i hp
    refine ⟨div_nonneg _ _ (Int.mul_nonneg h.t0 hp.1) (by omega), div_le _ _ _ (by omega) ?_⟩
    exact Int.mul_le_mul_of_nonneg_left hp.2 h.t0
  · exact ⟨Int.le_refl _, h.t0⟩
theorem St.Ok.slash {x : St} (h : x.Ok) (p : Int) : (x.slash p).Ok := by
  have hb := h.slashN_bd p
  have h1 := h.t1
  refine ⟨by show 0 ≤ x.T - x.slashN p; omega, by show x.T - x.slashN p ≤ _; omega, h.pos, h.out, h.a1, fun e => ?_⟩
  have := h.none e
  show x.T - x.slashN p = 0
  omega

/-! the acts, case by case -/
theorem St.joinC_bad {x : St} {o n : Int} (h : ¬ Act1 o n) : x.joinC o n = 2 := if_pos h
theorem St.joinC_gone {x : St} {o n : Int} (h : Act1 o n) (h1 : 0 < x.A) (h2 : x.T = 0) : x.joinC o n = 8 := by
  unfold St.joinC; rw [if_neg (not_not_intro h), if_pos ⟨h1, h2⟩]
theorem St.joinC_over {x : St} {o n : Int} (h : Act1 o n) (h1 : ¬ (0 < x.A ∧ x.T = 0)) (h2 : 1125899906842624 < x.joinK n ∨ 1125899906842624 < x.T + n ∨ 1125899906842624 < x.A + x.joinK n) : x.joinC o n = 2 := by
  unfold St.joinC; rw [if_neg (not_not_intro h), if_neg h1, if_pos h2]
theorem St.joinC_small {x : St} {o n : Int} (h : Act1 o n) (h1 : ¬ (0 < x.A ∧ x.T = 0)) (h3 : x.T + n ≤ 1125899906842624) (h4 : x.A + x.joinK n ≤ 1125899906842624) (h5 : x.joinK n = 0) : x.joinC o n = 7 := by
  unfold St.joinC; rw [if_neg (not_not_intro h), if_neg h1, if_neg (by omega), if_pos h5]
theorem St.joinC_fine {x : St} {o n : Int} (h : Act1 o n) (h1 : ¬ (0 < x.A ∧ x.T = 0)) (h2 : x.joinK n ≤ 1125899906842624) (h3 : x.T + n ≤ 1125899906842624) (h4 : x.A + x.joinK n ≤ 1125899906842624) (h5 : ¬ x.joinK n = 0) : x.joinC o n = 0 := by
  unfold St.joinC; rw [if_neg (not_not_intro h), if_neg h1, if_neg (by omega), if_neg h5]
theorem St.joinK_none {x : St} {n : Int} (h : x.A = 0) : x.joinK n = n := if_pos h
theorem St.joinK_some {x : St} {n : Int} (h : ¬ x.A = 0) : x.joinK n = n * x.A / x.T := if_neg h
theorem St.join_no {x : St} {o n c : Int} (h : x.joinC o n = c) (hc : c ≠ 0) : x.join o n = x := if_neg (by omega)
theorem St.join_yes {x : St} {o n : Int} (h : x.joinC o n = 0) : x.join o n = x.set o (x.s o + x.joinK n) (x.T + n) := if_pos h
theorem St.takeC_bad {x : St} {o n : Int} (h : ¬ Act1 o n) : x.takeC o n = 2 := if_pos h
theorem St.takeC_short {x : St} {o n : Int} (h : Act1 o n) (h1 : x.val o < n) : x.takeC o n = 6 := by
  unfold St.takeC; rw [if_neg (not_not_intro h), if_pos h1]
theorem St.takeC_all {x : St} {o n : Int} (h : Act1 o n) (h1 : n ≤ x.val o) (h2 : x.takeK n = x.A) (h3 : n < x.T) : x.takeC o n = 6 := by
  unfold St.takeC; rw [if_neg (not_not_intro h), if_neg (by omega), if_pos ⟨h2, h3⟩]
theorem St.takeC_fine {x : St} {o n : Int} (h : Act1 o n) (h1 : n ≤ x.val o) (h2 : ¬ (x.takeK n = x.A ∧ n < x.T)) : x.takeC o n = 0 := by
  unfold St.takeC; rw [if_neg (not_not_intro h), if_neg (by omega), if_neg h2]
theorem St.take_no {x : St} {o n c : Int} (h : x.takeC o n = c) (hc : c ≠ 0) : x.take o n = x := if_neg (by omega)
theorem St.take_yes {x : St} {o n : Int} (h : x.takeC o n = 0) : x.take o n = x.set o (x.s o - x.takeK n) (x.T - n) := if_pos h
theorem St.leaveC_bad {x : St} {o : Int} (h : ¬ (0 ≤ o ∧ o < 6)) : x.leaveC o = 2 := if_pos h
theorem St.leaveC_none {x : St} {o : Int} (h : 0 ≤ o ∧ o < 6) (h1 : x.s o = 0) : x.leaveC o = 4 := by
  unfold St.leaveC; rw [if_neg (not_not_intro h), if_pos h1]
theorem St.leaveC_fine {x : St} {o : Int} (h : 0 ≤ o ∧ o < 6) (h1 : ¬ x.s o = 0) : x.leaveC o = 0 := by
  unfold St.leaveC; rw [if_neg (not_not_intro h), if_neg h1]
theorem St.leave_no {x : St} {o c : Int} (h : x.leaveC o = c) (hc : c ≠ 0) : x.leave o = x ∧ x.leaveN o = 0 := ⟨if_neg (by omega), if_neg (by omega)⟩
theorem St.leave_yes {x : St} {o : Int} (h : x.leaveC o = 0) : x.leave o = x.set o 0 (x.T - x.val o) ∧ x.leaveN o = x.val o := ⟨if_pos h, if_pos h⟩
theorem St.addC_bad {x : St} {n : Int} (h : ¬ (0 ≤ n ∧ n ≤ 1125899906842624)) : x.addC n = 2 := if_pos h
theorem St.addC_none {x : St} {n : Int} (h : 0 ≤ n ∧ n ≤ 1125899906842624) (h1 : x.A = 0) : x.addC n = 4 := by
  unfold St.addC; rw [if_neg (not_not_intro h), if_pos h1]
theorem St.addC_over {x : St} {n : Int} (h : 0 ≤ n ∧ n ≤ 1125899906842624) (h1 : ¬ x.A = 0) (h2 : 1125899906842624 < x.T + n) : x.addC n = 2 := by
  unfold St.addC; rw [if_neg (not_not_intro h), if_neg h1, if_pos h2]
theorem St.addC_fine {x : St} {n : Int} (h : 0 ≤ n ∧ n ≤ 1125899906842624) (h1 : ¬ x.A = 0) (h2 : x.T + n ≤ 1125899906842624) : x.addC n = 0 := by
  unfold St.addC; rw [if_neg (not_not_intro h), if_neg h1, if_neg (by omega)]
theorem St.add_no {x : St} {n c : Int} (h : x.addC n = c) (hc : c ≠ 0) : x.add n = x := if_neg (by omega)
theorem St.add_yes {x : St} {n : Int} (h : x.addC n = 0) : x.add n = ⟨x.T + n, x.s⟩ := if_pos h
theorem St.slash_no {x : St} {p : Int} (h : ¬ (0 ≤ p ∧ p ≤ 100)) : x.slashC p = 2 ∧ x.slashN p = 0 ∧ x.slash p = x := by
  refine ⟨if_pos h, if_neg h, ?_⟩
  unfold St.slash St.slashN
  rw [if_neg h, Int.sub_zero]
theorem St.slash_yes {x : St} {p : Int} (h : 0 ≤ p ∧ p ≤ 100) : x.slashC p = 0 ∧ x.slashN p = x.T * p / 100 ∧ x.slash p = ⟨x.T - x.T * p / 100, x.s⟩ := by
  refine ⟨if_neg (not_not_intro h), if_pos h, ?_⟩
  unfold St.slash St.slashN
  rw [if_pos h]
end Go.Proofs.YtlhffdmhbplpjaaDoor
