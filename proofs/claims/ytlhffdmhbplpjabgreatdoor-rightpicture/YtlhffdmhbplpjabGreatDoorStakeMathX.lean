/-
  An error's value, by its number.
  Pools, plainly: a total and shares of six owners; what each act makes of them, and that nobody's value falls by what others do.
  The program's pool by its contracts: what it tells.
  Stakes, plainly: a pool for each of three bakers, and pools of what waits by bakers and cycles; what each act makes of them, and what is in all of them together.
-/
import Derived.Test.YtlhffdmhbplpjabGreatDoorQuoX
import Derived.Test.YtlhffdmhbplpjabGreatDoorKeptX
import Derived.Test.YtlhffdmhbplpjabGreatDoorPart
import Derived.Maps.OwnSet
import Derived.Maps.OwnOps
import Derived.Deep.QuietTactic
import Derived.BigQuiet
namespace Go.Proofs.YtlhffdmhbplpjabGreatDoor

/-- an error's value, by its number -/
def ErrIs (A : Nat → Addr) (e : Value) (c : Int) : Prop := (c = 0 ∧ e = .nilIface) ∨ ∃ i : Nat, i < 10 ∧ c = i + 1 ∧ e = sent (A i)
end Go.Proofs.YtlhffdmhbplpjabGreatDoor

namespace Go.Proofs.YtlhffdmhbplpjabGreatDoor

/-- a pool: its total, and shares by owners -/
structure St where
  T : Int
  s : Int → Int
/-- all shares -/
def St.A (x : St) : Int := x.s 0 + x.s 1 + x.s 2 + x.s 3 + x.s 4 + x.s 5
structure St.Ok (x : St) : Prop where
  t0 : 0 ≤ x.T
  t1 : x.T ≤ 1125899906842624
  pos : ∀ o, 0 ≤ x.s o
  out : ∀ o, (o < 0 ∨ 6 ≤ o) → x.s o = 0
  a1 : x.A ≤ 1125899906842624
  none : x.A = 0 → x.T = 0
theorem St.Ok.a0 {x : St} (h : x.Ok) : 0 ≤ x.A := by
  have h0 := h.pos 0
  have h1 := h.pos 1
  have h2 := h.pos 2
  have h3 := h.pos 3
  have h4 := h.pos 4
  have h5 := h.pos 5
  unfold St.A; omega
theorem own_cases (o : Int) (h0 : 0 ≤ o) (h6 : o < 6) : o = 0 ∨ o = 1 ∨ o = 2 ∨ o = 3 ∨ o = 4 ∨ o = 5 := by omega
theorem St.Ok.le_all {x : St} (h : x.Ok) (o : Int) : x.s o ≤ x.A := by
  have h0 := h.pos 0
  have h1 := h.pos 1
  have h2 := h.pos 2
  have h3 := h.pos 3
  have h4 := h.pos 4
  have h5 := h.pos 5
  by_cases g : 0 ≤ o ∧ o < 6
  · rcases own_cases o g.1 g.2 with rfl | rfl | rfl | rfl | rfl | rfl <;> (unfold St.A; omega)
  · rw [h.out o (by omega)]; exact h.a0
/-- the value of an owner's shares -/
def St.val (x : St) (o : Int) : Int := if x.A = 0 then 0 else x.s o * x.T / x.A
theorem St.val_none {x : St} (o : Int) (h : x.A = 0) : x.val o = 0 := if_pos h
theorem St.val_some {x : St} (o : Int) (h : 0 < x.A) : x.val o = x.s o * x.T / x.A := if_neg (by omega)
theorem St.Ok.val0 {x : St} (h : x.Ok) (o : Int) : 0 ≤ x.val o := by
  unfold St.val
  split
  · exact Int.le_refl _
  · exact div_nonneg _ _ (Int.mul_nonneg (h.pos o) h.t0) (by have := h.a0; omega)
theorem St.Ok.val1 {x : St} (h : x.Ok) (o : Int) : x.val o ≤ x.T := by
  unfold St.val
  split
  · exact h.t0
  · have := h.a0
    refine div_le _ _ _ (by omega) ?_
    rw [Int.mul_comm x.T]
    exact Int.mul_le_mul_of_nonneg_right (h.le_all o) h.t0

/-- one owner's shares set, and the total -/
def St.set (x : St) (o v T : Int) : St := ⟨T, fun i => if i = o then v else x.s i⟩
theorem St.set_same (x : St) (o v T : Int) : (x.set o v T).s o = v := if_pos rfl
theorem St.set_other (x : St) (o v T i : Int) (h : i ≠ o) : (x.set o v T).s i = x.s i := if_neg h
theorem St.set_T (x : St) (o v T : Int) : (x.set o v T).T = T := rfl
theorem St.set_A (x : St) (o v T : Int) (h0 : 0 ≤ o) (h6 : o < 6) : (x.set o v T).A = x.A - x.s o + v := by
  rcases own_cases o h0 h6 with rfl | rfl | rfl | rfl | rfl | rfl <;> (simp [St.A, St.set] <;> omega)
theorem St.Ok.set {x : St} (h : x.Ok) (o v T : Int) (h0 : 0 ≤ o) (h6 : o < 6) (v0 : 0 ≤ v) (T0 : 0 ≤ T) (T1 : T ≤ 1125899906842624) (a1 : x.A - x.s o + v ≤ 1125899906842624) (hn : x.A - x.s o + v = 0 → T = 0) : (x.set o v T).Ok where
  t0 := T0
  t1 := T1
  pos := fun i => by
    by_cases e : i = o
    · subst e; rw [St.set_same]; exact v0
    · rw [St.set_other _ _ _ _ _ e]; exact h.pos i
  out := fun i hi => by rw [St.set_other _ _ _ _ _ (by omega)]; exact h.out i hi
  a1 := by rw [St.set_A _ _ _ _ h0 h6]; exact a1
  none := by rw [St.set_A _ _ _ _ h0 h6]; exact hn

/-- an owner, and a right number -/
abbrev Act1 (o n : Int) : Prop := 0 ≤ o ∧ o < 6 ∧ 1 ≤ n ∧ n ≤ 1125899906842624

/-- what comes of joining: shares, an error's number, the pool -/
def St.joinK (x : St) (n : Int) : Int := if x.A = 0 then n else n * x.A / x.T
def St.joinC (x : St) (o n : Int) : Int :=
  if ¬ Act1 o n then 2 else if 0 < x.A ∧ x.T = 0 then 8 else if 1125899906842624 < x.joinK n ∨ 1125899906842624 < x.T + n ∨ 1125899906842624 < x.A + x.joinK n then 2 else if x.joinK n = 0 then 7 else 0
def St.join (x : St) (o n : Int) : St := if x.joinC o n = 0 then x.set o (x.s o + x.joinK n) (x.T + n) else x
/-- of taking -/
def St.takeK (x : St) (n : Int) : Int := upQ (n * x.A) x.T
def St.takeC (x : St) (o n : Int) : Int :=
  if ¬ Act1 o n then 2 else if x.val o < n then 6 else if x.takeK n = x.A ∧ n < x.T then 6 else 0
def St.take (x : St) (o n : Int) : St := if x.takeC o n = 0 then x.set o (x.s o - x.takeK n) (x.T - n) else x
/-- of leaving -/
def St.leaveC (x : St) (o : Int) : Int := if ¬ (0 ≤ o ∧ o < 6) then 2 else if x.s o = 0 then 4 else 0
def St.leaveN (x : St) (o : Int) : Int := if x.leaveC o = 0 then x.val o else 0
def St.leave (x : St) (o : Int) : St := if x.leaveC o = 0 then x.set o 0 (x.T - x.val o) else x
/-- of adding -/
def St.addC (x : St) (n : Int) : Int := if ¬ (0 ≤ n ∧ n ≤ 1125899906842624) then 2 else if x.A = 0 then 4 else if 1125899906842624 < x.T + n then 2 else 0
def St.add (x : St) (n : Int) : St := if x.addC n = 0 then ⟨x.T + n, x.s⟩ else x
/-- of slashing -/
def St.slashC (_ : St) (p : Int) : Int := if ¬ (0 ≤ p ∧ p ≤ 100) then 2 else 0
def St.slashN (x : St) (p : Int) : Int := if 0 ≤ p ∧ p ≤ 100 then x.T * p / 100 else 0
def St.slash (x : St) (p : Int) : St := ⟨x.T - x.slashN p, x.s⟩

/-! joining -/
theorem St.joinC_zero {x : St} {o n : Int} (h : x.joinC o n = 0) : Act1 o n ∧ (0 < x.A → x.T ≠ 0) ∧ x.joinK n ≤ 1125899906842624 ∧ x.T + n ≤ 1125899906842624 ∧ x.A + x.joinK n ≤ 1125899906842624 ∧ x.joinK n ≠ 0 := by
  unfold St.joinC at h
  by_cases h1 : Act1 o n
  · rw [if_neg (not_not_intro h1)] at h
    by_cases h2 : 0 < x.A ∧ x.T = 0
    · rw [if_pos h2] at h; omega
    · rw [if_neg h2] at h
      by_cases h3 : 1125899906842624 < x.joinK n ∨ 1125899906842624 < x.T + n ∨ 1125899906842624 < x.A + x.joinK n
      · rw [if_pos h3] at h; omega
      · rw [if_neg h3] at h
        by_cases h4 : x.joinK n = 0
        · rw [if_pos h4] at h; omega
        · exact ⟨h1, fun g e => h2 ⟨g, e⟩, by omega, by omega, by omega, h4⟩
  · rw [if_pos h1] at h; omega
theorem St.Ok.joinK0 {x : St} (h : x.Ok) {n : Int} (hn : 0 ≤ n) : 0 ≤ x.joinK n := by
  unfold St.joinK
  split
  · exact hn
  · exact Int.ediv_nonneg (Int.mul_nonneg hn h.a0) h.t0
theorem St.Ok.join {x : St} (h : x.Ok) (o n : Int) : (x.join o n).Ok := by
  unfold St.join
  split
  · rename_i hc
    obtain ⟨⟨o0, o6, n1, nM⟩, _, k1, t1, a1, k0⟩ := St.joinC_zero hc
    have hk := h.joinK0 (n := n) (by omega)
    have := h.pos o
    have := h.le_all o
    have := h.t0
    exact h.set o _ _ o0 o6 (by omega) (by omega) t1 (by omega) (by omega)
  · exact h

/-! taking -/
theorem St.takeC_zero {x : St} {o n : Int} (h : x.takeC o n = 0) : Act1 o n ∧ n ≤ x.val o ∧ (x.takeK n = x.A → x.T ≤ n) := by
  unfold St.takeC at h
  by_cases h1 : Act1 o n
  · rw [if_neg (not_not_intro h1)] at h
    by_cases h2 : x.val o < n
    · rw [if_pos h2] at h; omega
    · rw [if_neg h2] at h
      by_cases h3 : x.takeK n = x.A ∧ n < x.T
      · rw [if_pos h3] at h; omega
      · exact ⟨h1, by omega, fun e => by
          rcases Int.lt_or_le n x.T with g | g
          · exact absurd ⟨e, g⟩ h3
          · exact g⟩
  · rw [if_pos h1] at h; omega
/-- who takes no more than its value: there are shares, a total, and its shares are enough -/
theorem St.Ok.take_in {x : St} (h : x.Ok) {o n : Int} (n1 : 1 ≤ n) (hv : n ≤ x.val o) : 0 < x.A ∧ 0 < x.T ∧ n ≤ x.T ∧ 0 ≤ x.takeK n ∧ x.takeK n ≤ x.s o ∧ n * x.A ≤ x.takeK n * x.T := by
  have hv1 := h.val1 o
  have hT : 0 < x.T := by omega
  have hA : 0 < x.A := by
    have := h.a0
    rcases Int.lt_or_eq_of_le this with g | g
    · exact g
    · rw [St.val_none o g.symm] at hv; omega
  rw [St.val_some o hA] at hv
  have g1 : n * x.A ≤ x.s o * x.T := Int.le_trans (Int.mul_le_mul_of_nonneg_right hv (by omega)) (div_mul_le _ _ hA)
  exact ⟨hA, hT, by rw [St.val_some o hA] at hv1; omega, upQ_nonneg _ _ (Int.mul_nonneg (by omega) (by omega)) hT, upQ_le _ _ _ hT g1, upQ_ge _ _ hT⟩
theorem St.Ok.take {x : St} (h : x.Ok) (o n : Int) : (x.take o n).Ok := by
  unfold St.take
  split
  · rename_i hc
    obtain ⟨⟨o0, o6, n1, nM⟩, hv, hall⟩ := St.takeC_zero hc
    obtain ⟨hA, hT, hnT, k0, k1, _⟩ := h.take_in n1 hv
    have := h.t1
    have := h.a1
    have := h.le_all o
    refine h.set o _ _ o0 o6 (by omega) (by omega) (by omega) (by omega) (fun e => ?_)
    have := hall (by omega)
    omega
  · exact h

/-! leaving -/
theorem St.leaveC_zero {x : St} {o : Int} (h : x.leaveC o = 0) : 0 ≤ o ∧ o < 6 ∧ x.s o ≠ 0 := by
  unfold St.leaveC at h
  by_cases h1 : 0 ≤ o ∧ o < 6
  · rw [if_neg (not_not_intro h1)] at h
    by_cases h2 : x.s o = 0
    · rw [if_pos h2] at h; omega
    · exact ⟨h1.1, h1.2, h2⟩
  · rw [if_pos h1] at h; omega
theorem St.Ok.leave {x : St} (h : x.Ok) (o : Int) : (x.leave o).Ok := by
  unfold St.leave
  split
  · rename_i hc
    obtain ⟨o0, o6, hs⟩ := St.leaveC_zero hc
    have v0 := h.val0 o
    have v1 := h.val1 o
    have := h.t1
    have := h.a1
    have hp := h.pos o
    have hl := h.le_all o
    refine h.set o _ _ o0 o6 (by omega) (by omega) (by omega) (by omega) (fun e => ?_)
    have e1 : x.s o = x.A := by omega
    have e2 : x.val o = x.T := by
      rw [St.val_some o (by omega), e1, Int.mul_ediv_cancel_left _ (by omega)]
    omega
  · exact h

/-! adding and slashing -/
theorem St.addC_zero {x : St} {n : Int} (h : x.addC n = 0) : 0 ≤ n ∧ n ≤ 1125899906842624 ∧ x.A ≠ 0 ∧ x.T + n ≤ 1125899906842624 := by
  unfold St.addC at h
  by_cases h1 : 0 ≤ n ∧ n ≤ 1125899906842624
  · rw [if_neg (not_not_intro h1)] at h
    by_cases h2 : x.A = 0
    · rw [if_pos h2] at h; omega
    · rw [if_neg h2] at h
      by_cases h3 : 1125899906842624 < x.T + n
      · rw [if_pos h3] at h; omega
      · exact ⟨h1.1, h1.2, h2, by omega⟩
  · rw [if_pos h1] at h; omega
theorem St.Ok.add {x : St} (h : x.Ok) (n : Int) : (x.add n).Ok := by
  unfold St.add
  split
  · rename_i hc
    obtain ⟨n0, n1, ha, ht⟩ := St.addC_zero hc
    have := h.t0
    exact ⟨by show 0 ≤ x.T + n; omega, ht, h.pos, h.out, h.a1, fun e => absurd e ha⟩
  · exact h
theorem St.Ok.slashN_bd {x : St} (h : x.Ok) (p : Int) : 0 ≤ x.slashN p ∧ x.slashN p ≤ x.T := by
  unfold St.slashN
  split
  · rename_i hp
    refine ⟨div_nonneg _ _ (Int.mul_nonneg h.t0 hp.1) (by omega), div_le _ _ _ (by omega) ?_⟩
    exact Int.mul_le_mul_of_nonneg_left hp.2 h.t0
  · exact ⟨Int.le_refl _, h.t0⟩
theorem St.Ok.slash {x : St} (h : x.Ok) (p : Int) : (x.slash p).Ok := by
  have hb := h.slashN_bd p
  have h1 := h.t1
  refine ⟨by show 0 ≤ x.T - x.slashN p; omega, by show x.T - x.slashN p ≤ _; omega, h.pos, h.out, h.a1, fun e => ?_⟩
  have := h.none e
  show x.T - x.slashN p = 0
  omega

/-! the acts, case by case -/
theorem St.joinC_bad {x : St} {o n : Int} (h : ¬ Act1 o n) : x.joinC o n = 2 := if_pos h
theorem St.joinC_gone {x : St} {o n : Int} (h : Act1 o n) (h1 : 0 < x.A) (h2 : x.T = 0) : x.joinC o n = 8 := by
  unfold St.joinC; rw [if_neg (not_not_intro h), if_pos ⟨h1, h2⟩]
theorem St.joinC_over {x : St} {o n : Int} (h : Act1 o n) (h1 : ¬ (0 < x.A ∧ x.T = 0)) (h2 : 1125899906842624 < x.joinK n ∨ 1125899906842624 < x.T + n ∨ 1125899906842624 < x.A + x.joinK n) : x.joinC o n = 2 := by
  unfold St.joinC; rw [if_neg (not_not_intro h), if_neg h1, if_pos h2]
theorem St.joinC_small {x : St} {o n : Int} (h : Act1 o n) (h1 : ¬ (0 < x.A ∧ x.T = 0)) (h3 : x.T + n ≤ 1125899906842624) (h4 : x.A + x.joinK n ≤ 1125899906842624) (h5 : x.joinK n = 0) : x.joinC o n = 7 := by
  unfold St.joinC; rw [if_neg (not_not_intro h), if_neg h1, if_neg (by omega), if_pos h5]
theorem St.joinC_fine {x : St} {o n : Int} (h : Act1 o n) (h1 : ¬ (0 < x.A ∧ x.T = 0)) (h2 : x.joinK n ≤ 1125899906842624) (h3 : x.T + n ≤ 1125899906842624) (h4 : x.A + x.joinK n ≤ 1125899906842624) (h5 : ¬ x.joinK n = 0) : x.joinC o n = 0 := by
  unfold St.joinC; rw [if_neg (not_not_intro h), if_neg h1, if_neg (by omega), if_neg h5]
theorem St.joinK_none {x : St} {n : Int} (h : x.A = 0) : x.joinK n = n := if_pos h
theorem St.joinK_some {x : St} {n : Int} (h : ¬ x.A = 0) : x.joinK n = n * x.A / x.T := if_neg h
theorem St.join_no {x : St} {o n c : Int} (h : x.joinC o n = c) (hc : c ≠ 0) : x.join o n = x := if_neg (by omega)
theorem St.join_yes {x : St} {o n : Int} (h : x.joinC o n = 0) : x.join o n = x.set o (x.s o + x.joinK n) (x.T + n) := if_pos h
theorem St.takeC_bad {x : St} {o n : Int} (h : ¬ Act1 o n) : x.takeC o n = 2 := if_pos h
theorem St.takeC_short {x : St} {o n : Int} (h : Act1 o n) (h1 : x.val o < n) : x.takeC o n = 6 := by
  unfold St.takeC; rw [if_neg (not_not_intro h), if_pos h1]
theorem St.takeC_all {x : St} {o n : Int} (h : Act1 o n) (h1 : n ≤ x.val o) (h2 : x.takeK n = x.A) (h3 : n < x.T) : x.takeC o n = 6 := by
  unfold St.takeC; rw [if_neg (not_not_intro h), if_neg (by omega), if_pos ⟨h2, h3⟩]
theorem St.takeC_fine {x : St} {o n : Int} (h : Act1 o n) (h1 : n ≤ x.val o) (h2 : ¬ (x.takeK n = x.A ∧ n < x.T)) : x.takeC o n = 0 := by
  unfold St.takeC; rw [if_neg (not_not_intro h), if_neg (by omega), if_neg h2]
theorem St.take_no {x : St} {o n c : Int} (h : x.takeC o n = c) (hc : c ≠ 0) : x.take o n = x := if_neg (by omega)
theorem St.take_yes {x : St} {o n : Int} (h : x.takeC o n = 0) : x.take o n = x.set o (x.s o - x.takeK n) (x.T - n) := if_pos h
theorem St.leaveC_bad {x : St} {o : Int} (h : ¬ (0 ≤ o ∧ o < 6)) : x.leaveC o = 2 := if_pos h
theorem St.leaveC_none {x : St} {o : Int} (h : 0 ≤ o ∧ o < 6) (h1 : x.s o = 0) : x.leaveC o = 4 := by
  unfold St.leaveC; rw [if_neg (not_not_intro h), if_pos h1]
theorem St.leaveC_fine {x : St} {o : Int} (h : 0 ≤ o ∧ o < 6) (h1 : ¬ x.s o = 0) : x.leaveC o = 0 := by
  unfold St.leaveC; rw [if_neg (not_not_intro h), if_neg h1]
theorem St.leave_no {x : St} {o c : Int} (h : x.leaveC o = c) (hc : c ≠ 0) : x.leave o = x ∧ x.leaveN o = 0 := ⟨if_neg (by omega), if_neg (by omega)⟩
theorem St.leave_yes {x : St} {o : Int} (h : x.leaveC o = 0) : x.leave o = x.set o 0 (x.T - x.val o) ∧ x.leaveN o = x.val o := ⟨if_pos h, if_pos h⟩
theorem St.addC_bad {x : St} {n : Int} (h : ¬ (0 ≤ n ∧ n ≤ 1125899906842624)) : x.addC n = 2 := if_pos h
theorem St.addC_none {x : St} {n : Int} (h : 0 ≤ n ∧ n ≤ 1125899906842624) (h1 : x.A = 0) : x.addC n = 4 := by
  unfold St.addC; rw [if_neg (not_not_intro h), if_pos h1]
theorem St.addC_over {x : St} {n : Int} (h : 0 ≤ n ∧ n ≤ 1125899906842624) (h1 : ¬ x.A = 0) (h2 : 1125899906842624 < x.T + n) : x.addC n = 2 := by
  unfold St.addC; rw [if_neg (not_not_intro h), if_neg h1, if_pos h2]
theorem St.addC_fine {x : St} {n : Int} (h : 0 ≤ n ∧ n ≤ 1125899906842624) (h1 : ¬ x.A = 0) (h2 : x.T + n ≤ 1125899906842624) : x.addC n = 0 := by
  unfold St.addC; rw [if_neg (not_not_intro h), if_neg h1, if_neg (by omega)]
theorem St.add_no {x : St} {n c : Int} (h : x.addC n = c) (hc : c ≠ 0) : x.add n = x := if_neg (by omega)
theorem St.add_yes {x : St} {n : Int} (h : x.addC n = 0) : x.add n = ⟨x.T + n, x.s⟩ := if_pos h
theorem St.slash_no {x : St} {p : Int} (h : ¬ (0 ≤ p ∧ p ≤ 100)) : x.slashC p = 2 ∧ x.slashN p = 0 ∧ x.slash p = x := by
  refine ⟨if_pos h, if_neg h, ?_⟩
  unfold St.slash St.slashN
  rw [if_neg h, Int.sub_zero]
theorem St.slash_yes {x : St} {p : Int} (h : 0 ≤ p ∧ p ≤ 100) : x.slashC p = 0 ∧ x.slashN p = x.T * p / 100 ∧ x.slash p = ⟨x.T - x.T * p / 100, x.s⟩ := by
  refine ⟨if_neg (not_not_intro h), if_pos h, ?_⟩
  unfold St.slash St.slashN
  rw [if_pos h]
end Go.Proofs.YtlhffdmhbplpjabGreatDoor

namespace Go.Proofs.YtlhffdmhbplpjabGreatDoor
open Go.RowKit Go.Maps

theorem keyed : Keyed Tryz.prog 3 := int_keyed Tryz.underlying3
theorem zeroInt (w : World) : (zeroValue 3).run Tryz.prog w = .ok (.int .i64 0) w := by kernel_rfl

theorem lit_int {H : Type} {a b : Int} (h : (DataW.lit (.int .i64 a) : DataW H) = .lit (.int .i64 b)) : a = b := by cases h; rfl

/-- what the pool's errors hold -/
structure PoolLaid (w : World) (A : Nat → Addr) (short : Bool) : Prop where
  v1 : w.cell? ⟨0, 0, none⟩ = some (sent (A 1))
  v3 : w.cell? ⟨2, 0, none⟩ = some (sent (A 3))
  v5 : short = true → w.cell? ⟨7, 0, none⟩ = some (sent (A 5))
  v6 : w.cell? ⟨4, 0, none⟩ = some (sent (A 6))
  v7 : w.cell? ⟨3, 0, none⟩ = some (sent (A 7))
theorem PoolLaid.below {w w' : World} {A : Nat → Addr} {s : Bool} (h : PoolLaid w A s) (hB : Below w.heap.size w w') : PoolLaid w' A s :=
  ⟨old_cell hB h.v1, old_cell hB h.v3, fun e => old_cell hB (h.v5 e), old_cell hB h.v6, old_cell hB h.v7⟩
theorem PoolLaid.drewN {w : World} {A : Nat → Addr} {s : Bool} (h : PoolLaid w A s) (n : Nat) : PoolLaid (w.drewN n) A s := h.below (below_drewN (Below.refl _ _) n)

/-- a map that holds so much for each int -/
def OwnS (w : World) (m : Nat) (s : Int → Int) (g : Nat) : Prop := ∃ (n : Nat) (D : DataW Unit), w.ownsMap Tryz.prog 3 (plainElem Tryz.prog 3) m n D ∧ n ≤ g ∧ ∀ o : Int, (Lit.int .i64 o).wf = true → D.atKey (.int .i64 o) (.lit (.int .i64 0)) = .lit (.int .i64 (s o))
theorem OwnS.put {w : World} {m n g : Nat} {D : DataW Unit} {s : Int → Int} {o v : Int} (hm : IsMap D) (h : w.ownsMap Tryz.prog 3 (plainElem Tryz.prog 3) m (n + 1) (D.put (.int .i64 o) (.lit (.int .i64 v)))) (hn : n ≤ g)
    (hat : ∀ o : Int, (Lit.int .i64 o).wf = true → D.atKey (.int .i64 o) (.lit (.int .i64 0)) = .lit (.int .i64 (s o))) (hk : WideAt.IsKeyLit (.int .i64 o)) : OwnS w m (fun i => if i = o then v else s i) (g + 1) := by
  refine ⟨n + 1, _, h, by omega, fun i hi => ?_⟩
  show _ = DataW.lit (.int .i64 (if i = o then v else s i))
  by_cases e : i = o
  · subst e
    rw [atKey_put_same hm hk, if_pos rfl]
  · rw [atKey_put_other (fun g => e (by cases g; rfl)), if_neg e, hat i hi]
theorem OwnS.putDel {w : World} {m n g : Nat} {D d : DataW Unit} {dd : DataW Unit} {s : Int → Int} {o v : Int} (e : D = d.put (.int .i64 o) dd) (h : w.ownsMap Tryz.prog 3 (plainElem Tryz.prog 3) m (n + 1) (D.del (.int .i64 o))) (hn : n ≤ g)
    (hat : ∀ o : Int, (Lit.int .i64 o).wf = true → d.atKey (.int .i64 o) (.lit (.int .i64 0)) = .lit (.int .i64 (s o))) (hv : v = 0) : OwnS w m (fun i => if i = o then v else s i) (g + 1) := by
  refine ⟨n + 1, _, h, by omega, fun i hi => ?_⟩
  show _ = DataW.lit (.int .i64 (if i = o then v else s i))
  by_cases ei : i = o
  · subst ei
    rw [atKey_del_same, if_pos rfl, hv]
  · rw [atKey_del_other (fun g => ei (by cases g; rfl)), e, atKey_put_other (fun g => ei (by cases g; rfl)), if_neg ei, hat i hi]
theorem OwnS.del {w : World} {m n g : Nat} {D : DataW Unit} {s : Int → Int} {o : Int} (h : w.ownsMap Tryz.prog 3 (plainElem Tryz.prog 3) m n (D.del (.int .i64 o))) (hn : n ≤ g)
    (hat : ∀ o : Int, (Lit.int .i64 o).wf = true → D.atKey (.int .i64 o) (.lit (.int .i64 0)) = .lit (.int .i64 (s o))) (hz : s o = 0) : OwnS w m s g := by
  refine ⟨n, _, h, hn, fun i hi => ?_⟩
  by_cases e : i = o
  · subst e
    rw [atKey_del_same, hz]
  · rw [atKey_del_other (fun g => e (by cases g; rfl)), hat i hi]

theorem OwnS.look {w : World} {m g : Nat} {s : Int → Int} (h : OwnS w m s g) (o : Int) (ho : (Lit.int .i64 o).wf = true) : (Instr.lookup 84 (.map (some m)) (.int .i64 o) false).run Tryz.prog w = .ok (.int .i64 (s o)) w := by
  obtain ⟨n, D, hown, hn, hat⟩ := h
  obtain ⟨c, hrun, hc, _⟩ := hown.lookup_int keyed Tryz.underlying84 Tryz.underlying3 (zeroInt _) (keyOf_int_mk Tryz.underlying3 ho)
  rw [lit_int (hc.symm.trans (hat o ho))] at hrun
  exact hrun

/-- the program's pool, as it lies in memory -/
structure PoolAt (w : World) (b m : Nat) (x : St) (g : Nat) : Prop where
  c0 : w.cell? ⟨b, 0, none⟩ = some (.int .i64 x.T)
  c1 : w.cell? ⟨b, 1, none⟩ = some (.int .i64 x.A)
  c2 : w.cell? ⟨b, 2, none⟩ = some (.map (some m))
  f0 : w.frozen? ⟨b, 0, none⟩ = false
  f1 : w.frozen? ⟨b, 1, none⟩ = false
  own : OwnS w m x.s g
  ne : b ≠ m
theorem PoolAt.drewN {w : World} {b m g : Nat} {x : St} (h : PoolAt w b m x g) (n : Nat) : PoolAt (w.drewN n) b m x g := ⟨h.c0, h.c1, h.c2, h.f0, h.f1, h.own, h.ne⟩

theorem PoolAt.kept {w w' : World} {b m g : Nat} {x : St} {X : List Nat} (h : PoolAt w b m x g) (hK : Kept X w w') (hb : b ∉ X) (hm : m ∉ X) : PoolAt w' b m x g where
  c0 := hK.old h.c0 hb
  c1 := hK.old h.c1 hb
  c2 := hK.old h.c2 hb
  f0 := by rw [hK.frozen (cell_lt h.c0) hb]; exact h.f0
  f1 := by rw [hK.frozen (cell_lt h.c1) hb]; exact h.f1
  own := by
    obtain ⟨n, D, ⟨es, clock, hes, F, hs, hD⟩, hn, hat⟩ := h.own
    have hlt : m < w.heap.size := (Array.getElem?_eq_some_iff.1 hes).1
    exact ⟨n, D, ⟨es, clock, (hK.block m hlt hm).trans hes, F, hs, hD⟩, hn, hat⟩
  ne := h.ne
theorem PoolAt.lt {w : World} {b m g : Nat} {x : St} (h : PoolAt w b m x g) : b < w.heap.size ∧ m < w.heap.size := by
  obtain ⟨n, D, hown, _⟩ := h.own
  exact ⟨cell_lt h.c0, hown.lt⟩

theorem PoolAt.more {w : World} {b m g g' : Nat} {x : St} (h : PoolAt w b m x g) (hg : g ≤ g') : PoolAt w b m x g' := by
  obtain ⟨n, D, ho, hn, ha⟩ := h.own
  exact ⟨h.c0, h.c1, h.c2, h.f0, h.f1, ⟨n, D, ho, Nat.le_trans hn hg, ha⟩, h.ne⟩

/-- an owner's shares, looked up -/
theorem PoolAt.look {w : World} {b m g : Nat} {x : St} (h : PoolAt w b m x g) (o : Int) (ho : (Lit.int .i64 o).wf = true) (k : Nat) : (Instr.lookup 84 (.map (some m)) (.int .i64 o) false).run Tryz.prog (w.drewN k) = .ok (.int .i64 (x.s o)) (w.drewN k) := by
  obtain ⟨n, D, hown, hn, hat⟩ := (h.drewN k).own
  obtain ⟨c, hrun, hc, _⟩ := hown.lookup_int keyed Tryz.underlying84 Tryz.underlying3 (zeroInt _) (keyOf_int_mk Tryz.underlying3 ho)
  rw [lit_int (hc.symm.trans (hat o ho))] at hrun
  exact hrun

theorem prog_total (b m g : Nat) (x : St) (w : World) (h : PoolAt w b m x g) :
    Calls Tryz.prog 37 #[.pointer (some ⟨b, 0, none⟩)] w fun e w' => e = .returned (.int .i64 x.T) ∧ w' = w := by
  have c0 := h.c0
  go_enter Tryz.func37, Tryz.ntmps37
  go_wp2
  go_ret
  exact ⟨rfl, rfl⟩
theorem prog_all (b m g : Nat) (x : St) (w : World) (h : PoolAt w b m x g) :
    Calls Tryz.prog 81 #[.pointer (some ⟨b, 0, none⟩)] w fun e w' => e = .returned (.int .i64 x.A) ∧ w' = w := by
  have c1 := h.c1
  go_enter Tryz.func81, Tryz.ntmps81
  go_wp2
  go_ret
  exact ⟨rfl, rfl⟩
/-- what a value's product asks -/
theorem val_amounts' {x : St} (hx : x.Ok) (hA : 0 < x.A) (o : Int) : Amounts (x.s o) x.T x.A ∧ x.s o * x.T / x.A ≤ 1125899906842624 := by
  have h1 := hx.le_all o
  have h2 := hx.a1
  refine ⟨⟨hx.pos o, by omega, hx.t0, hx.t1, by omega, h2⟩, ?_⟩
  have h3 := hx.val1 o
  rw [St.val_some o hA] at h3
  have := hx.t1
  omega

set_option maxRecDepth 100000 in
set_option maxHeartbeats 1000000 in
theorem prog_value (b m g : Nat) (x : St) (hx : x.Ok) (o : Int) (ho : (Lit.int .i64 o).wf = true) (w : World) (h : PoolAt w b m x g) :
    Calls Tryz.prog 39 #[.pointer (some ⟨b, 0, none⟩), .int .i64 o] w fun e w' => e = .returned (.int .i64 (x.val o)) ∧ ∃ n, w' = w.drewN n := by
  have c0 := h.c0
  have c1 := h.c1
  have c2 := h.c2
  by_cases hA : x.A = 0
  · have tA : (x.A == 0) = true := by simp [hA]
    have hv := hide (St.val_none o hA)
    clear hA
    go_enter Tryz.func39, Tryz.ntmps39
    go_wp2
    go_ret
    exact ⟨ret_int hv.out.symm, 0, rfl⟩
  · have tA : (x.A == 0) = false := by simp [hA]
    have hA : 0 < x.A := by have := hx.a0; omega
    have hv := hide (St.val_some o hA)
    obtain ⟨hm, hq⟩ := val_amounts' hx hA o
    have P := down_yes _ _ _ hm hq
    have hrun := h.look o ho
    clear hm hq hA
    go_enter Tryz.func39, Tryz.ntmps39
    go_wp2
    go_quiet ((go_at_call 64; exact Calls.quiet_of (P _)))
    go_wp2
    go_ret
    exact ⟨ret_int hv.out.symm, _, rfl⟩
end Go.Proofs.YtlhffdmhbplpjabGreatDoor

namespace Go.Proofs.YtlhffdmhbplpjabGreatDoor

/-- a pool that has nothing -/
def e0 : St := ⟨0, fun _ => 0⟩
theorem e0_A : e0.A = 0 := rfl
theorem e0_ok : e0.Ok := ⟨by decide, by decide, fun _ => Int.le_refl _, fun _ _ => rfl, by decide, fun _ => rfl⟩
theorem e0_val (o : Int) : e0.val o = 0 := if_pos rfl
theorem St.eta (x : St) (t : Int) (h : t = x.T) : (⟨t, x.s⟩ : St) = x := by subst h; rfl

/-! sums over keys -/
def sumK (K : List (Int × Int)) (f : Int → Int → Int) : Int := match K with
  | [] => 0
  | k :: l => f k.1 k.2 + sumK l f
theorem sumK_cons (k : Int × Int) (l : List (Int × Int)) (f : Int → Int → Int) : sumK (k :: l) f = f k.1 k.2 + sumK l f := rfl
theorem sumK_append (f : Int → Int → Int) : ∀ (K L : List (Int × Int)), sumK (K ++ L) f = sumK K f + sumK L f
  | [], L => by rw [List.nil_append]; exact (Int.zero_add _).symm
  | k :: l, L => by rw [List.cons_append, sumK_cons, sumK_cons, sumK_append f l L]; omega
theorem sumK_congr {f g : Int → Int → Int} : ∀ (K : List (Int × Int)), (∀ k, k ∈ K → f k.1 k.2 = g k.1 k.2) → sumK K f = sumK K g
  | [], _ => rfl
  | k :: l, h => by rw [sumK_cons, sumK_cons, h k (List.mem_cons_self ..), sumK_congr l (fun j hj => h j (List.mem_cons_of_mem _ hj))]
theorem sumK_add (f g : Int → Int → Int) : ∀ (K : List (Int × Int)), sumK K (fun b c => f b c + g b c) = sumK K f + sumK K g
  | [] => rfl
  | k :: l => by rw [sumK_cons, sumK_cons, sumK_cons, sumK_add f g l]; omega
theorem sumK_nonneg {f : Int → Int → Int} : ∀ (K : List (Int × Int)), (∀ k, k ∈ K → 0 ≤ f k.1 k.2) → 0 ≤ sumK K f
  | [], _ => Int.le_refl _
  | k :: l, h => by
    rw [sumK_cons]
    have := h k (List.mem_cons_self ..)
    have := sumK_nonneg l (fun j hj => h j (List.mem_cons_of_mem _ hj))
    omega
theorem sumK_le {f : Int → Int → Int} {M : Int} : ∀ (K : List (Int × Int)), (∀ k, k ∈ K → f k.1 k.2 ≤ M) → sumK K f ≤ K.length * M
  | [], _ => by rw [List.length_nil]; exact Int.le_of_eq (Int.zero_mul M).symm
  | k :: l, h => by
    rw [sumK_cons, List.length_cons]
    have := h k (List.mem_cons_self ..)
    have := sumK_le l (fun j hj => h j (List.mem_cons_of_mem _ hj))
    have e : ((l.length + 1 : Nat) : Int) * M = l.length * M + M := by rw [Int.natCast_add, Int.add_mul]; simp
    omega
theorem sumK_zero {f : Int → Int → Int} (K : List (Int × Int)) (h : ∀ k, k ∈ K → f k.1 k.2 = 0) : sumK K f = 0 := by
  rw [sumK_congr (g := fun _ _ => 0) K h]
  induction K with
  | nil => rfl
  | cons k l ih => rw [sumK_cons, ih (fun j hj => h j (List.mem_cons_of_mem _ hj))]; rfl
/-- one key's summand changed -/
theorem sumK_one {f g : Int → Int → Int} (b c : Int) : ∀ (K : List (Int × Int)), K.Nodup → (b, c) ∈ K → (∀ k, k ∈ K → k ≠ (b, c) → g k.1 k.2 = f k.1 k.2) → sumK K g = sumK K f - f b c + g b c
  | [], _, h, _ => by cases h
  | k :: l, hn, h, hg => by
    obtain ⟨hk, hl⟩ := List.nodup_cons.1 hn
    rw [sumK_cons, sumK_cons]
    rcases List.mem_cons.1 h with e | e
    · subst e
      rw [sumK_congr (f := g) (g := f) l (fun j hj => hg j (List.mem_cons_of_mem _ hj) (fun e => hk (e ▸ hj)))]
      show g b c + _ = f b c + _ - f b c + g b c
      omega
    · rw [sumK_one b c l hl e (fun j hj ne => hg j (List.mem_cons_of_mem _ hj) ne), hg k (List.mem_cons_self ..) (fun g => hk (g ▸ e))]
      omega

/-! functions set at one place -/
def set1 {α : Type} (f : Int → α) (b : Int) (v : α) : Int → α := fun i => if i = b then v else f i
theorem set1_same {α : Type} (f : Int → α) (b : Int) (v : α) : set1 f b v b = v := if_pos rfl
theorem set1_other {α : Type} (f : Int → α) (b : Int) (v : α) (i : Int) (h : i ≠ b) : set1 f b v i = f i := if_neg h
theorem set1_id {α : Type} (f : Int → α) (b : Int) (v : α) (h : v = f b) : set1 f b v = f := by
  funext i
  by_cases e : i = b
  · subst e; rw [set1_same, h]
  · rw [set1_other _ _ _ _ e]
def set2 {α : Type} (f : Int → Int → α) (b c : Int) (v : α) : Int → Int → α := fun i j => if i = b ∧ j = c then v else f i j
theorem set2_same {α : Type} (f : Int → Int → α) (b c : Int) (v : α) : set2 f b c v b c = v := if_pos ⟨rfl, rfl⟩
theorem set2_other {α : Type} (f : Int → Int → α) (b c : Int) (v : α) (i j : Int) (h : (i, j) ≠ (b, c)) : set2 f b c v i j = f i j := if_neg fun g => h (by rw [g.1, g.2])

/-- stakes: who is registered, bakers' pools, the keys of what waits in their order, and those pools -/
structure Sk where
  R : Int → Bool
  P : Int → St
  K : List (Int × Int)
  W : Int → Int → St
abbrev Bk (b : Int) : Prop := 0 ≤ b ∧ b < 3
abbrev Cy (c : Int) : Prop := 0 ≤ c ∧ c ≤ 1048576
abbrev Ow (o : Int) : Prop := 0 ≤ o ∧ o < 6
structure Sk.Ok (S : Sk) : Prop where
  rin : ∀ b, S.R b = true → Bk b
  pok : ∀ b, (S.P b).Ok
  pout : ∀ b, S.R b = false → S.P b = e0
  wok : ∀ b c, (S.W b c).Ok
  wout : ∀ b c, (b, c) ∉ S.K → S.W b c = e0
  kin : ∀ k, k ∈ S.K → S.R k.1 = true ∧ Cy k.2
  knd : S.K.Nodup
def Sk.none : Sk := ⟨fun _ => false, fun _ => e0, [], fun _ _ => e0⟩
theorem Sk.none_ok : Sk.none.Ok := ⟨fun _ h => (by cases h), fun _ => e0_ok, fun _ _ => rfl, fun _ _ => e0_ok, fun _ _ _ => rfl, fun _ h => (by cases h), List.nodup_nil⟩
/-- all that is in them -/
def Sk.total (S : Sk) : Int := (S.P 0).T + (S.P 1).T + (S.P 2).T + sumK S.K fun b c => (S.W b c).T
theorem Sk.Ok.total_bd {S : Sk} (h : S.Ok) : 0 ≤ S.total ∧ S.total ≤ (3 + S.K.length) * 1125899906842624 := by
  have a0 := h.pok 0
  have a1 := h.pok 1
  have a2 := h.pok 2
  have := a0.t0
  have := a0.t1
  have := a1.t0
  have := a1.t1
  have := a2.t0
  have := a2.t1
  have s0 := sumK_nonneg (f := fun b c => (S.W b c).T) S.K (fun k _ => (h.wok _ _).t0)
  have s1 := sumK_le (f := fun b c => (S.W b c).T) (M := 1125899906842624) S.K (fun k _ => (h.wok _ _).t1)
  unfold Sk.total
  generalize sumK S.K (fun b c => (S.W b c).T) = x at *
  constructor <;> omega

/-! what each act makes -/
def Sk.regC (S : Sk) (b : Int) : Int := if ¬ Bk b then 2 else if S.R b then 5 else 0
def Sk.reg (S : Sk) (b : Int) : Sk := if S.regC b = 0 then ⟨set1 S.R b true, S.P, S.K, S.W⟩ else S
def Sk.joinC (S : Sk) (o b n : Int) : Int := if S.R b then (S.P b).joinC o n else 4
def Sk.join (S : Sk) (o b n : Int) : Sk := if S.R b then ⟨S.R, set1 S.P b ((S.P b).join o n), S.K, S.W⟩ else S
def Sk.leaveC (S : Sk) (o b n c : Int) : Int := if S.R b then (if ¬ Cy c then 2 else if (S.P b).takeC o n ≠ 0 then (S.P b).takeC o n else (S.W b c).joinC o n) else 4
def keyed2 (K : List (Int × Int)) (b c : Int) : List (Int × Int) := if (b, c) ∈ K then K else K ++ [(b, c)]
def Sk.leave (S : Sk) (o b n c : Int) : Sk := if S.leaveC o b n c = 0 then ⟨S.R, set1 S.P b ((S.P b).take o n), keyed2 S.K b c, set2 S.W b c ((S.W b c).join o n)⟩ else S
def Sk.has (S : Sk) (o c : Int) : Bool := S.K.any fun k => decide (k.2 + 2 < c) && decide ((S.W k.1 k.2).leaveC o = 0)
def Sk.freeC (S : Sk) (o c : Int) : Int := if ¬ (Ow o ∧ Cy c) then 2 else if S.has o c then 0 else 4
def Sk.freeN (S : Sk) (o c : Int) : Int := if ¬ (Ow o ∧ Cy c) then 0 else sumK S.K fun b' c' => if c' + 2 < c then (S.W b' c').leaveN o else 0
def Sk.free (S : Sk) (o c : Int) : Sk := if ¬ (Ow o ∧ Cy c) then S else ⟨S.R, S.P, S.K, fun b' c' => if c' + 2 < c then (S.W b' c').leave o else S.W b' c'⟩
def Sk.addC (S : Sk) (b n : Int) : Int := if S.R b then (S.P b).addC n else 4
def Sk.add (S : Sk) (b n : Int) : Sk := if S.R b then ⟨S.R, set1 S.P b ((S.P b).add n), S.K, S.W⟩ else S
def Sk.slashC (S : Sk) (b p : Int) : Int := if S.R b then (if 0 ≤ p ∧ p ≤ 100 then 0 else 2) else 4
def Sk.slashN (S : Sk) (b f p : Int) : Int := if S.slashC b p = 0 then (S.P b).slashN p + sumK S.K (fun b' c' => if b' = b ∧ f ≤ c' then (S.W b' c').slashN p else 0) else 0
def Sk.slash (S : Sk) (b f p : Int) : Sk := if S.slashC b p = 0 then ⟨S.R, set1 S.P b ((S.P b).slash p), S.K, fun b' c' => if b' = b ∧ f ≤ c' then (S.W b' c').slash p else S.W b' c'⟩ else S

/-! small facts -/
theorem e0_leave (o : Int) : e0.leave o = e0 := by
  refine if_neg ?_
  unfold St.leaveC
  split
  · omega
  · rw [if_pos (show e0.s o = 0 from rfl)]; omega
theorem e0_slash (p : Int) : e0.slash p = e0 := by
  refine St.eta e0 _ ?_
  show (0 : Int) - e0.slashN p = 0
  unfold St.slashN
  split
  · show (0 : Int) - 0 * p / 100 = 0
    rw [Int.zero_mul]; decide
  · rfl
theorem keyed2_mem (K : List (Int × Int)) (b c : Int) : (b, c) ∈ keyed2 K b c := by
  unfold keyed2
  split
  · assumption
  · simp
theorem keyed2_old {K : List (Int × Int)} {b c : Int} {k : Int × Int} (h : k ∈ K) : k ∈ keyed2 K b c := by
  unfold keyed2
  split
  · exact h
  · exact List.mem_append.2 (.inl h)
theorem keyed2_cases {K : List (Int × Int)} {b c : Int} {k : Int × Int} (h : k ∈ keyed2 K b c) : k ∈ K ∨ k = (b, c) := by
  unfold keyed2 at h
  split at h
  · exact .inl h
  · rcases List.mem_append.1 h with g | g
    · exact .inl g
    · exact .inr (by simpa using g)
theorem keyed2_nodup {K : List (Int × Int)} {b c : Int} (h : K.Nodup) : (keyed2 K b c).Nodup := by
  unfold keyed2
  split
  · exact h
  · rename_i hn
    refine List.nodup_append.2 ⟨h, by simp, ?_⟩
    intro a ha x hx e
    have : x = (b, c) := by simpa using hx
    exact hn (by rw [← this, ← e]; exact ha)
theorem keyed2_len (K : List (Int × Int)) (b c : Int) : (keyed2 K b c).length ≤ K.length + 1 := by
  unfold keyed2
  split
  · exact Nat.le_succ _
  · rw [List.length_append]; exact Nat.le_refl _

/-! they stay as they should be -/
theorem Sk.Ok.reg {S : Sk} (h : S.Ok) (b : Int) : (S.reg b).Ok := by
  unfold Sk.reg
  split
  · rename_i hc
    unfold Sk.regC at hc
    have hb : Bk b := by
      by_cases g : Bk b
      · exact g
      · rw [if_pos g] at hc; omega
    refine ⟨fun i hi => ?_, h.pok, fun i hi => ?_, h.wok, h.wout, fun k hk => ⟨?_, (h.kin k hk).2⟩, h.knd⟩
    · by_cases e : i = b
      · subst e; exact hb
      · exact h.rin i ((set1_other S.R b true i e).symm.trans hi)
    · by_cases e : i = b
      · subst e
        rw [show (⟨set1 S.R i true, S.P, S.K, S.W⟩ : Sk).R i = true from set1_same ..] at hi
        cases hi
      · exact h.pout i (by rw [show (⟨set1 S.R b true, S.P, S.K, S.W⟩ : Sk).R i = S.R i from set1_other _ _ _ _ e] at hi; exact hi)
    · by_cases e : k.1 = b
      · rw [e]; exact set1_same ..
      · exact (set1_other _ _ _ _ e).trans (h.kin k hk).1
  · exact h
/-- a baker's pool changed -/
theorem Sk.Ok.pool {S : Sk} (h : S.Ok) {b : Int} {x : St} (hr : S.R b = true) (hx : x.Ok) : (⟨S.R, set1 S.P b x, S.K, S.W⟩ : Sk).Ok := by
  refine ⟨h.rin, fun i => ?_, fun i hi => ?_, h.wok, h.wout, h.kin, h.knd⟩
  · by_cases e : i = b
    · subst e; rw [show (⟨S.R, set1 S.P i x, S.K, S.W⟩ : Sk).P i = x from set1_same ..]; exact hx
    · rw [show (⟨S.R, set1 S.P b x, S.K, S.W⟩ : Sk).P i = S.P i from set1_other _ _ _ _ e]; exact h.pok i
  · have e : i ≠ b := fun e => by
      subst e
      rw [show (⟨S.R, set1 S.P i x, S.K, S.W⟩ : Sk).R i = true from hr] at hi
      cases hi
    rw [show (⟨S.R, set1 S.P b x, S.K, S.W⟩ : Sk).P i = S.P i from set1_other _ _ _ _ e]; exact h.pout i hi
/-- what waits changed, each pool by itself, nothing staying so -/
theorem Sk.Ok.waits {S : Sk} (h : S.Ok) {V : Int → Int → St} (hv : ∀ b c, (V b c).Ok) (h0 : ∀ b c, S.W b c = e0 → V b c = e0) : (⟨S.R, S.P, S.K, V⟩ : Sk).Ok :=
  ⟨h.rin, h.pok, h.pout, hv, fun b c hk => h0 b c (h.wout b c hk), h.kin, h.knd⟩
theorem Sk.Ok.join {S : Sk} (h : S.Ok) (o b n : Int) : (S.join o b n).Ok := by
  unfold Sk.join
  split
  · exact h.pool (by assumption) ((h.pok b).join o n)
  · exact h
theorem Sk.Ok.add {S : Sk} (h : S.Ok) (b n : Int) : (S.add b n).Ok := by
  unfold Sk.add
  split
  · exact h.pool (by assumption) ((h.pok b).add n)
  · exact h
theorem Sk.leaveC_zero {S : Sk} {o b n c : Int} (h : S.leaveC o b n c = 0) : S.R b = true ∧ Cy c ∧ (S.P b).takeC o n = 0 ∧ (S.W b c).joinC o n = 0 := by
  unfold Sk.leaveC at h
  by_cases hr : S.R b
  · rw [if_pos hr] at h
    by_cases hc : Cy c
    · rw [if_neg (not_not_intro hc)] at h
      by_cases ht : (S.P b).takeC o n = 0
      · rw [if_neg (not_not_intro ht)] at h
        exact ⟨hr, hc, ht, h⟩
      · rw [if_pos ht] at h; exact absurd h ht
    · rw [if_pos hc] at h; omega
  · rw [if_neg hr] at h; omega
theorem Sk.Ok.leave {S : Sk} (h : S.Ok) (o b n c : Int) : (S.leave o b n c).Ok := by
  unfold Sk.leave
  split
  · rename_i hc
    obtain ⟨hr, hcy, _, _⟩ := Sk.leaveC_zero hc
    have g := h.pool hr ((h.pok b).take o n)
    refine ⟨g.rin, g.pok, g.pout, fun i j => ?_, fun i j hn => ?_, fun k hk => ?_, keyed2_nodup h.knd⟩
    · by_cases e : (i, j) = (b, c)
      · cases e
        show (set2 S.W b c _ b c).Ok
        rw [set2_same]
        exact (h.wok b c).join o n
      · show (set2 S.W b c _ i j).Ok
        rw [set2_other _ _ _ _ _ _ e]
        exact h.wok i j
    · have e : (i, j) ≠ (b, c) := fun e => hn (e ▸ keyed2_mem ..)
      exact (set2_other S.W b c _ i j e).trans (h.wout i j fun g => hn (keyed2_old g))
    · rcases keyed2_cases hk with e | e
      · exact h.kin k e
      · subst e; exact ⟨hr, hcy⟩
  · exact h
theorem Sk.Ok.free {S : Sk} (h : S.Ok) (o c : Int) : (S.free o c).Ok := by
  unfold Sk.free
  split
  · exact h
  · refine h.waits (fun b' c' => ?_) (fun b' c' e => ?_)
    · split
      · exact (h.wok b' c').leave o
      · exact h.wok b' c'
    · split
      · rw [e]; exact e0_leave o
      · exact e
theorem Sk.Ok.slash {S : Sk} (h : S.Ok) (b f p : Int) : (S.slash b f p).Ok := by
  unfold Sk.slash
  split
  · rename_i hc
    have hr : S.R b = true := by
      unfold Sk.slashC at hc
      by_cases g : S.R b
      · exact g
      · rw [if_neg g] at hc; omega
    refine (h.pool hr ((h.pok b).slash p)).waits (fun b' c' => ?_) (fun b' c' e => ?_)
    · split
      · exact (h.wok b' c').slash p
      · exact h.wok b' c'
    · split
      · rw [show S.W b' c' = e0 from e]; exact e0_slash p
      · exact e
  · exact h
theorem freeN_none (S : Sk) (o c : Int) (h : S.has o c = false) : S.freeN o c = 0 := by
  unfold Sk.freeN
  split
  · rfl
  · refine sumK_zero _ fun k hk => ?_
    split
    · rename_i hc
      unfold Sk.has at h
      have := List.any_eq_false.1 h k hk
      refine if_neg fun e => this ?_
      simp [hc, e]
    · rfl
theorem Sk.freeN_err {S : Sk} {o c : Int} (h : S.freeC o c ≠ 0) : S.freeN o c = 0 := by
  unfold Sk.freeC at h
  by_cases hb : Ow o ∧ Cy c
  · rw [if_neg (not_not_intro hb)] at h
    refine freeN_none S o c ?_
    cases g : S.has o c with
    | false => rfl
    | true => rw [g] at h; exact absurd rfl h
  · exact if_pos hb
end Go.Proofs.YtlhffdmhbplpjabGreatDoor
