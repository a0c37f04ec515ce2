/-
  Stakes of one baker and one owner, plainly: what is taken out waits, is slashed, and is freed.
-/
import Derived.Test.YtlhffdmhbplpjabDoorStakeTotals
namespace Go.Proofs.YtlhffdmhbplpjabDoor

/-- a pool of which the third owner has all shares -/
def uni (t u : Int) : St := ⟨t, fun i => if i = 2 then u else 0⟩
theorem uni_A (t u : Int) : (uni t u).A = u := by simp [St.A, uni]
theorem uni_s (t u : Int) : (uni t u).s 2 = u := rfl
theorem uni_ok (t u : Int) (h0 : 0 ≤ t) (h1 : t ≤ 1125899906842624) (u0 : 0 ≤ u) (u1 : u ≤ 1125899906842624) (h : u = 0 → t = 0) : (uni t u).Ok where
  t0 := h0
  t1 := h1
  pos := fun o => by show 0 ≤ ite _ _ _; split <;> omega
  out := fun o ho => by show ite _ _ _ = (0 : Int); rw [if_neg (by omega)]
  a1 := by rw [uni_A]; exact u1
  none := by rw [uni_A]; exact h
theorem uni_set (t u v T : Int) : (uni t u).set 2 v T = uni T v := by
  unfold St.set uni
  congr 1
  funext i
  by_cases e : i = 2
  · simp [e]
  · simp [e]
theorem e0_set (v T : Int) : e0.set 2 v T = uni T v := rfl
theorem uni_val (t u : Int) (u0 : 0 < u) : (uni t u).val 2 = t := by
  rw [St.val_some 2 (by rw [uni_A]; exact u0), uni_A, uni_s, Int.mul_comm]
  exact Int.mul_ediv_cancel t (by omega)
theorem e0_join {n : Int} (n1 : 1 ≤ n) (n2 : n ≤ 1099511627776) : e0.joinC 2 n = 0 ∧ e0.join 2 n = uni n n := by
  have hk : e0.joinK n = n := St.joinK_none rfl
  have hc : e0.joinC 2 n = 0 := St.joinC_fine (by omega) (by rw [e0_A]; omega) (by rw [hk]; omega) (by show (0 : Int) + n ≤ _; omega) (by rw [hk, e0_A]; omega) (by rw [hk]; omega)
  refine ⟨hc, ?_⟩
  rw [St.join_yes hc, e0_set, hk]
  show uni ((0 : Int) + n) ((0 : Int) + n) = _
  rw [Int.zero_add]
theorem uni_take {n k : Int} (n1 : 1 ≤ n) (n2 : n ≤ 1099511627776) (k1 : 1 ≤ k) (kn : k ≤ n) : (uni n n).takeC 2 k = 0 ∧ (uni n n).take 2 k = uni (n - k) (n - k) := by
  have hk : (uni n n).takeK k = k := by
    unfold St.takeK
    rw [uni_A]
    show upQ (k * n) n = k
    have e1 : k * n / n = k := Int.mul_ediv_cancel k (by omega)
    have e2 : k * n % n = 0 := Int.mul_emod_left k n
    unfold upQ
    simp [e1, e2]
  have hc : (uni n n).takeC 2 k = 0 := St.takeC_fine (by omega) (by rw [uni_val n n (by omega)]; exact kn) (by rw [hk, uni_A]; show ¬ (k = n ∧ k < n); omega)
  refine ⟨hc, ?_⟩
  rw [St.take_yes hc, uni_set, hk]
  rfl
theorem uni_slash (t u p : Int) : (uni t u).slash p = uni (t - (uni t u).slashN p) u := rfl
theorem uni_leave {t u : Int} (_h0 : 0 ≤ t) (u0 : 0 < u) : (uni t u).leaveC 2 = 0 ∧ (uni t u).leaveN 2 = t ∧ (uni t u).leave 2 = uni 0 0 := by
  have hc : (uni t u).leaveC 2 = 0 := St.leaveC_fine (by omega) (by rw [uni_s]; omega)
  refine ⟨hc, (St.leave_yes hc).2.trans (uni_val t u u0), ?_⟩
  rw [(St.leave_yes hc).1, uni_set, uni_val t u u0]
  show uni (t - t) 0 = uni 0 0
  rw [Int.sub_self]
/-- one baker's pool, and one that waits -/
def wS (P W : St) (c : Int) : Sk := ⟨set1 (fun _ => false) 0 true, set1 (fun _ => e0) 0 P, [(0, c)], set2 (fun _ _ => e0) 0 c W⟩
theorem wS_R (P W : St) (c : Int) : (wS P W c).R 0 = true := rfl
theorem wS_P (P W : St) (c : Int) : (wS P W c).P 0 = P := rfl
theorem wS_W (P W : St) (c : Int) : (wS P W c).W 0 c = W := set2_same (fun _ _ => e0) 0 c W
theorem wS_ok {P W : St} {c : Int} (hP : P.Ok) (hW : W.Ok) (hc : Cy c) : (wS P W c).Ok := by
  refine ⟨fun b hb => ?_, fun b => ?_, fun b hb => ?_, fun b d => ?_, fun b d h => ?_, fun k hk => ?_, by unfold wS; simp⟩
  · by_cases e : b = 0
    · subst e; decide
    · rw [show (wS P W c).R b = false from set1_other (fun _ => false) 0 true b e] at hb; cases hb
  · show (set1 (fun _ => e0) 0 P b).Ok
    by_cases e : b = 0
    · subst e; rw [set1_same]; exact hP
    · rw [set1_other _ _ _ _ e]; exact e0_ok
  · by_cases e : b = 0
    · subst e; cases hb
    · exact set1_other (fun _ => e0) 0 P b e
  · show (set2 (fun _ _ => e0) 0 c W b d).Ok
    by_cases e : (b, d) = (0, c)
    · cases e; rw [set2_same]; exact hW
    · rw [set2_other _ _ _ _ _ _ e]; exact e0_ok
  · exact set2_other (fun _ _ => e0) 0 c W b d fun e => h (by rw [e]; exact List.mem_singleton.2 rfl)
  · have : k = (0, c) := List.mem_singleton.1 hk
    subst this
    exact ⟨rfl, hc⟩
theorem wS_total (P W : St) (c : Int) : (wS P W c).total = P.T + W.T := by
  unfold Sk.total
  have e1 : (wS P W c).P 1 = e0 := rfl
  have e2 : (wS P W c).P 2 = e0 := rfl
  have e3 : sumK (wS P W c).K (fun b d => ((wS P W c).W b d).T) = ((wS P W c).W 0 c).T + 0 := rfl
  rw [e1, e2, e3, wS_W, wS_P]
  show P.T + (0 : Int) + (0 : Int) + (W.T + 0) = _
  omega
theorem Sk.Ok.free_none {S : Sk} (h : S.Ok) {o c : Int} (hh : S.has o c = false) : S.free o c = S := by
  unfold Sk.free
  split
  · rfl
  · have e : (fun b' c' => if c' + 2 < c then (S.W b' c').leave o else S.W b' c') = S.W := by
      funext b' c'
      by_cases g : c' + 2 < c
      · rw [if_pos g]
        by_cases m : (b', c') ∈ S.K
        · refine (St.leave_no rfl fun z => ?_).1
          have := List.any_eq_false.1 hh (b', c') m
          exact this (by simp [g, z])
        · rw [h.wout b' c' m]; exact e0_leave o
      · rw [if_neg g]
    rw [e]
theorem wS_early {P W : St} {c d : Int} (hP : P.Ok) (hW : W.Ok) (hc : Cy c) (hd : Cy d) (h : d ≤ c + 2) : (wS P W c).freeC 2 d = 4 ∧ (wS P W c).freeN 2 d = 0 ∧ (wS P W c).free 2 d = wS P W c := by
  have hh : (wS P W c).has 2 d = false := by
    unfold Sk.has
    refine List.any_eq_false.2 fun k hk => ?_
    have : k = (0, c) := List.mem_singleton.1 hk
    subst this
    simp
    omega
  refine ⟨?_, freeN_none _ _ _ hh, (wS_ok hP hW hc).free_none hh⟩
  unfold Sk.freeC
  rw [if_neg (not_not_intro ⟨by decide, hd⟩), hh]
  rfl
theorem wS_late {P W : St} {c : Int} (hc : Cy (c + 3)) (h : W.leaveC 2 = 0) : (wS P W c).freeC 2 (c + 3) = 0 ∧ (wS P W c).freeN 2 (c + 3) = W.leaveN 2 ∧ (wS P W c).free 2 (c + 3) = wS P (W.leave 2) c := by
  have hb : Ow 2 ∧ Cy (c + 3) := ⟨by decide, hc⟩
  have hh : (wS P W c).has 2 (c + 3) = true := by
    unfold Sk.has
    refine List.any_eq_true.2 ⟨(0, c), List.mem_singleton.2 rfl, ?_⟩
    show (decide (c + 2 < c + 3) && decide (((wS P W c).W 0 c).leaveC 2 = 0)) = true
    rw [wS_W, decide_eq_true h, decide_eq_true (by omega)]
    rfl
  refine ⟨?_, ?_, ?_⟩
  · unfold Sk.freeC
    rw [if_neg (not_not_intro hb), hh]
    rfl
  · unfold Sk.freeN
    rw [if_neg (not_not_intro hb)]
    show (if c + 2 < c + 3 then ((wS P W c).W 0 c).leaveN 2 else 0) + 0 = _
    rw [if_pos (by omega), wS_W, Int.add_zero]
  · unfold Sk.free
    rw [if_neg (not_not_intro hb)]
    show (⟨_, _, _, _⟩ : Sk) = ⟨_, _, _, _⟩
    congr 1
    funext b' c'
    show (if c' + 2 < c + 3 then (set2 (fun _ _ => e0) 0 c W b' c').leave 2 else set2 (fun _ _ => e0) 0 c W b' c') = set2 (fun _ _ => e0) 0 c (W.leave 2) b' c'
    by_cases e : (b', c') = (0, c)
    · cases e; rw [set2_same, set2_same, if_pos (by omega)]
    · rw [set2_other _ _ _ _ _ _ e, set2_other _ _ _ _ _ _ e]
      split
      · exact e0_leave 2
      · rfl
theorem wS_slash {P W : St} {c f p : Int} (hp : 0 ≤ p ∧ p ≤ 100) : (wS P W c).slashC 0 p = 0 ∧ (wS P W c).slashN 0 f p = P.slashN p + (if f ≤ c then W.slashN p else 0) ∧ (wS P W c).slash 0 f p = wS (P.slash p) (if f ≤ c then W.slash p else W) c := by
  have hc : (wS P W c).slashC 0 p = 0 := by
    unfold Sk.slashC
    rw [if_pos (wS_R P W c), if_pos hp]
  refine ⟨hc, ?_, ?_⟩
  · unfold Sk.slashN
    rw [if_pos hc]
    show P.slashN p + ((if (0 : Int) = 0 ∧ f ≤ c then ((wS P W c).W 0 c).slashN p else 0) + 0) = _
    rw [wS_W, Int.add_zero]
    by_cases g : f ≤ c
    · rw [if_pos g, if_pos ⟨rfl, g⟩]
    · rw [if_neg g, if_neg fun z => g z.2]
  · unfold Sk.slash
    rw [if_pos hc]
    have e1 : set1 (wS P W c).P 0 (((wS P W c).P 0).slash p) = set1 (fun _ => e0) 0 (P.slash p) := by
      funext i
      by_cases e : i = 0
      · subst e; rfl
      · rw [set1_other _ _ _ _ e, set1_other _ _ _ _ e]; exact set1_other (fun _ => e0) 0 P i e
    have e2 : (fun b' c' => if b' = 0 ∧ f ≤ c' then ((wS P W c).W b' c').slash p else (wS P W c).W b' c') = set2 (fun _ _ => e0) 0 c (if f ≤ c then W.slash p else W) := by
      funext b' c'
      by_cases e : (b', c') = (0, c)
      · cases e
        rw [set2_same, wS_W]
        by_cases g : f ≤ c
        · rw [if_pos g, if_pos ⟨rfl, g⟩]
        · rw [if_neg g, if_neg fun z => g z.2]
      · have e3 : (wS P W c).W b' c' = e0 := set2_other (fun _ _ => e0) 0 c W b' c' e
        rw [set2_other _ _ _ _ _ _ e, e3]
        split
        · exact e0_slash p
        · rfl
    rw [e1, e2]
    rfl
theorem wS_first {n k c : Int} (n1 : 1 ≤ n) (n2 : n ≤ 1099511627776) (k1 : 1 ≤ k) (kn : k ≤ n) (hc : Cy c) :
    Sk.none.regC 0 = 0 ∧ (Sk.none.reg 0).joinC 2 0 n = 0 ∧ ((Sk.none.reg 0).join 2 0 n).leaveC 2 0 k c = 0 ∧ ((Sk.none.reg 0).join 2 0 n).leave 2 0 k c = wS (uni (n - k) (n - k)) (uni k k) c := by
  have r : Sk.none.reg 0 = ⟨set1 (fun _ => false) 0 true, fun _ => e0, [], fun _ _ => e0⟩ := rfl
  obtain ⟨j1, j2⟩ := e0_join n1 n2
  have jc : (Sk.none.reg 0).joinC 2 0 n = 0 := by rw [r]; exact j1
  have j : (Sk.none.reg 0).join 2 0 n = ⟨set1 (fun _ => false) 0 true, set1 (fun _ => e0) 0 (uni n n), [], fun _ _ => e0⟩ := by
    rw [r]
    show (⟨_, set1 (fun _ => e0) 0 (e0.join 2 n), _, _⟩ : Sk) = _
    rw [j2]
  obtain ⟨t1, t2⟩ := uni_take n1 n2 k1 kn
  obtain ⟨q1, q2⟩ := e0_join k1 (by omega)
  have lc : ((Sk.none.reg 0).join 2 0 n).leaveC 2 0 k c = 0 := by
    rw [j]
    show (if ¬ Cy c then (2 : Int) else if (uni n n).takeC 2 k ≠ 0 then (uni n n).takeC 2 k else e0.joinC 2 k) = 0
    rw [if_neg (not_not_intro hc), t1, if_neg (by decide), q1]
  refine ⟨by decide, jc, lc, ?_⟩
  unfold Sk.leave
  rw [if_pos lc, j]
  show (⟨_, set1 (set1 (fun _ => e0) 0 (uni n n)) 0 ((uni n n).take 2 k), _, set2 (fun _ _ => e0) 0 c (e0.join 2 k)⟩ : Sk) = _
  rw [t2, q2]
  unfold wS
  congr 1
  funext i
  by_cases e : i = 0
  · subst e; rfl
  · rw [set1_other _ _ _ _ e, set1_other _ _ _ _ e, set1_other _ _ _ _ e]
end Go.Proofs.YtlhffdmhbplpjabDoor
