/-
  Stakes of one baker and one owner, plainly: what is taken out waits, is slashed, and is freed.
  A chain, plainly: its purse, its stakes, its court, pictures by cycles; what each act makes of it; supply is what all may spend, and all that is staked or waits.
  A chain, plainly: a cycle ends; a block is baked; what supply becomes.
  Worlds that are alike but for blocks of one kind; parts of memory told by tags.
  Parts of memory that are a call's own: one; two that lie apart.
  Parts of memory told by tags: tags anew where a part has moved.
  Package bound by its contracts: which numbers are amounts, and which are owners.
  A sentinel's value.
  An error's value, by its number.
  The program's purse by its contracts.
-/
import Derived.Test.YtnbmelnacopdpaaGreatDoorRightMathX
import Derived.Laws.AppendOwn
import Derived.Deep.RegionLaw
namespace Go.Proofs.YtnbmelnacopdpaaGreatDoor

/-- a pool of which the third owner has all shares -/
def uni (t u : Int) : St := ⟨t, fun i => if i = 2 then u else 0⟩
theorem uni_A (t u : Int) : (uni t u).A = u := by simp [St.A, uni]
theorem uni_s (t u : Int) : (uni t u).s 2 = u := rfl
theorem uni_ok (t u : Int) (h0 : 0 ≤ t) (h1 : t ≤ 1125899906842624) (u0 : 0 ≤ u) (u1 : u ≤ 1125899906842624) (h : u = 0 → t = 0) : (uni t u).Ok where
  t0 := h0
  t1 := h1
  pos := fun o => by show 0 ≤ ite _ _ _; split <;> omega
  out := fun o ho => by show ite _ _ _ = (0 : Int); rw [if_neg (by omega)]
  a1 := by rw [uni_A]; exact u1
  none := by rw [uni_A]; exact h
theorem uni_set (t u v T : Int) : (uni t u).set 2 v T = uni T v := by
  unfold St.set uni
  congr 1
  funext i
  by_cases e : i = 2
  · simp [e]
  · simp [e]
theorem e0_set (v T : Int) : e0.set 2 v T = uni T v := rfl
theorem uni_val (t u : Int) (u0 : 0 < u) : (uni t u).val 2 = t := by
  rw [St.val_some 2 (by rw [uni_A]; exact u0), uni_A, uni_s, Int.mul_comm]
  exact Int.mul_ediv_cancel t (by omega)
theorem e0_join {n : Int} (n1 : 1 ≤ n) (n2 : n ≤ 1099511627776) : e0.joinC 2 n = 0 ∧ e0.join 2 n = uni n n := by
  have hk : e0.joinK n = n := St.joinK_none rfl
  have hc : e0.joinC 2 n = 0 := St.joinC_fine (by omega) (by rw [e0_A]; omega) (by rw [hk]; omega) (by show (0 : Int) + n ≤ _; omega) (by rw [hk, e0_A]; omega) (by rw [hk]; omega)
  refine ⟨hc, ?_⟩
  rw [St.join_yes hc, e0_set, hk]
  show uni ((0 : Int) + n) ((0 : Int) + n) = _
  rw [Int.zero_add]
theorem uni_take {n k : Int} (n1 : 1 ≤ n) (n2 : n ≤ 1099511627776) (k1 : 1 ≤ k) (kn : k ≤ n) : (uni n n).takeC 2 k = 0 ∧ (uni n n).take 2 k = uni (n - k) (n - k) := by
  have hk : (uni n n).takeK k = k := by
    unfold St.takeK
    rw [uni_A]
    show upQ (k * n) n = k
    have e1 : k * n / n = k := Int.mul_ediv_cancel k (by omega)
    have e2 : k * n % n = 0 := Int.mul_emod_left k n
    unfold upQ
    simp [e1, e2]
  have hc : (uni n n).takeC 2 k = 0 := St.takeC_fine (by omega) (by rw [uni_val n n (by omega)]; exact kn) (by rw [hk, uni_A]; show ¬ (k = n ∧ k < n); omega)
  refine ⟨hc, ?_⟩
  rw [St.take_yes hc, uni_set, hk]
  rfl
theorem uni_slash (t u p : Int) : (uni t u).slash p = uni (t - (uni t u).slashN p) u := rfl
theorem uni_leave {t u : Int} (_h0 : 0 ≤ t) (u0 : 0 < u) : (uni t u).leaveC 2 = 0 ∧ (uni t u).leaveN 2 = t ∧ (uni t u).leave 2 = uni 0 0 := by
  have hc : (uni t u).leaveC 2 = 0 := St.leaveC_fine (by omega) (by rw [uni_s]; omega)
  refine ⟨hc, (St.leave_yes hc).2.trans (uni_val t u u0), ?_⟩
  rw [(St.leave_yes hc).1, uni_set, uni_val t u u0]
  show uni (t - t) 0 = uni 0 0
  rw [Int.sub_self]
/-- one baker's pool, and one that waits -/
def wS (P W : St) (c : Int) : Sk := ⟨set1 (fun _ => false) 0 true, set1 (fun _ => e0) 0 P, [(0, c)], set2 (fun _ _ => e0) 0 c W⟩
theorem wS_R (P W : St) (c : Int) : (wS P W c).R 0 = true := rfl
theorem wS_P (P W : St) (c : Int) : (wS P W c).P 0 = P := rfl
theorem wS_W (P W : St) (c : Int) : (wS P W c).W 0 c = W := set2_same (fun _ _ => e0) 0 c W
theorem wS_ok {P W : St} {c : Int} (hP : P.Ok) (hW : W.Ok) (hc : Cy c) : (wS P W c).Ok := by
  refine ⟨fun b hb => ?_, fun b => ?_, fun b hb => ?_, fun b d => ?_, fun b d h => ?_, fun k hk => ?_, by unfold wS; simp⟩
  · by_cases e : b = 0
    · subst e; decide
    · rw [show (wS P W c).R b = false from set1_other (fun _ => false) 0 true b e] at hb; cases hb
  · show (set1 (fun _ => e0) 0 P b).Ok
    by_cases e : b = 0
    · subst e; rw [set1_same]; exact hP
    · rw [set1_other _ _ _ _ e]; exact e0_ok
  · by_cases e : b = 0
    · subst e; cases hb
    · exact set1_other (fun _ => e0) 0 P b e
  · show (set2 (fun _ _ => e0) 0 c W b d).Ok
    by_cases e : (b, d) = (0, c)
    · cases e; rw [set2_same]; exact hW
    · rw [set2_other _ _ _ _ _ _ e]; exact e0_ok
  · exact set2_other (fun _ _ => e0) 0 c W b d fun e => h (by rw [e]; exact List.mem_singleton.2 rfl)
  · have : k = (0, c) := List.mem_singleton.1 hk
    subst this
    exact ⟨rfl, hc⟩
theorem wS_total (P W : St) (c : Int) : (wS P W c).total = P.T + W.T := by
  unfold Sk.total
  have e1 : (wS P W c).P 1 = e0 := rfl
  have e2 : (wS P W c).P 2 = e0 := rfl
  have e3 : sumK (wS P W c).K (fun b d => ((wS P W c).W b d).T) = ((wS P W c).W 0 c).T + 0 := rfl
  rw [e1, e2, e3, wS_W, wS_P]
  show P.T + (0 : Int) + (0 : Int) + (W.T + 0) = _
  omega
theorem Sk.Ok.free_none {S : Sk} (h : S.Ok) {o c : Int} (hh : S.has o c = false) : S.free o c = S := by
  unfold Sk.free
  split
  · rfl
  · have e : (fun b' c' => if c' + 2 < c then (S.W b' c').leave o else S.W b' c') = S.W := by
      funext b' c'
      by_cases g : c' + 2 < c
      · rw [if_pos g]
        by_cases m : (b', c') ∈ S.K
        · refine (St.leave_no rfl fun z => ?_).1
          have := List.any_eq_false.1 hh (b', c') m
          exact this (by simp [g, z])
        · rw [h.wout b' c' m]; exact e0_leave o
      · rw [if_neg g]
    rw [e]
theorem wS_early {P W : St} {c d : Int} (hP : P.Ok) (hW : W.Ok) (hc : Cy c) (hd : Cy d) (h : d ≤ c + 2) : (wS P W c).freeC 2 d = 4 ∧ (wS P W c).freeN 2 d = 0 ∧ (wS P W c).free 2 d = wS P W c := by
  have hh : (wS P W c).has 2 d = false := by
    unfold Sk.has
    refine List.any_eq_false.2 fun k hk => ?_
    have : k = (0, c) := List.mem_singleton.1 hk
    subst this
    simp
    omega
  refine ⟨?_, freeN_none _ _ _ hh, (wS_ok hP hW hc).free_none hh⟩
  unfold Sk.freeC
  rw [if_neg (not_not_intro ⟨by decide, hd⟩), hh]
  rfl
theorem wS_late {P W : St} {c : Int} (hc : Cy (c + 3)) (h : W.leaveC 2 = 0) : (wS P W c).freeC 2 (c + 3) = 0 ∧ (wS P W c).freeN 2 (c + 3) = W.leaveN 2 ∧ (wS P W c).free 2 (c + 3) = wS P (W.leave 2) c := by
  have hb : Ow 2 ∧ Cy (c + 3) := ⟨by decide, hc⟩
  have hh : (wS P W c).has 2 (c + 3) = true := by
    unfold Sk.has
    refine List.any_eq_true.2 ⟨(0, c), List.mem_singleton.2 rfl, ?_⟩
    show (decide (c + 2 < c + 3) && decide (((wS P W c).W 0 c).leaveC 2 = 0)) = true
    rw [wS_W, decide_eq_true h, decide_eq_true (by omega)]
    rfl
  refine ⟨?_, ?_, ?_⟩
  · unfold Sk.freeC
    rw [if_neg (not_not_intro hb), hh]
    rfl
  · unfold Sk.freeN
    rw [if_neg (not_not_intro hb)]
    show (if c + 2 < c + 3 then ((wS P W c).W 0 c).leaveN 2 else 0) + 0 = _
    rw [if_pos (by omega), wS_W, Int.add_zero]
  · unfold Sk.free
    rw [if_neg (not_not_intro hb)]
    show (⟨_, _, _, _⟩ : Sk) = ⟨_, _, _, _⟩
    congr 1
    funext b' c'
    show (if c' + 2 < c + 3 then (set2 (fun _ _ => e0) 0 c W b' c').leave 2 else set2 (fun _ _ => e0) 0 c W b' c') = set2 (fun _ _ => e0) 0 c (W.leave 2) b' c'
    by_cases e : (b', c') = (0, c)
    · cases e; rw [set2_same, set2_same, if_pos (by omega)]
    · rw [set2_other _ _ _ _ _ _ e, set2_other _ _ _ _ _ _ e]
      split
      · exact e0_leave 2
      · rfl
theorem wS_slash {P W : St} {c f p : Int} (hp : 0 ≤ p ∧ p ≤ 100) : (wS P W c).slashC 0 p = 0 ∧ (wS P W c).slashN 0 f p = P.slashN p + (if f ≤ c then W.slashN p else 0) ∧ (wS P W c).slash 0 f p = wS (P.slash p) (if f ≤ c then W.slash p else W) c := by
  have hc : (wS P W c).slashC 0 p = 0 := by
    unfold Sk.slashC
    rw [if_pos (wS_R P W c), if_pos hp]
  refine ⟨hc, ?_, ?_⟩
  · unfold Sk.slashN
    rw [if_pos hc]
    show P.slashN p + ((if (0 : Int) = 0 ∧ f ≤ c then ((wS P W c).W 0 c).slashN p else 0) + 0) = _
    rw [wS_W, Int.add_zero]
    by_cases g : f ≤ c
    · rw [if_pos g, if_pos ⟨rfl, g⟩]
    · rw [if_neg g, if_neg fun z => g z.2]
  · unfold Sk.slash
    rw [if_pos hc]
    have e1 : set1 (wS P W c).P 0 (((wS P W c).P 0).slash p) = set1 (fun _ => e0) 0 (P.slash p) := by
      funext i
      by_cases e : i = 0
      · subst e; rfl
      · rw [set1_other _ _ _ _ e, set1_other _ _ _ _ e]; exact set1_other (fun _ => e0) 0 P i e
    have e2 : (fun b' c' => if b' = 0 ∧ f ≤ c' then ((wS P W c).W b' c').slash p else (wS P W c).W b' c') = set2 (fun _ _ => e0) 0 c (if f ≤ c then W.slash p else W) := by
      funext b' c'
      by_cases e : (b', c') = (0, c)
      · cases e
        rw [set2_same, wS_W]
        by_cases g : f ≤ c
        · rw [if_pos g, if_pos ⟨rfl, g⟩]
        · rw [if_neg g, if_neg fun z => g z.2]
      · have e3 : (wS P W c).W b' c' = e0 := set2_other (fun _ _ => e0) 0 c W b' c' e
        rw [set2_other _ _ _ _ _ _ e, e3]
        split
        · exact e0_slash p
        · rfl
    rw [e1, e2]
    rfl
theorem wS_first {n k c : Int} (n1 : 1 ≤ n) (n2 : n ≤ 1099511627776) (k1 : 1 ≤ k) (kn : k ≤ n) (hc : Cy c) :
    Sk.none.regC 0 = 0 ∧ (Sk.none.reg 0).joinC 2 0 n = 0 ∧ ((Sk.none.reg 0).join 2 0 n).leaveC 2 0 k c = 0 ∧ ((Sk.none.reg 0).join 2 0 n).leave 2 0 k c = wS (uni (n - k) (n - k)) (uni k k) c := by
  have r : Sk.none.reg 0 = ⟨set1 (fun _ => false) 0 true, fun _ => e0, [], fun _ _ => e0⟩ := rfl
  obtain ⟨j1, j2⟩ := e0_join n1 n2
  have jc : (Sk.none.reg 0).joinC 2 0 n = 0 := by rw [r]; exact j1
  have j : (Sk.none.reg 0).join 2 0 n = ⟨set1 (fun _ => false) 0 true, set1 (fun _ => e0) 0 (uni n n), [], fun _ _ => e0⟩ := by
    rw [r]
    show (⟨_, set1 (fun _ => e0) 0 (e0.join 2 n), _, _⟩ : Sk) = _
    rw [j2]
  obtain ⟨t1, t2⟩ := uni_take n1 n2 k1 kn
  obtain ⟨q1, q2⟩ := e0_join k1 (by omega)
  have lc : ((Sk.none.reg 0).join 2 0 n).leaveC 2 0 k c = 0 := by
    rw [j]
    show (if ¬ Cy c then (2 : Int) else if (uni n n).takeC 2 k ≠ 0 then (uni n n).takeC 2 k else e0.joinC 2 k) = 0
    rw [if_neg (not_not_intro hc), t1, if_neg (by decide), q1]
  refine ⟨by decide, jc, lc, ?_⟩
  unfold Sk.leave
  rw [if_pos lc, j]
  show (⟨_, set1 (set1 (fun _ => e0) 0 (uni n n)) 0 ((uni n n).take 2 k), _, set2 (fun _ _ => e0) 0 c (e0.join 2 k)⟩ : Sk) = _
  rw [t2, q2]
  unfold wS
  congr 1
  funext i
  by_cases e : i = 0
  · subst e; rfl
  · rw [set1_other _ _ _ _ e, set1_other _ _ _ _ e, set1_other _ _ _ _ e]
end Go.Proofs.YtnbmelnacopdpaaGreatDoor

namespace Go.Proofs.YtnbmelnacopdpaaGreatDoor

/-! purses: what is nobody's -/
theorem Pu.move_gap (x : Pu) (o t n : Int) : (x.move o t n).S = x.S ∧ (x.move o t n).sum = x.sum := by
  unfold Pu.move
  by_cases h : x.moveC o t n = 0
  · rw [if_pos h]
    refine ⟨rfl, ?_⟩
    have hb : Own o ∧ Own t ∧ Amt n := by
      by_cases g : Own o ∧ Own t ∧ Amt n
      · exact g
      · unfold Pu.moveC at h; rw [if_pos g] at h; omega
    rw [sum_put ⟨put x.s o (x.s o - n), x.S⟩ _ _ _ hb.2.1, sum_put x _ _ _ hb.1]
    show _ - put x.s o (x.s o - n) t + _ = _
    omega
  · rw [if_neg h]; exact ⟨rfl, rfl⟩
theorem Pu.outC_in {x : Pu} {o n : Int} (h : x.outC o n = 0) : Own o ∧ Amt n ∧ n ≤ x.s o := by
  unfold Pu.outC at h
  by_cases g : Own o ∧ Amt n
  · rw [if_neg (not_not_intro g)] at h
    by_cases k : x.s o < n
    · rw [if_pos k] at h; omega
    · exact ⟨g.1, g.2, by omega⟩
  · rw [if_pos g] at h; omega
theorem Pu.out_gap {x : Pu} {o n : Int} (h : x.outC o n = 0) : (x.out o n).S = x.S ∧ (x.out o n).sum = x.sum - n := by
  have g := Pu.outC_in h
  unfold Pu.out
  rw [if_pos h]
  exact ⟨rfl, by rw [sum_put x _ _ _ g.1]; omega⟩
theorem Pu.inC_ok {x : Pu} {o n : Int} (ho : Own o) (hn : Amt n) (h : n ≤ x.S - x.sum) : x.inC o n = 0 := by
  unfold Pu.inC
  rw [if_neg (not_not_intro ⟨ho, hn⟩), if_neg (by omega)]
theorem Pu.in_gap {x : Pu} {o n : Int} (ho : Own o) (h : x.inC o n = 0) : (x.in' o n).S = x.S ∧ (x.in' o n).sum = x.sum + n := by
  unfold Pu.in'
  rw [if_pos h]
  exact ⟨rfl, by rw [sum_put x _ _ _ ho]; omega⟩
theorem Pu.burnC_ok {x : Pu} {n : Int} (hn : Amt n) (h : n ≤ x.S - x.sum) : x.burnC n = 0 := by
  unfold Pu.burnC
  rw [if_neg (not_not_intro hn), if_neg (by omega)]
theorem Pu.burn_gap {x : Pu} {n : Int} (h : x.burnC n = 0) : (x.burn n).S = x.S - n ∧ (x.burn n).sum = x.sum := by
  unfold Pu.burn
  rw [if_pos h]
  exact ⟨rfl, rfl⟩
theorem Pu.growC_ok {x : Pu} {n : Int} (hn : Amt n) (h : x.S + n ≤ 1125899906842624) : x.growC n = 0 := if_pos ⟨hn, h⟩
theorem Pu.grow_gap {x : Pu} {n : Int} (h : x.growC n = 0) : (x.grow n).S = x.S + n ∧ (x.grow n).sum = x.sum := by
  unfold Pu.grow
  rw [if_pos h]
  exact ⟨rfl, rfl⟩
/-- out, and in again -/
theorem Pu.out_in {x : Pu} {o n : Int} (hx : x.Ok) (h : x.outC o n = 0) : (x.out o n).in' o n = x := by
  obtain ⟨ho, hn, hl⟩ := Pu.outC_in h
  have g := Pu.out_gap h
  have c : (x.out o n).inC o n = 0 := Pu.inC_ok ho hn (by rw [g.1, g.2]; have := hx.le; omega)
  unfold Pu.in'
  rw [if_pos c]
  unfold Pu.out
  rw [if_pos h]
  show (Pu.mk (put (put x.s o (x.s o - n)) o (put x.s o (x.s o - n) o + n)) x.S) = x
  have e : put (put x.s o (x.s o - n)) o (put x.s o (x.s o - n) o + n) = x.s := by
    funext i
    by_cases k : i = o
    · subst k; rw [put_same, put_same]; omega
    · rw [put_other _ _ _ _ k, put_other _ _ _ _ k]
  rw [e]

/-- a chain -/
structure Ch where
  p : Pu
  s : Sk
  c : Ct
  seed : Nat
  cyc : Nat
  lev : Nat
  bon : Int
  pics : List (Nat → Int)
def Ch.pic (C : Ch) : Nat → Int := C.pics.getD C.cyc (fun _ => 0)
def Ch.staked (C : Ch) : Int := (C.s.P 0).T + (C.s.P 1).T + (C.s.P 2).T
def Ch.ratio (C : Ch) : Int := ratioN C.staked C.p.S
def Ch.rate (C : Ch) : Int := rateN C.ratio C.bon
def Ch.rew (C : Ch) : Int := rewardN C.p.S C.rate
def pct (n : Int) : Int := if n % 2 = 0 then 5 else 50
/-- weights of which one is not 0 -/
def Heavy (W : Nat → Int) : Prop := Weights 3 W ∧ sumTo W 3 ≠ 0
/-- all but that the cycle is a fourth of the level -/
structure Ch.Ok (C : Ch) : Prop where
  p : C.p.Ok
  s : C.s.Ok
  c : C.c.Ok
  sum : C.p.S = C.p.sum + C.s.total
  pos : 1 ≤ C.p.S
  reg : ∀ b, Bk b → C.s.R b = true
  bon : 0 ≤ C.bon ∧ C.bon ≤ 5000
  cas : ∀ t, t ∈ C.c.L → Own t.1 ∧ Bk t.2.1
  len : C.pics.length = C.cyc + 3
  heavy : ∀ W, W ∈ C.pics → Heavy W
  seed : C.seed < W64
theorem Ch.Ok.turn {C : Ch} (h : C.Ok) : Heavy C.pic := by
  have hl := h.len
  have hi : C.cyc < C.pics.length := by omega
  unfold Ch.pic
  rw [List.getD_eq_getElem?_getD, List.getElem?_eq_getElem hi]
  exact h.heavy _ (List.getElem_mem hi)
theorem Sk.Ok.P_bd {S : Sk} (h : S.Ok) (b : Int) : 0 ≤ (S.P b).T ∧ (S.P b).T ≤ 1125899906842624 := ⟨(h.pok b).t0, (h.pok b).t1⟩
theorem Sk.Ok.staked_le {S : Sk} (h : S.Ok) : (S.P 0).T + (S.P 1).T + (S.P 2).T ≤ S.total := by
  have := sumK_nonneg (f := fun b c => (S.W b c).T) S.K (fun k _ => (h.wok k.1 k.2).t0)
  unfold Sk.total
  omega
theorem Ch.Ok.ratioOk {C : Ch} (h : C.Ok) : RatioOk C.staked C.p.S := by
  have a := h.p.sum0
  have b := h.p.top
  have c := h.pos
  have d := h.s.staked_le
  have e := h.sum
  have p0 := (h.s.P_bd 0).1
  have p1 := (h.s.P_bd 1).1
  have p2 := (h.s.P_bd 2).1
  unfold Ch.staked
  exact ⟨⟨by omega, by omega⟩, c, b, by omega⟩
theorem Ch.Ok.ratio_bd {C : Ch} (h : C.Ok) : 0 ≤ C.ratio ∧ C.ratio ≤ 1000000 := by
  unfold Ch.ratio ratioN
  rw [if_pos h.ratioOk]
  exact Go.Proofs.YtnbmelnacopdpaaGreatDoor.ratio_bd h.ratioOk
theorem Ch.Ok.rateOk {C : Ch} (h : C.Ok) : RateOk C.ratio C.bon := ⟨h.ratio_bd, h.bon⟩
theorem Ch.Ok.rate_bd {C : Ch} (h : C.Ok) : 5000 ≤ C.rate ∧ C.rate ≤ 45000 := by
  unfold Ch.rate rateN
  rw [if_pos h.rateOk]
  have := bendR_bd h.ratio_bd.1 h.ratio_bd.2
  have := h.bon
  omega
theorem Ch.Ok.rewardOk {C : Ch} (h : C.Ok) : RewardOk C.p.S C.rate := by
  have := h.rate_bd
  have := h.pos
  have := h.p.top
  exact ⟨⟨by omega, by omega⟩, by omega, by omega⟩
theorem Ch.Ok.rew_bd {C : Ch} (h : C.Ok) : 0 ≤ C.rew ∧ C.rew ≤ C.p.S := by
  unfold Ch.rew rewardN
  rw [if_pos h.rewardOk]
  have := reward_bd h.rewardOk
  have := h.pos
  omega

/-! acts -/
def Ch.pay (C : Ch) (o t n : Int) : Ch := { C with p := C.p.move o t n }
def Ch.stakeC (C : Ch) (o b n : Int) : Int := if C.p.outC o n ≠ 0 then C.p.outC o n else C.s.joinC o b n
def Ch.stake (C : Ch) (o b n : Int) : Ch := if C.stakeC o b n = 0 then { C with p := C.p.out o n, s := C.s.join o b n } else C
def Ch.unstake (C : Ch) (o b n : Int) : Ch := { C with s := C.s.leave o b n C.cyc }
def Ch.free (C : Ch) (o : Int) : Ch := if C.s.freeC o C.cyc = 0 then { C with p := C.p.in' o (C.s.freeN o C.cyc), s := C.s.free o C.cyc } else C
def Ch.accuse (C : Ch) (o : Int) (e : Ev) : Ch := { C with c := C.c.acc o e C.cyc }
abbrev Ch.Payable (C : Ch) (b : Int) : Prop := C.p.S + C.rew ≤ 1125899906842624 ∧ C.s.addC b C.rew = 0
def Ch.bakeN (C : Ch) (b : Int) : Int := if C.Payable b then C.rew else 0
def Ch.paid (C : Ch) (b : Int) : Ch := if C.Payable b then { C with p := C.p.grow C.rew, s := C.s.add b C.rew } else C
def Ch.lost (C : Ch) (t : Cs) : Int := C.s.slashN t.2.1 t.2.2.1 (pct t.2.2.2)
def Ch.judge1 (C : Ch) (t : Cs) : Ch := { C with p := (C.p.in' t.1 (C.lost t / 7)).burn (C.lost t - C.lost t / 7), s := C.s.slash t.2.1 t.2.2.1 (pct t.2.2.2) }
def Ch.judge (C : Ch) (l : List Cs) : Ch := l.foldl Ch.judge1 C
def Ch.nextPic (C : Ch) : Nat → Int := if sumTo C.s.pic 3 ≠ 0 then C.s.pic else C.pics.getD (C.pics.length - 1) (fun _ => 0)
def Ch.turned (C : Ch) : Ch := { C with bon := bonusV C.bon C.ratio, cyc := C.cyc + 1, pics := C.pics ++ [C.nextPic] }
def Ch.ended (C : Ch) : Ch := Ch.turned (Ch.judge { C with c := C.c.asked } C.c.due)
def Ch.stepped (C : Ch) : Ch := if (C.lev + 1) % 4 = 0 then Ch.ended { C with lev := C.lev + 1 } else { C with lev := C.lev + 1 }
def Ch.bake (C : Ch) (b : Int) : Ch := (C.paid b).stepped

theorem Ch.Ok.pay {C : Ch} (h : C.Ok) (o t n : Int) : (C.pay o t n).Ok := by
  have g := C.p.move_gap o t n
  exact ⟨h.p.move o t n, h.s, h.c, by show (C.p.move o t n).S = (C.p.move o t n).sum + _; rw [g.1, g.2]; exact h.sum, by show 1 ≤ (C.p.move o t n).S; rw [g.1]; exact h.pos, h.reg, h.bon, h.cas, h.len, h.heavy, h.seed⟩
theorem Sk.join_R (S : Sk) (o b n : Int) : (S.join o b n).R = S.R := by unfold Sk.join; split <;> rfl
theorem Sk.add_R (S : Sk) (b n : Int) : (S.add b n).R = S.R := by unfold Sk.add; split <;> rfl
theorem Sk.leave_R (S : Sk) (o b n c : Int) : (S.leave o b n c).R = S.R := by unfold Sk.leave; split <;> rfl
theorem Sk.free_R (S : Sk) (o c : Int) : (S.free o c).R = S.R := by unfold Sk.free; split <;> rfl
theorem Sk.slash_R (S : Sk) (b f p : Int) : (S.slash b f p).R = S.R := by unfold Sk.slash; split <;> rfl
theorem Ch.stakeC_zero {C : Ch} {o b n : Int} (h : C.stakeC o b n = 0) : C.p.outC o n = 0 ∧ C.s.joinC o b n = 0 := by
  unfold Ch.stakeC at h
  by_cases g : C.p.outC o n ≠ 0
  · rw [if_pos g] at h; exact absurd h g
  · rw [if_neg g] at h; exact ⟨by omega, h⟩
theorem Ch.Ok.stake {C : Ch} (h : C.Ok) (o b n : Int) : (C.stake o b n).Ok := by
  unfold Ch.stake
  by_cases k : C.stakeC o b n = 0
  · rw [if_pos k]
    obtain ⟨k1, k2⟩ := Ch.stakeC_zero k
    have g := Pu.out_gap k1
    have t := h.s.join_total k2
    have s := h.sum
    exact ⟨h.p.out' o n, h.s.join o b n, h.c, by show (C.p.out o n).S = (C.p.out o n).sum + (C.s.join o b n).total; rw [g.1, g.2, t]; omega, by show 1 ≤ (C.p.out o n).S; rw [g.1]; exact h.pos, fun i hi => by show (C.s.join o b n).R i = true; rw [Sk.join_R]; exact h.reg i hi, h.bon, h.cas, h.len, h.heavy, h.seed⟩
  · rw [if_neg k]; exact h
theorem Ch.Ok.unstake {C : Ch} (h : C.Ok) (o b n : Int) : (C.unstake o b n).Ok :=
  ⟨h.p, h.s.leave o b n C.cyc, h.c, by show C.p.S = C.p.sum + (C.s.leave o b n C.cyc).total; rw [h.s.leave_total]; exact h.sum, h.pos, fun i hi => by show (C.s.leave o b n C.cyc).R i = true; rw [Sk.leave_R]; exact h.reg i hi, h.bon, h.cas, h.len, h.heavy, h.seed⟩
theorem Sk.freeC_in {S : Sk} {o c : Int} (h : S.freeC o c = 0) : Ow o ∧ Cy c := by
  unfold Sk.freeC at h
  by_cases g : Ow o ∧ Cy c
  · exact g
  · rw [if_pos g] at h; omega
theorem Ch.Ok.freeN_bd {C : Ch} (h : C.Ok) (o c : Int) : 0 ≤ C.s.freeN o c ∧ C.s.freeN o c ≤ C.s.total := by
  have t := C.s.free_total o c
  have := (h.s.free o c).total_bd.1
  have := h.s.freeN_nn o c
  omega
theorem Ch.Ok.freeIn {C : Ch} (h : C.Ok) {o : Int} (k : C.s.freeC o C.cyc = 0) : C.p.inC o (C.s.freeN o C.cyc) = 0 := by
  have b := h.freeN_bd o C.cyc
  have := h.sum
  have := h.p.sum0
  have := h.p.top
  exact Pu.inC_ok (Sk.freeC_in k).1 ⟨b.1, by omega⟩ (by omega)
theorem Ch.Ok.free {C : Ch} (h : C.Ok) (o : Int) : (C.free o).Ok := by
  unfold Ch.free
  by_cases k : C.s.freeC o C.cyc = 0
  · rw [if_pos k]
    have g := Pu.in_gap (Sk.freeC_in k).1 (h.freeIn k)
    have t := C.s.free_total o C.cyc
    have s := h.sum
    exact ⟨h.p.in' o _, h.s.free o C.cyc, h.c, by show (C.p.in' o _).S = (C.p.in' o _).sum + (C.s.free o C.cyc).total; rw [g.1, g.2, t]; omega, by show 1 ≤ (C.p.in' o _).S; rw [g.1]; exact h.pos, fun i hi => by show (C.s.free o C.cyc).R i = true; rw [Sk.free_R]; exact h.reg i hi, h.bon, h.cas, h.len, h.heavy, h.seed⟩
  · rw [if_neg k]; exact h
theorem Ch.Ok.accuse {C : Ch} (h : C.Ok) (o : Int) (e : Ev) : (C.accuse o e).Ok := by
  refine ⟨h.p, h.s, h.c.acc o e C.cyc, h.sum, h.pos, h.reg, h.bon, ?_, h.len, h.heavy, h.seed⟩
  intro t ht
  have ht : t ∈ (C.c.acc o e C.cyc).L := ht
  unfold Ct.acc at ht
  by_cases k : C.c.accC o e C.cyc = 0
  · rw [if_pos k] at ht
    rcases List.mem_append.1 ht with g | g
    · exact h.cas t g
    · have : t = (o, e) := by simpa using g
      subst this
      have a := (Ct.accC_zero k).1
      exact ⟨a.1, a.2.1⟩
  · rw [if_neg k] at ht; exact h.cas t ht
theorem Ch.Ok.paid {C : Ch} (h : C.Ok) (b : Int) : (C.paid b).Ok := by
  unfold Ch.paid
  by_cases k : C.Payable b
  · rw [if_pos k]
    have r := h.rew_bd
    have c : C.p.growC C.rew = 0 := Pu.growC_ok ⟨r.1, by have := h.p.top; omega⟩ k.1
    have g := Pu.grow_gap c
    have t := h.s.add_total k.2
    have s := h.sum
    have := h.pos
    exact ⟨h.p.grow _, h.s.add b _, h.c, by show (C.p.grow C.rew).S = (C.p.grow C.rew).sum + (C.s.add b C.rew).total; rw [g.1, g.2, t]; omega, by show 1 ≤ (C.p.grow C.rew).S; rw [g.1]; omega, fun i hi => by show (C.s.add b C.rew).R i = true; rw [Sk.add_R]; exact h.reg i hi, h.bon, h.cas, h.len, h.heavy, h.seed⟩
  · rw [if_neg k]; exact h
theorem Sk.Ok.free_same {S : Sk} (h : S.Ok) {o c : Int} (hc : S.freeC o c ≠ 0) : S.free o c = S := by
  by_cases g : Ow o ∧ Cy c
  · refine h.free_none ?_
    cases k : S.has o c with
    | false => rfl
    | true => unfold Sk.freeC at hc; rw [if_neg (not_not_intro g), k] at hc; exact absurd rfl hc
  · exact if_pos g
theorem Sk.freeN_same {S : Sk} {o c : Int} (hc : S.freeC o c ≠ 0) : S.freeN o c = 0 := by
  by_cases g : Ow o ∧ Cy c
  · refine freeN_none S o c ?_
    cases k : S.has o c with
    | false => rfl
    | true => unfold Sk.freeC at hc; rw [if_neg (not_not_intro g), k] at hc; exact absurd rfl hc
  · unfold Sk.freeN; rw [if_pos g]
end Go.Proofs.YtnbmelnacopdpaaGreatDoor

namespace Go.Proofs.YtnbmelnacopdpaaGreatDoor

theorem pct_bd (n : Int) : 0 ≤ pct n ∧ pct n ≤ 50 := by unfold pct; split <;> omega
theorem St.Ok.half {x : St} (h : x.Ok) {p : Int} (h0 : 0 ≤ p) (h1 : p ≤ 50) : 2 * x.slashN p ≤ x.T := by
  unfold St.slashN
  rw [if_pos ⟨h0, by omega⟩]
  have t := h.t0
  have : x.T * p ≤ x.T * 50 := Int.mul_le_mul_of_nonneg_left h1 t
  omega
theorem sumK_mono {f g : Int → Int → Int} (K : List (Int × Int)) (h : ∀ k, k ∈ K → f k.1 k.2 ≤ g k.1 k.2) : sumK K f ≤ sumK K g := by
  have e := sumK_split K g (fun b c => g b c - f b c) f (fun _ _ => rfl)
  have := sumK_nonneg (f := fun b c => g b c - f b c) K (fun k hk => by have := h k hk; show 0 ≤ g k.1 k.2 - f k.1 k.2; omega)
  omega
theorem sumK_two (K : List (Int × Int)) (f : Int → Int → Int) : sumK K (fun b c => 2 * f b c) = 2 * sumK K f := by
  have := sumK_add f f K
  rw [show (fun b c => 2 * f b c) = (fun b c => f b c + f b c) by funext b c; omega, this]
  omega
/-- at most half is lost -/
theorem Sk.Ok.slash_half {S : Sk} (h : S.Ok) (b f : Int) {p : Int} (h0 : 0 ≤ p) (h1 : p ≤ 50) : 2 * S.slashN b f p ≤ S.total := by
  unfold Sk.slashN
  by_cases k : S.slashC b p = 0
  · rw [if_pos k]
    have hb : Bk b := by
      refine h.rin b ?_
      unfold Sk.slashC at k
      cases g : S.R b with
      | true => rfl
      | false => rw [g] at k; simp at k
    have a := (h.pok b).half h0 h1
    have c : 2 * sumK S.K (fun b' c' => if b' = b ∧ f ≤ c' then (S.W b' c').slashN p else 0) ≤ sumK S.K (fun b c => (S.W b c).T) := by
      rw [← sumK_two]
      refine sumK_mono S.K fun k _ => ?_
      show 2 * (if k.1 = b ∧ f ≤ k.2 then (S.W k.1 k.2).slashN p else 0) ≤ (S.W k.1 k.2).T
      split
      · exact (h.wok k.1 k.2).half h0 h1
      · have := (h.wok k.1 k.2).t0; omega
    have q0 := (h.pok 0).t0
    have q1 := (h.pok 1).t0
    have q2 := (h.pok 2).t0
    have e : b = 0 ∨ b = 1 ∨ b = 2 := by have := hb.1; have := hb.2; omega
    unfold Sk.total
    rcases e with rfl | rfl | rfl <;> omega
  · rw [if_neg k]
    have := h.total_bd.1
    omega
theorem Ch.Ok.lost_bd {C : Ch} (h : C.Ok) (t : Cs) : 0 ≤ C.lost t ∧ 2 * C.lost t ≤ C.s.total ∧ C.lost t ≤ 1125899906842624 := by
  have b := pct_bd t.2.2.2
  have l0 := h.s.slashN_nn t.2.1 t.2.2.1 (pct t.2.2.2)
  have l1 := h.s.slash_half t.2.1 t.2.2.1 b.1 b.2
  have := h.sum
  have := h.p.sum0
  have := h.p.top
  unfold Ch.lost
  exact ⟨l0, l1, by omega⟩
theorem Ch.Ok.judgeIn {C : Ch} (h : C.Ok) (t : Cs) (ho : Own t.1) : C.p.inC t.1 (C.lost t / 7) = 0 := by
  have l := h.lost_bd t
  have := h.sum
  exact Pu.inC_ok ho ⟨by omega, by omega⟩ (by omega)
theorem Ch.Ok.judgeBurn {C : Ch} (h : C.Ok) (t : Cs) (ho : Own t.1) : (C.p.in' t.1 (C.lost t / 7)).burnC (C.lost t - C.lost t / 7) = 0 := by
  have l := h.lost_bd t
  have g := Pu.in_gap ho (h.judgeIn t ho)
  have := h.sum
  exact Pu.burnC_ok ⟨by omega, by omega⟩ (by rw [g.1, g.2]; omega)
theorem Ch.Ok.judge1 {C : Ch} (h : C.Ok) (t : Cs) (ho : Own t.1) : (C.judge1 t).Ok ∧ (C.judge1 t).p.S ≤ C.p.S := by
  have l := h.lost_bd t
  have g1 := Pu.in_gap ho (h.judgeIn t ho)
  have g2 := Pu.burn_gap (h.judgeBurn t ho)
  have e : (C.s.slash t.2.1 t.2.2.1 (pct t.2.2.2)).total = C.s.total - C.lost t := h.s.slash_total t.2.1 t.2.2.1 (pct t.2.2.2)
  have s := h.sum
  have s0 := h.p.sum0
  have p0 := h.pos
  refine ⟨⟨(h.p.in' _ _).burn _, h.s.slash _ _ _, h.c, ?_, ?_, fun i hi => ?_, h.bon, h.cas, h.len, h.heavy, h.seed⟩, ?_⟩
  · show (Pu.burn _ _).S = (Pu.burn _ _).sum + (C.s.slash t.2.1 t.2.2.1 (pct t.2.2.2)).total
    rw [g2.1, g2.2, g1.1, g1.2, e]
    omega
  · show 1 ≤ (Pu.burn _ _).S
    rw [g2.1, g1.1]
    omega
  · show (C.s.slash t.2.1 t.2.2.1 (pct t.2.2.2)).R i = true
    rw [Sk.slash_R]; exact h.reg i hi
  · show (Pu.burn _ _).S ≤ _
    rw [g2.1, g1.1]
    omega
theorem Ch.Ok.judge : ∀ (l : List Cs) {C : Ch}, C.Ok → (∀ t, t ∈ l → Own t.1) → (C.judge l).Ok ∧ (C.judge l).p.S ≤ C.p.S
  | [], _, h, _ => ⟨h, Int.le_refl _⟩
  | t :: l, C, h, hl => by
    have a := h.judge1 t (hl t (List.mem_cons_self ..))
    have b := Ch.Ok.judge l a.1 (fun u hu => hl u (List.mem_cons_of_mem _ hu))
    exact ⟨b.1, Int.le_trans b.2 a.2⟩
theorem Ch.judge_same : ∀ (l : List Cs) (C : Ch), (C.judge l).c = C.c ∧ (C.judge l).seed = C.seed ∧ (C.judge l).cyc = C.cyc ∧ (C.judge l).lev = C.lev ∧ (C.judge l).bon = C.bon ∧ (C.judge l).pics = C.pics
  | [], _ => ⟨rfl, rfl, rfl, rfl, rfl, rfl⟩
  | t :: l, C => Ch.judge_same l (C.judge1 t)
theorem wtOf_bd {n : Int} (_h : 0 ≤ n) : 0 ≤ wtOf n ∧ wtOf n ≤ 1073741824 := by
  unfold wtOf
  split
  · omega
  · split <;> omega
theorem Sk.Ok.picW {S : Sk} (h : S.Ok) : Weights 3 S.pic := ⟨by omega, by omega, fun k _ => wtOf_bd (h.pok k).t0⟩
theorem Ch.Ok.nextPic {C : Ch} (h : C.Ok) : Heavy C.nextPic := by
  unfold Ch.nextPic
  by_cases k : sumTo C.s.pic 3 ≠ 0
  · rw [if_pos k]; exact ⟨h.s.picW, k⟩
  · rw [if_neg k]
    have hl := h.len
    have hi : C.pics.length - 1 < C.pics.length := by omega
    rw [List.getD_eq_getElem?_getD, List.getElem?_eq_getElem hi]
    exact h.heavy _ (List.getElem_mem hi)
theorem Ch.Ok.turned {C : Ch} (h : C.Ok) : C.turned.Ok := by
  refine ⟨h.p, h.s, h.c, h.sum, h.pos, h.reg, bonusV_bd h.bon.1 h.bon.2, h.cas, ?_, ?_, h.seed⟩
  · show (C.pics ++ [C.nextPic]).length = C.cyc + 1 + 3
    rw [List.length_append, h.len]
    show C.cyc + 3 + 1 = _
    omega
  · intro W hW
    rcases List.mem_append.1 (show W ∈ C.pics ++ [C.nextPic] from hW) with g | g
    · exact h.heavy W g
    · have : W = C.nextPic := by simpa using g
      rw [this]; exact h.nextPic
theorem Ch.Ok.asked {C : Ch} (h : C.Ok) : Ch.Ok { C with c := C.c.asked } := ⟨h.p, h.s, h.c.asked, h.sum, h.pos, h.reg, h.bon, h.cas, h.len, h.heavy, h.seed⟩
theorem Ch.Ok.lev {C : Ch} (h : C.Ok) (n : Nat) : Ch.Ok { C with lev := n } := ⟨h.p, h.s, h.c, h.sum, h.pos, h.reg, h.bon, h.cas, h.len, h.heavy, h.seed⟩
theorem Ch.Ok.due_own {C : Ch} (h : C.Ok) (t : Cs) (ht : t ∈ C.c.due) : Own t.1 := (h.cas t (List.mem_of_mem_drop ht)).1
theorem Ch.Ok.ended {C : Ch} (h : C.Ok) : C.ended.Ok ∧ C.ended.p.S ≤ C.p.S := by
  have j := Ch.Ok.judge C.c.due h.asked (fun t ht => h.due_own t ht)
  exact ⟨j.1.turned, j.2⟩
theorem Ch.ended_cyc (C : Ch) : C.ended.cyc = C.cyc + 1 ∧ C.ended.lev = C.lev := by
  have j := Ch.judge_same C.c.due { C with c := C.c.asked }
  exact ⟨by show (Ch.judge _ _).cyc + 1 = _; rw [j.2.2.1], j.2.2.2.1⟩
theorem Ch.Ok.stepped {C : Ch} (h : C.Ok) : C.stepped.Ok ∧ C.stepped.p.S ≤ C.p.S := by
  unfold Ch.stepped
  by_cases k : (C.lev + 1) % 4 = 0
  · rw [if_pos k]; exact (h.lev (C.lev + 1)).ended
  · rw [if_neg k]; exact ⟨h.lev _, Int.le_refl _⟩
theorem Ch.stepped_lev (C : Ch) : C.stepped.lev = C.lev + 1 := by
  unfold Ch.stepped
  split
  · exact (Ch.ended_cyc _).2
  · rfl
theorem Ch.stepped_cyc {C : Ch} (h : C.cyc = C.lev / 4) : C.stepped.cyc = (C.lev + 1) / 4 := by
  unfold Ch.stepped
  split
  · rw [(Ch.ended_cyc _).1]; show C.cyc + 1 = _; omega
  · show C.cyc = _; omega
/-- within a cycle supply stays -/
theorem Ch.stepped_in {C : Ch} (h : C.stepped.cyc = C.cyc) : C.stepped.p = C.p ∧ C.stepped.s = C.s := by
  unfold Ch.stepped at h ⊢
  by_cases k : (C.lev + 1) % 4 = 0
  · rw [if_pos k, (Ch.ended_cyc _).1] at h
    have h : C.cyc + 1 = C.cyc := h
    omega
  · rw [if_neg k]; exact ⟨rfl, rfl⟩
theorem Ch.paid_same (C : Ch) (b : Int) : (C.paid b).cyc = C.cyc ∧ (C.paid b).lev = C.lev ∧ (C.paid b).c = C.c := by
  unfold Ch.paid
  split <;> exact ⟨rfl, rfl, rfl⟩
theorem Ch.Ok.bakeN_bd {C : Ch} (h : C.Ok) (b : Int) : 0 ≤ C.bakeN b ∧ (C.paid b).p.S = C.p.S + C.bakeN b := by
  have r := h.rew_bd
  unfold Ch.bakeN Ch.paid
  by_cases k : C.Payable b
  · rw [if_pos k, if_pos k]
    have c : C.p.growC C.rew = 0 := Pu.growC_ok ⟨r.1, by have := h.p.top; omega⟩ k.1
    exact ⟨r.1, (Pu.grow_gap c).1⟩
  · rw [if_neg k, if_neg k]; exact ⟨Int.le_refl _, by omega⟩
theorem Ch.Ok.bake {C : Ch} (h : C.Ok) (b : Int) : (C.bake b).Ok ∧ (C.bake b).p.S ≤ C.p.S + C.bakeN b ∧ ((C.bake b).cyc = C.cyc → (C.bake b).p.S = C.p.S + C.bakeN b) := by
  have a := (h.paid b).stepped
  have n := h.bakeN_bd b
  refine ⟨a.1, by rw [← n.2]; exact a.2, fun e => ?_⟩
  have := (Ch.stepped_in (C := C.paid b) (by rw [(C.paid_same b).1]; exact e)).1
  show (C.paid b).stepped.p.S = _
  rw [this, n.2]

/-! a chain begins -/
def Pu.minted (x : Pu) : Pu := (((((x.mint 0 10000).mint 1 10000).mint 2 10000).mint 3 10000).mint 4 10000).mint 5 10000
def purse0 : Pu := ((none'.minted.out 0 1000).out 1 1000).out 2 1000
def stakes0 : Sk := ((((((Sk.none.reg 0).join 0 0 1000).reg 1).join 1 1 1000).reg 2).join 2 2 1000)
def chNew (seed : Nat) : Ch := ⟨purse0, stakes0, ⟨[], 0⟩, seed, 0, 0, 0, [stakes0.pic, stakes0.pic, stakes0.pic]⟩
theorem purse0_ok : purse0.Ok := ((((((((none_ok.mint 0 10000).mint 1 10000).mint 2 10000).mint 3 10000).mint 4 10000).mint 5 10000).out' 0 1000).out' 1 1000).out' 2 1000
theorem stakes0_ok : stakes0.Ok := (((((Sk.none_ok.reg 0).join 0 0 1000).reg 1).join 1 1 1000).reg 2).join 2 2 1000
theorem stakes0_pic : Heavy stakes0.pic := ⟨stakes0_ok.picW, by decide⟩
theorem chNew_ok (seed : Nat) (hs : seed < W64) : (chNew seed).Ok where
  p := purse0_ok
  s := stakes0_ok
  c := ct0_ok
  sum := by show purse0.S = purse0.sum + stakes0.total; decide
  pos := by show 1 ≤ purse0.S; decide
  reg := fun b hb => by
    have e : b = 0 ∨ b = 1 ∨ b = 2 := by have := hb.1; have := hb.2; omega
    show stakes0.R b = true
    rcases e with rfl | rfl | rfl <;> decide
  bon := ⟨Int.le_refl _, by show (0 : Int) ≤ 5000; omega⟩
  cas := fun t ht => by cases ht
  len := rfl
  heavy := fun W hW => by
    have : W = stakes0.pic := by
      have hW : W ∈ [stakes0.pic, stakes0.pic, stakes0.pic] := hW
      simpa using hW
    rw [this]; exact stakes0_pic
  seed := hs
theorem purse0_S : purse0.S = 60000 := by decide
theorem purse0_has : purse0.s 0 = 9000 := by decide
/- on the way to it -/
def ch0 (seed : Nat) : Ch := ⟨none', Sk.none, ⟨[], 0⟩, seed, 0, 0, 0, []⟩
def mintTo : Nat → Pu
  | 0 => none'
  | j + 1 => (mintTo j).mint j 10000
theorem mintTo_ok : ∀ j, (mintTo j).Ok
  | 0 => none_ok
  | j + 1 => (mintTo_ok j).mint j 10000
def outTo : Nat → Pu
  | 0 => mintTo 6
  | j + 1 => (outTo j).out j 1000
theorem outTo_ok : ∀ j, (outTo j).Ok
  | 0 => mintTo_ok 6
  | j + 1 => (outTo_ok j).out' j 1000
def stkSt : Nat → Sk
  | 0 => Sk.none
  | j + 1 => ((stkSt j).reg j).join j j 1000
theorem stkSt_ok : ∀ j, (stkSt j).Ok
  | 0 => Sk.none_ok
  | j + 1 => ((stkSt_ok j).reg j).join j j 1000
end Go.Proofs.YtnbmelnacopdpaaGreatDoor

namespace Go.Proofs.YtnbmelnacopdpaaGreatDoor
open Go.RowKit

/-- of what was there only such blocks may have turned -/
structure KeptP (F : Nat → Prop) (w w' : World) : Prop where
  os : w'.os = w.os
  tape : w'.tape = w.tape
  output : w'.output = w.output
  size : w.heap.size ≤ w'.heap.size
  block : ∀ k, k < w.heap.size → ¬ F k → w'.heap[k]? = w.heap[k]?
theorem KeptP.refl (F : Nat → Prop) (w : World) : KeptP F w w := ⟨rfl, rfl, rfl, Nat.le_refl _, fun _ _ _ => rfl⟩
theorem KeptP.mono {F G : Nat → Prop} {a b : World} (h : KeptP F a b) (hs : ∀ k, k < a.heap.size → F k → G k) : KeptP G a b :=
  ⟨h.os, h.tape, h.output, h.size, fun i hi hx => h.block i hi (fun g => hx (hs i hi g))⟩
/-- what a second step turns beside is new -/
theorem KeptP.trans {F G : Nat → Prop} {a b c : World} (h : KeptP F a b) (k : KeptP G b c) (hg : ∀ i, i < a.heap.size → G i → F i) : KeptP F a c :=
  ⟨k.os.trans h.os, k.tape.trans h.tape, k.output.trans h.output, Nat.le_trans h.size k.size, fun i hi hx => (k.block i (Nat.lt_of_lt_of_le hi h.size) (fun g => hx (hg i hi g))).trans (h.block i hi hx)⟩
theorem KeptP.drewN {F : Nat → Prop} {a w : World} (h : KeptP F a w) (n : Nat) : KeptP F a (w.drewN n) := ⟨h.os, h.tape, h.output, h.size, h.block⟩
theorem KeptP.drew {F : Nat → Prop} {a w : World} (h : KeptP F a w) : KeptP F a w.drew := ⟨h.os, h.tape, h.output, h.size, h.block⟩
theorem KeptP.setCell {F : Nat → Prop} {a w : World} (h : KeptP F a w) {p : Addr} (hp : F p.block) (u : Value) : KeptP F a (w.setCell p u) :=
  h.trans (G := F) ⟨rfl, rfl, rfl, by simp [World.setCell], fun k _ hk => Below.heap_setCell _ _ _ _ (fun e => hk (by rw [e]; exact hp))⟩ fun _ _ g => g
theorem KeptP.of_below {F : Nat → Prop} {w w' : World} (h : Below w.heap.size w w') : KeptP F w w' := ⟨h.os, h.tape, h.output, h.size, fun k hk _ => h.block k hk⟩
theorem KeptP.of_kept {F : Nat → Prop} {X : List Nat} {w w' : World} (h : Kept X w w') (hx : ∀ k, k ∈ X → F k) : KeptP F w w' := ⟨h.os, h.tape, h.output, h.size, fun k hk hF => h.block k hk (fun g => hF (hx k g))⟩
theorem KeptP.below {F : Nat → Prop} {B : Nat} {w w' : World} (h : KeptP F w w') (hB : B ≤ w.heap.size) (hX : ∀ k, F k → B ≤ k) : Below B w w' :=
  ⟨h.os, h.tape, h.output, h.size, fun k hk => h.block k (by omega) (fun g => by have := hX k g; omega)⟩
theorem KeptP.cell {F : Nat → Prop} {w w' : World} (h : KeptP F w w') {p : Addr} (hp : p.block < w.heap.size) (hx : ¬ F p.block) : w'.cell? p = w.cell? p := World.cell?_of_block (w := w) (h.block p.block hp hx)
theorem KeptP.frozen {F : Nat → Prop} {w w' : World} (h : KeptP F w w') {p : Addr} (hp : p.block < w.heap.size) (hx : ¬ F p.block) : w'.frozen? p = w.frozen? p := World.frozen?_of_block (w := w) (h.block p.block hp hx)
theorem KeptP.old {F : Nat → Prop} {w w' : World} (h : KeptP F w w') {p : Addr} {v : Value} (hc : w.cell? p = some v) (hx : ¬ F p.block) : w'.cell? p = some v := by rw [h.cell (cell_lt hc) hx]; exact hc
/-- some blocks alone -/
theorem KeptP.kept {F : Nat → Prop} {w w' : World} (h : KeptP F w w') : Below 0 w w' := ⟨h.os, h.tape, h.output, h.size, fun k hk => by omega⟩
/-- what a step did: of what was there only its own has turned, and all that it has now it had, or it is new -/
structure Moved (F F' : Nat → Prop) (w w' : World) : Prop where
  kept : KeptP F w w'
  old : ∀ k, k < w.heap.size → F' k → F k
theorem Moved.refl (F : Nat → Prop) (w : World) : Moved F F w w := ⟨KeptP.refl _ _, fun _ _ h => h⟩
theorem Moved.trans {F F' F'' : Nat → Prop} {a b c : World} (h : Moved F F' a b) (k : Moved F' F'' b c) : Moved F F'' a c :=
  ⟨h.kept.trans k.kept h.old, fun i hi g => h.old i hi (k.old i (Nat.lt_of_lt_of_le hi h.kept.size) g)⟩
theorem Moved.drewN {F F' : Nat → Prop} {a w : World} (h : Moved F F' a w) (n : Nat) : Moved F F' a (w.drewN n) := ⟨h.kept.drewN n, h.old⟩
theorem Moved.drew {F F' : Nat → Prop} {a w : World} (h : Moved F F' a w) : Moved F F' a w.drew := ⟨h.kept.drew, h.old⟩
theorem drewN_twice (w : World) (m n : Nat) : (w.drewN m).drewN n = w.drewN (m + n) := by simp [World.drewN, Nat.add_assoc]
theorem ownsRow_keptP {B : Nat} {w w' : World} {e : TypeId} {size n : Nat} {v : Value} {xs : List Value} {F : Nat → Prop} (h : w.ownsRow B e size v n xs) (hK : KeptP F w w') (hv : ∀ g, v.ownBlock = some g → ¬ F g) : w'.ownsRow B e size v n xs := by
  refine ⟨h.1, ?_⟩
  rcases h.2 with g | ⟨g, cap, cur, rfl, hb, hg, h1, h2, h3, h4⟩
  · exact .inl g
  · refine .inr ⟨g, cap, cur, rfl, hb, ?_, h1, h2, h3, h4⟩
    have hlt : g < w.heap.size := by
      rcases Nat.lt_or_ge g w.heap.size with l | l
      · exact l
      · rw [Array.getElem?_eq_none l] at hg; cases hg
    rw [hK.block g hlt (hv g rfl)]
    exact hg
theorem step_append_by {P : Program} {ops : Array Oper} {o : Oper} {a : Act} {w : World} {K : Act → World → Prop} {Q : Exit → Act → World → Prop} {E : Prop} (hg : o.guard = none) (s x : Operand) (t : TypeId)
    (ho : o.op = .call { callee := .builtin .append, args := #[s, x], argTypes := #[t, t] }) (vs vx : Value) (hs : a.eval s = vs) (hx : a.eval x = vx) (v' : Value) (w' : World)
    (hr : (Builtin.append_ #[t, t] o.type #[vs, vx]).run P w = .ok v' w') (h : K (a.put o.dst v') w') : if Region.wanted o (yielded ops a.tmps) = true then Oper.wp P o a w K Q else E := by
  have hw : Region.wanted o (yielded ops a.tmps) = true := by simp [Region.wanted, hg]
  rw [if_pos hw]
  unfold Oper.wp execOp
  simp only [ho, resolve, invoke, builtin, Sem.run_bind, Sem.run_pure, Result.andThen_ok, List.map_toArray, List.map_cons, List.map_nil, hs, hx, hr]
  exact h
end Go.Proofs.YtnbmelnacopdpaaGreatDoor

namespace Go.Proofs.YtnbmelnacopdpaaGreatDoor
open Go.RowKit

/-- what is its own lies behind B -/
structure Mine (B : Nat) (w0 w : World) (F : Nat → Prop) : Prop where
  f : ∀ k, F k → B ≤ k
  below : Below B w0 w
  size : B ≤ w.heap.size
theorem Mine.next {B : Nat} {w0 w w' : World} {F F' : Nat → Prop} (h : Mine B w0 w F) (hM : Moved F F' w w') : Mine B w0 w' F' := by
  refine ⟨fun k hk => ?_, h.below.trans (hM.kept.below h.size h.f), Nat.le_trans h.size hM.kept.size⟩
  rcases Nat.lt_or_ge k w.heap.size with l | l
  · exact h.f k (hM.old k l hk)
  · exact Nat.le_trans h.size l
theorem Mine.nextB {B : Nat} {w0 w w' : World} {F : Nat → Prop} (h : Mine B w0 w F) (k : Below w.heap.size w w') : Mine B w0 w' F :=
  ⟨h.f, h.below.trans (k.mono h.size), Nat.le_trans h.size k.size⟩
theorem Mine.drewN {B : Nat} {w0 w : World} {F : Nat → Prop} (h : Mine B w0 w F) (n : Nat) : Mine B w0 (w.drewN n) F := h.nextB (below_drewN (Below.refl _ _) n)
theorem Mine.new {w w' : World} {F : Nat → Prop} (hF : ∀ k, F k → w.heap.size ≤ k) (hB : Below w.heap.size w w') : Mine w.heap.size w w' F := ⟨hF, hB, hB.size⟩
/-- what lies apart, and behind B -/
structure Sides (B : Nat) (w0 w : World) (F G : Nat → Prop) : Prop where
  apart : ∀ k, F k → ¬ G k
  f : ∀ k, F k → B ≤ k
  g : ∀ k, G k → B ≤ k
  below : Below B w0 w
  size : B ≤ w.heap.size
theorem Sides.nextB {B : Nat} {w0 w w' : World} {F G : Nat → Prop} (h : Sides B w0 w F G) (k : Below w.heap.size w w') : Sides B w0 w' F G :=
  ⟨h.apart, h.f, h.g, h.below.trans (k.mono h.size), Nat.le_trans h.size k.size⟩
theorem Sides.drewN {B : Nat} {w0 w : World} {F G : Nat → Prop} (h : Sides B w0 w F G) (n : Nat) : Sides B w0 (w.drewN n) F G := h.nextB (below_drewN (Below.refl _ _) n)
/-- a cell of another's -/
theorem Moved.cell {F F' : Nat → Prop} {w w' : World} (h : Moved F F' w w') {p : Addr} {v : Value} (hc : w.cell? p = some v) (hx : ¬ F p.block) : w'.cell? p = some v := h.kept.old hc hx
/-- a step of the first, of the second -/
theorem Sides.one {B : Nat} {w0 w w' : World} {F F' G : Nat → Prop} (h : Sides B w0 w F G) (hlt : ∀ k, G k → k < w.heap.size) (hM : Moved F F' w w') : Sides B w0 w' F' G := by
  refine ⟨fun k hk hg => ?_, fun k hk => ?_, h.g, h.below.trans (hM.kept.below h.size h.f), Nat.le_trans h.size hM.kept.size⟩
  · exact h.apart k (hM.old k (hlt k hg) hk) hg
  · rcases Nat.lt_or_ge k w.heap.size with l | l
    · exact h.f k (hM.old k l hk)
    · exact Nat.le_trans h.size l
theorem Sides.two {B : Nat} {w0 w w' : World} {F G G' : Nat → Prop} (h : Sides B w0 w F G) (hlt : ∀ k, F k → k < w.heap.size) (hM : Moved G G' w w') : Sides B w0 w' F G' := by
  refine ⟨fun k hk hg => ?_, h.f, fun k hk => ?_, h.below.trans (hM.kept.below h.size h.g), Nat.le_trans h.size hM.kept.size⟩
  · exact h.apart k hk (hM.old k (hlt k hk) hg)
  · rcases Nat.lt_or_ge k w.heap.size with l | l
    · exact h.g k (hM.old k l hk)
    · exact Nat.le_trans h.size l
end Go.Proofs.YtnbmelnacopdpaaGreatDoor

namespace Go.Proofs.YtnbmelnacopdpaaGreatDoor
open Go.RowKit

/-- tags anew, where the part t has become G -/
noncomputable def retag (tag : Nat → Nat) (t : Nat) (G : Nat → Prop) : Nat → Nat := fun k => open Classical in if G k then t else if tag k = t then 0 else tag k
theorem retag_is {tag : Nat → Nat} {t : Nat} {G : Nat → Prop} {k : Nat} (h : G k) : retag tag t G k = t := if_pos h
theorem retag_not {tag : Nat → Nat} {t : Nat} {G : Nat → Prop} {k : Nat} (h : ¬ G k) (n : tag k ≠ t) : retag tag t G k = tag k := by unfold retag; rw [if_neg h, if_neg n]
theorem retag_iff {tag : Nat → Nat} {t : Nat} {G : Nat → Prop} (ht : t ≠ 0) (k : Nat) : retag tag t G k = t ↔ G k := by
  refine ⟨fun e => ?_, retag_is⟩
  by_cases g : G k
  · exact g
  · unfold retag at e
    rw [if_neg g] at e
    split at e
    · exact absurd e.symm ht
    · rename_i n; exact absurd e n
theorem retag_other {tag : Nat → Nat} {t u : Nat} {w w' : World} {G : Nat → Prop} (hM : Moved (fun k => tag k = t) G w w') (hl : ∀ k, tag k ≠ 0 → k < w.heap.size) (ut : u ≠ t) (u0 : u ≠ 0) {k : Nat} (h : tag k = u) : retag tag t G k = u := by
  have n : tag k ≠ t := by rw [h]; exact ut
  rw [retag_not (fun g => n (hM.old k (hl k (by rw [h]; exact u0)) g)) n, h]
theorem retag_back {tag : Nat → Nat} {t u : Nat} {G : Nat → Prop} (ut : u ≠ t) (u0 : u ≠ 0) {k : Nat} (h : retag tag t G k = u) : tag k = u := by
  unfold retag at h
  split at h
  · exact absurd h.symm ut
  · split at h
    · exact absurd h.symm u0
    · exact h
theorem retag_iff' {tag : Nat → Nat} {t u : Nat} {w w' : World} {G : Nat → Prop} (hM : Moved (fun k => tag k = t) G w w') (hl : ∀ k, tag k ≠ 0 → k < w.heap.size) (ut : u ≠ t) (u0 : u ≠ 0) : (fun k => retag tag t G k = u) = (fun k => tag k = u) := by
  funext k
  exact propext ⟨retag_back ut u0, retag_other hM hl ut u0⟩
theorem retag_moved {tag : Nat → Nat} {t : Nat} {w w' : World} {F G : Nat → Prop} (hF : ∀ k, F k ↔ tag k ≠ 0) (hM : Moved (fun k => tag k = t) G w w') (t0 : t ≠ 0) : Moved F (fun k => retag tag t G k ≠ 0) w w' := by
  refine ⟨hM.kept.mono fun k _ e => (hF k).2 (by rw [e]; exact t0), fun k hk h => ?_⟩
  by_cases g : G k
  · exact (hF k).2 (by rw [hM.old k hk g]; exact t0)
  · unfold retag at h
    rw [if_neg g] at h
    split at h
    · exact absurd rfl h
    · exact (hF k).2 h
end Go.Proofs.YtnbmelnacopdpaaGreatDoor

namespace Go.Proofs.YtnbmelnacopdpaaGreatDoor
open Go.RowKit

theorem owner_yes (o : Int) (h0 : 0 ≤ o) (h6 : o < 6) (w : World) :
    Calls Tryz.prog 68 #[.int .i64 o] w fun e w' => e = .returned (.bool true) ∧ w' = w := by
  go_enter Tryz.func68, Tryz.ntmps68
  go_wp2
  go_ret
  exact ⟨rfl, rfl⟩
theorem owner_no (o : Int) (h : ¬ (0 ≤ o ∧ o < 6)) (w : World) :
    Calls Tryz.prog 68 #[.int .i64 o] w fun e w' => e = .returned (.bool false) ∧ w' = w := by
  by_cases h0 : 0 ≤ o
  · have h6 : ¬ o < 6 := by omega
    clear h
    go_enter Tryz.func68, Tryz.ntmps68
    go_wp2
    go_ret
    exact ⟨rfl, rfl⟩
  · clear h
    go_enter Tryz.func68, Tryz.ntmps68
    go_wp2
    go_ret
    exact ⟨rfl, rfl⟩
theorem some_yes (n : Int) (h0 : 1 ≤ n) (h1 : n ≤ 1125899906842624) (w : World) :
    Calls Tryz.prog 120 #[.int .i64 n] w fun e w' => e = .returned (.bool true) ∧ w' = w := by
  go_enter Tryz.func120, Tryz.ntmps120
  go_wp2
  go_ret
  exact ⟨rfl, rfl⟩
theorem some_no (n : Int) (h : ¬ (1 ≤ n ∧ n ≤ 1125899906842624)) (w : World) :
    Calls Tryz.prog 120 #[.int .i64 n] w fun e w' => e = .returned (.bool false) ∧ w' = w := by
  by_cases h0 : 1 ≤ n
  · have h1 : ¬ n ≤ 1125899906842624 := by omega
    clear h
    go_enter Tryz.func120, Tryz.ntmps120
    go_wp2
    go_ret
    exact ⟨rfl, rfl⟩
  · clear h
    go_enter Tryz.func120, Tryz.ntmps120
    go_wp2
    go_ret
    exact ⟨rfl, rfl⟩
theorem amount_yes (n : Int) (h0 : 0 ≤ n) (h1 : n ≤ 1125899906842624) (w : World) :
    Calls Tryz.prog 97 #[.int .i64 n] w fun e w' => e = .returned (.bool true) ∧ w' = w := by
  go_enter Tryz.func97, Tryz.ntmps97
  go_wp2
  go_ret
  exact ⟨rfl, rfl⟩
theorem amount_no (n : Int) (h : ¬ (0 ≤ n ∧ n ≤ 1125899906842624)) (w : World) :
    Calls Tryz.prog 97 #[.int .i64 n] w fun e w' => e = .returned (.bool false) ∧ w' = w := by
  by_cases h0 : 0 ≤ n
  · have h1 : ¬ n ≤ 1125899906842624 := by omega
    clear h
    go_enter Tryz.func97, Tryz.ntmps97
    go_wp2
    go_ret
    exact ⟨rfl, rfl⟩
  · clear h
    go_enter Tryz.func97, Tryz.ntmps97
    go_wp2
    go_ret
    exact ⟨rfl, rfl⟩
end Go.Proofs.YtnbmelnacopdpaaGreatDoor

namespace Go.Proofs.YtnbmelnacopdpaaGreatDoor

/-- a sentinel's value: a pointer to an errors.errorString -/
abbrev sent (a : Addr) : Value := .iface 233 (.pointer (some a))
theorem drew_cell (w : World) (n : Nat) (a : Addr) : (w.drewN n).cell? a = w.cell? a := by simp
end Go.Proofs.YtnbmelnacopdpaaGreatDoor

namespace Go.Proofs.YtnbmelnacopdpaaGreatDoor

/-- an error's value, by its number -/
def ErrIs (A : Nat → Addr) (e : Value) (c : Int) : Prop := (c = 0 ∧ e = .nilIface) ∨ ∃ i : Nat, i < 10 ∧ c = i + 1 ∧ e = sent (A i)
end Go.Proofs.YtnbmelnacopdpaaGreatDoor

namespace Go.Proofs.YtnbmelnacopdpaaGreatDoor
open Go.RowKit

/-- what the purse's errors hold -/
structure PurLaid (w : World) (A : Nat → Addr) : Prop where
  v1 : w.cell? ⟨0, 0, none⟩ = some (sent (A 1))
  v5 : w.cell? ⟨5, 0, none⟩ = some (sent (A 5))
theorem PurLaid.below {w w' : World} {A : Nat → Addr} (h : PurLaid w A) (hB : Below w.heap.size w w') : PurLaid w' A :=
  ⟨by rw [hB.cell (cell_lt h.v1)]; exact h.v1, by rw [hB.cell (cell_lt h.v5)]; exact h.v5⟩
theorem PurLaid.drewN {w : World} {A : Nat → Addr} (h : PurLaid w A) (n : Nat) : PurLaid (w.drewN n) A := h.below (below_drewN (Below.refl _ _) n)
theorem err_none (A : Nat → Addr) {c : Int} (h : c = 0) : ErrIs A .nilIface c := .inl ⟨h, rfl⟩
theorem err_bound (A : Nat → Addr) {c : Int} (h : c = 2) : ErrIs A (sent (A 1)) c := .inr ⟨1, by omega, by omega, rfl⟩
theorem err_short (A : Nat → Addr) {c : Int} (h : c = 6) : ErrIs A (sent (A 5)) c := .inr ⟨5, by omega, by omega, rfl⟩

/-- six numbers, and a seventh -/
structure PRaw (w : World) (b : Nat) (f : Int → Int) (N : Int) : Prop where
  s : ∀ i : Nat, i < 6 → w.cell? ⟨b, i, none⟩ = some (.int .i64 (f i))
  c6 : w.cell? ⟨b, 6, none⟩ = some (.int .i64 N)
  f : ∀ i : Nat, w.frozen? ⟨b, i, none⟩ = false
theorem PRaw.drewN {w : World} {b : Nat} {f : Int → Int} {N : Int} (h : PRaw w b f N) (n : Nat) : PRaw (w.drewN n) b f N := ⟨h.s, h.c6, h.f⟩
theorem PRaw.drew {w : World} {b : Nat} {f : Int → Int} {N : Int} (h : PRaw w b f N) : PRaw w.drew b f N := ⟨h.s, h.c6, h.f⟩
theorem PRaw.setN {w : World} {b : Nat} {f : Int → Int} {N : Int} (h : PRaw w b f N) (v : Int) : PRaw (w.setCell ⟨b, 6, none⟩ (.int .i64 v)) b f v where
  s := fun i hi => by rw [World.cell?_setCell_other _ _ _ _ (fun e => absurd (congrArg Addr.off e) (show ¬ 6 = i by omega))]; exact h.s i hi
  c6 := World.cell?_setCell_same _ _ _ h.c6
  f := fun i => by rw [World.frozen?_setCell]; exact h.f i
theorem PRaw.setO {w : World} {b : Nat} {f : Int → Int} {N : Int} (h : PRaw w b f N) (k : Nat) (hk : k < 6) (v : Int) : PRaw (w.setCell ⟨b, k, none⟩ (.int .i64 v)) b (put f k v) N where
  s := fun i hi => by
    by_cases e : i = k
    · subst e
      rw [World.cell?_setCell_same _ _ _ (h.s i hi), put_same]
    · rw [World.cell?_setCell_other _ _ _ _ (by simp; try omega), put_other _ _ _ _ (by omega)]; exact h.s i hi
  c6 := by rw [World.cell?_setCell_other _ _ _ _ (fun e => absurd (congrArg Addr.off e) (show ¬ k = 6 by omega))]; exact h.c6
  f := fun i => by rw [World.frozen?_setCell]; exact h.f i

/-- the program's purse, as it lies in memory: what each may spend, and what is nobody's -/
structure PurAt (w : World) (b : Nat) (x : Pu) : Prop where
  raw : PRaw w b x.s (x.S - x.sum)
  ok : x.Ok
theorem PurAt.drewN {w : World} {b : Nat} {x : Pu} (h : PurAt w b x) (n : Nat) : PurAt (w.drewN n) b x := ⟨h.raw.drewN n, h.ok⟩
theorem PurAt.lt {w : World} {b : Nat} {x : Pu} (h : PurAt w b x) : b < w.heap.size := cell_lt h.raw.c6
theorem PurAt.kept {w w' : World} {b : Nat} {x : Pu} {X : List Nat} (h : PurAt w b x) (hK : Kept X w w') (hb : b ∉ X) : PurAt w' b x where
  raw := ⟨fun i hi => hK.old (h.raw.s i hi) hb, hK.old h.raw.c6 hb, fun i => by rw [hK.frozen (p := ⟨b, i, none⟩) h.lt hb]; exact h.raw.f i⟩
  ok := h.ok

/-- what is nobody's, and the first so many owners' -/
def preS (N : Int) (f : Int → Int) : Nat → Int
  | 0 => N
  | k + 1 => preS N f k + f k
theorem preS_six (x : Pu) : preS (x.S - x.sum) x.s 6 = x.S := by simp [preS, Pu.sum]; omega
theorem preS_bd {x : Pu} (h : x.Ok) : ∀ k, k ≤ 6 → 0 ≤ preS (x.S - x.sum) x.s k ∧ preS (x.S - x.sum) x.s k ≤ x.S
  | 0, _ => ⟨by have := h.le; simp only [preS]; omega, by have := h.sum0; simp only [preS]; omega⟩
  | k + 1, hk => by
    have h0 := h.pos 0
    have h1 := h.pos 1
    have h2 := h.pos 2
    have h3 := h.pos 3
    have h4 := h.pos 4
    have h5 := h.pos 5
    have hl := h.le
    unfold Pu.sum at hl
    have : k = 0 ∨ k = 1 ∨ k = 2 ∨ k = 3 ∨ k = 4 ∨ k = 5 := by omega
    rcases this with rfl | rfl | rfl | rfl | rfl | rfl <;> (simp [preS, Pu.sum]; omega)
theorem six_at0 (f : Int → Int) (w : World) : (Instr.index 109 (.agg #[.int .i64 (f 0), .int .i64 (f 1), .int .i64 (f 2), .int .i64 (f 3), .int .i64 (f 4), .int .i64 (f 5)]) (.int .i64 0)).run Tryz.prog w = .ok (.int .i64 (f 0)) w := by kernel_rfl
theorem six_at1 (f : Int → Int) (w : World) : (Instr.index 109 (.agg #[.int .i64 (f 0), .int .i64 (f 1), .int .i64 (f 2), .int .i64 (f 3), .int .i64 (f 4), .int .i64 (f 5)]) (.int .i64 1)).run Tryz.prog w = .ok (.int .i64 (f 1)) w := by kernel_rfl
theorem six_at2 (f : Int → Int) (w : World) : (Instr.index 109 (.agg #[.int .i64 (f 0), .int .i64 (f 1), .int .i64 (f 2), .int .i64 (f 3), .int .i64 (f 4), .int .i64 (f 5)]) (.int .i64 2)).run Tryz.prog w = .ok (.int .i64 (f 2)) w := by kernel_rfl
theorem six_at3 (f : Int → Int) (w : World) : (Instr.index 109 (.agg #[.int .i64 (f 0), .int .i64 (f 1), .int .i64 (f 2), .int .i64 (f 3), .int .i64 (f 4), .int .i64 (f 5)]) (.int .i64 3)).run Tryz.prog w = .ok (.int .i64 (f 3)) w := by kernel_rfl
theorem six_at4 (f : Int → Int) (w : World) : (Instr.index 109 (.agg #[.int .i64 (f 0), .int .i64 (f 1), .int .i64 (f 2), .int .i64 (f 3), .int .i64 (f 4), .int .i64 (f 5)]) (.int .i64 4)).run Tryz.prog w = .ok (.int .i64 (f 4)) w := by kernel_rfl
theorem six_at5 (f : Int → Int) (w : World) : (Instr.index 109 (.agg #[.int .i64 (f 0), .int .i64 (f 1), .int .i64 (f 2), .int .i64 (f 3), .int .i64 (f 4), .int .i64 (f 5)]) (.int .i64 5)).run Tryz.prog w = .ok (.int .i64 (f 5)) w := by kernel_rfl
theorem six_at (f : Int → Int) (k : Nat) (hk : k < 6) (w : World) : (Instr.index 109 (.agg #[.int .i64 (f 0), .int .i64 (f 1), .int .i64 (f 2), .int .i64 (f 3), .int .i64 (f 4), .int .i64 (f 5)]) (.int .i64 k)).run Tryz.prog w = .ok (.int .i64 (f k)) w := by
  have : k = 0 ∨ k = 1 ∨ k = 2 ∨ k = 3 ∨ k = 4 ∨ k = 5 := by omega
  rcases this with rfl | rfl | rfl | rfl | rfl | rfl
  · exact six_at0 f w
  · exact six_at1 f w
  · exact six_at2 f w
  · exact six_at3 f w
  · exact six_at4 f w
  · exact six_at5 f w

set_option maxRecDepth 100000 in
set_option maxHeartbeats 1000000 in
theorem pu_supply (b : Nat) (x : Pu) (w : World) (h : PurAt w b x) :
    Calls Tryz.prog 51 #[.pointer (some ⟨b, 0, none⟩)] w fun e w' => e = .returned (.int .i64 x.S) ∧ w' = w := by
  have c6 := h.raw.c6
  have s0 := h.raw.s 0 (by omega)
  have s1 := h.raw.s 1 (by omega)
  have s2 := h.raw.s 2 (by omega)
  have s3 := h.raw.s 3 (by omega)
  have s4 := h.raw.s 4 (by omega)
  have s5 := h.raw.s 5 (by omega)
  have a2 := h.ok.top
  have hx := h.ok
  have E := hide (preS_six x)
  have D := hide (@preS_bd x hx)
  clear h
  obtain ⟨N, hN⟩ : ∃ N, x.S - x.sum = N := ⟨_, rfl⟩
  rw [hN] at c6 E D
  clear hN hx
  go_enter Tryz.func51, Tryz.ntmps51
  go_wp2
  go_loop [3, 14] (fun n i => ∃ k : Nat, k ≤ 6 ∧ i = .int .i64 k ∧ n = .int .i64 (preS N x.s k)) (fun _ i => 6 - (intOf i).toNat)
  case atStart => exact ⟨0, by omega, rfl, rfl⟩
  case round =>
    obtain ⟨k, hk, rfl, rfl⟩ := hrel
    by_cases hlt : k < 6
    · have hi := six_at x.s k hlt
      have hp := D.out k (by omega)
      have hq := D.out (k + 1) (by omega)
      have he : preS N x.s (k + 1) = preS N x.s k + x.s k := rfl
      rw [he] at hq
      clear he
      go_wp2
      go_round
      case rel => exact ⟨k + 1, by omega, by go_num, rfl⟩
      case measure => simp [intOf]; omega
    · obtain rfl : k = 6 := by omega
      go_wp2
      go_ret
      exact ⟨ret_int E.out, rfl⟩
theorem pu_has (b : Nat) (x : Pu) (hx : x.Ok) (o : Int) (w : World) (h : PurAt w b x) :
    Calls Tryz.prog 52 #[.pointer (some ⟨b, 0, none⟩), .int .i64 o] w fun e w' => e = .returned (.int .i64 (x.s o)) ∧ w' = w := by
  by_cases ho : 0 ≤ o ∧ o < 6
  · have IO := owner_yes o ho.1 ho.2
    obtain ⟨k, rfl⟩ : ∃ k : Nat, o = k := ⟨o.toNat, by omega⟩
    have hk : k < 6 := by omega
    have cs := h.raw.s k hk
    clear ho
    go_enter Tryz.func52, Tryz.ntmps52
    go_wp2_with (go_at_call 68; refine (IO _).mono ?_; rintro e w' ⟨rfl, rfl⟩)
    go_ret
    exact ⟨rfl, rfl⟩
  · have IO := owner_no o ho
    have E := hide (hx.out o ho)
    clear ho
    go_enter Tryz.func52, Tryz.ntmps52
    go_wp2_with (go_at_call 68; refine (IO _).mono ?_; rintro e w' ⟨rfl, rfl⟩)
    go_ret
    exact ⟨ret_int E.out.symm, rfl⟩
set_option maxHeartbeats 1000000 in
/-- may it grow by so much? -/
theorem pu_may (b : Nat) (x : Pu) (hx : x.Ok) (n : Int) (hn : Amt n ∧ x.S + n ≤ 1125899906842624) (w : World) (h : PurAt w b x) :
    Calls Tryz.prog 69 #[.pointer (some ⟨b, 0, none⟩), .int .i64 n] w fun e w' => e = .returned (.bool true) ∧ w' = w := by
  have I := amount_yes n hn.1.1 hn.1.2
  have s0 := hx.sum0
  have a1 := hx.le
  have a2 := hx.top
  have J := amount_yes (x.S + n) (by have := hn.1.1; omega) hn.2
  have n0 := hn.1.1
  have n1 := hn.1.2
  have n2 := hn.2
  clear hn
  go_enter Tryz.func69, Tryz.ntmps69
  go_wp2_with fail
  refine (I _).mono ?_
  rintro e w' ⟨rfl, rfl⟩
  go_wp2_with fail
  refine (pu_supply b x _ h).mono ?_
  rintro e w' ⟨rfl, rfl⟩
  go_wp2_with fail
  refine (J _).mono ?_
  rintro e w' ⟨rfl, rfl⟩
  go_wp2_with fail
  go_ret
  exact ⟨rfl, rfl⟩
set_option maxHeartbeats 1000000 in
theorem pu_mayNot (b : Nat) (x : Pu) (hx : x.Ok) (n : Int) (hn : ¬ (Amt n ∧ x.S + n ≤ 1125899906842624)) (w : World) (h : PurAt w b x) :
    Calls Tryz.prog 69 #[.pointer (some ⟨b, 0, none⟩), .int .i64 n] w fun e w' => e = .returned (.bool false) ∧ w' = w := by
  by_cases hb : Amt n
  · have I := amount_yes n hb.1 hb.2
    have s0 := hx.sum0
    have a1 := hx.le
    have a2 := hx.top
    have n0 := hb.1
    have n1 := hb.2
    have n2 : ¬ x.S + n ≤ 1125899906842624 := fun g => hn ⟨hb, g⟩
    have J := amount_no (x.S + n) (fun g => n2 g.2)
    clear hn hb
    go_enter Tryz.func69, Tryz.ntmps69
    go_wp2_with fail
    refine (I _).mono ?_
    rintro e w' ⟨rfl, rfl⟩
    go_wp2_with fail
    refine (pu_supply b x _ h).mono ?_
    rintro e w' ⟨rfl, rfl⟩
    go_wp2_with fail
    refine (J _).mono ?_
    rintro e w' ⟨rfl, rfl⟩
    go_wp2_with fail
    go_ret
    exact ⟨rfl, rfl⟩
  · have I := amount_no n hb
    clear hn hb
    go_enter Tryz.func69, Tryz.ntmps69
    go_wp2_with fail
    refine (I _).mono ?_
    rintro e w' ⟨rfl, rfl⟩
    go_wp2_with fail
    go_ret
    exact ⟨rfl, rfl⟩
end Go.Proofs.YtnbmelnacopdpaaGreatDoor
