/-
  A chain, plainly: its purse, its stakes, its court, pictures by cycles; what each act makes of it; supply is what all may spend, and all that is staked or waits.
  A chain, plainly: a cycle ends; a block is baked; what supply becomes.
  Small facts on worlds.
  Worlds that are alike but for some blocks.
  Worlds that are alike but for blocks of one kind; parts of memory told by tags.
-/
import Derived.Test.YtaihcceobnfmhaaDoorQuoX
import Derived.Test.YtaihcceobnfmhaaDoorIssueMathX
import Derived.Test.YtaihcceobnfmhaaDoorWaitsMathX
import Derived.Laws.AppendOwn
import Derived.Deep.RegionLaw
namespace Go.Proofs.YtaihcceobnfmhaaDoor

/-! purses: what is nobody's -/
theorem Pu.move_gap (x : Pu) (o t n : Int) : (x.move o t n).S = x.S ∧ (x.move o t n).sum = x.sum := by
  unfold Pu.move
  by_cases h : x.moveC o t n = 0
  · rw [if_pos h]
    refine ⟨rfl, ?_⟩
    have hb : Own o ∧ Own t ∧ Amt n := by
      by_cases g : Own o ∧ Own t ∧ Amt n
      · exact g
      · unfold Pu.moveC at h; rw [if_pos g] at h; omega
    rw [sum_put ⟨put x.s o (x.s o - n), x.S⟩ _ _ _ hb.2.1, sum_put x _ _ _ hb.1]
    show _ - put x.s o (x.s o - n) t + _ = _
    omega
  · rw [if_neg h]; exact ⟨rfl, rfl⟩
theorem Pu.outC_in {x : Pu} {o n : Int} (h : x.outC o n = 0) : Own o ∧ Amt n ∧ n ≤ x.s o := by
  unfold Pu.outC at h
  by_cases g : Own o ∧ Amt n
  · rw [if_neg (not_not_intro g)] at h
    by_cases k : x.s o < n
    · rw [if_pos k] at h; omega
    · exact ⟨g.1, g.2, by omega⟩
  · rw [if_pos g] at h; omega
theorem Pu.out_gap {x : Pu} {o n : Int} (h : x.outC o n = 0) : (x.out o n).S = x.S ∧ (x.out o n).sum = x.sum - n := by
  have g := Pu.outC_in h
  unfold Pu.out
  rw [if_pos h]
  exact ⟨rfl, by rw [sum_put x _ _ _ g.1]; omega⟩
theorem Pu.inC_ok {x : Pu} {o n : Int} (ho : Own o) (hn : Amt n) (h : n ≤ x.S - x.sum) : x.inC o n = 0 := by
  unfold Pu.inC
  rw [if_neg (not_not_intro ⟨ho, hn⟩), if_neg (by omega)]
theorem Pu.in_gap {x : Pu} {o n : Int} (ho : Own o) (h : x.inC o n = 0) : (x.in' o n).S = x.S ∧ (x.in' o n).sum = x.sum + n := by
  unfold Pu.in'
  rw [if_pos h]
  exact ⟨rfl, by rw [sum_put x _ _ _ ho]; omega⟩
theorem Pu.burnC_ok {x : Pu} {n : Int} (hn : Amt n) (h : n ≤ x.S - x.sum) : x.burnC n = 0 := by
  unfold Pu.burnC
  rw [if_neg (not_not_intro hn), if_neg (by omega)]
theorem Pu.burn_gap {x : Pu} {n : Int} (h : x.burnC n = 0) : (x.burn n).S = x.S - n ∧ (x.burn n).sum = x.sum := by
  unfold Pu.burn
  rw [if_pos h]
  exact ⟨rfl, rfl⟩
theorem Pu.growC_ok {x : Pu} {n : Int} (hn : Amt n) (h : x.S + n ≤ 1125899906842624) : x.growC n = 0 := if_pos ⟨hn, h⟩
theorem Pu.grow_gap {x : Pu} {n : Int} (h : x.growC n = 0) : (x.grow n).S = x.S + n ∧ (x.grow n).sum = x.sum := by
  unfold Pu.grow
  rw [if_pos h]
  exact ⟨rfl, rfl⟩
/-- out, and in again -/
theorem Pu.out_in {x : Pu} {o n : Int} (hx : x.Ok) (h : x.outC o n = 0) : (x.out o n).in' o n = x := by
  obtain ⟨ho, hn, hl⟩ := Pu.outC_in h
  have g := Pu.out_gap h
  have c : (x.out o n).inC o n = 0 := Pu.inC_ok ho hn (by rw [g.1, g.2]; have := hx.le; omega)
  unfold Pu.in'
  rw [if_pos c]
  unfold Pu.out
  rw [if_pos h]
  show (Pu.mk (put (put x.s o (x.s o - n)) o (put x.s o (x.s o - n) o + n)) x.S) = x
  have e : put (put x.s o (x.s o - n)) o (put x.s o (x.s o - n) o + n) = x.s := by
    funext i
    by_cases k : i = o
    · subst k; rw [put_same, put_same]; omega
    · rw [put_other _ _ _ _ k, put_other _ _ _ _ k]
  rw [e]

/-- a chain -/
structure Ch where
  p : Pu
  s : Sk
  c : Ct
  seed : Nat
  cyc : Nat
  lev : Nat
  bon : Int
  pics : List (Nat → Int)
def Ch.pic (C : Ch) : Nat → Int := C.pics.getD C.cyc (fun _ => 0)
def Ch.staked (C : Ch) : Int := (C.s.P 0).T + (C.s.P 1).T + (C.s.P 2).T
def Ch.ratio (C : Ch) : Int := ratioN C.staked C.p.S
def Ch.rate (C : Ch) : Int := rateN C.ratio C.bon
def Ch.rew (C : Ch) : Int := rewardN C.p.S C.rate
def pct (n : Int) : Int := if n % 2 = 0 then 5 else 50
/-- weights of which one is not 0 -/
def Heavy (W : Nat → Int) : Prop := Weights 3 W ∧ sumTo W 3 ≠ 0
/-- all but that the cycle is a fourth of the level -/
structure Ch.Ok (C : Ch) : Prop where
  p : C.p.Ok
  s : C.s.Ok
  c : C.c.Ok
  sum : C.p.S = C.p.sum + C.s.total
  pos : 1 ≤ C.p.S
  reg : ∀ b, Bk b → C.s.R b = true
  bon : 0 ≤ C.bon ∧ C.bon ≤ 5000
  cas : ∀ t, t ∈ C.c.L → Own t.1 ∧ Bk t.2.1
  len : C.pics.length = C.cyc + 3
  heavy : ∀ W, W ∈ C.pics → Heavy W
  seed : C.seed < W64
theorem Ch.Ok.turn {C : Ch} (h : C.Ok) : Heavy C.pic := by
  have hl := h.len
  have hi : C.cyc < C.pics.length := by omega
  unfold Ch.pic
  rw [List.getD_eq_getElem?_getD, List.getElem?_eq_getElem hi]
  exact h.heavy _ (List.getElem_mem hi)
theorem Sk.Ok.P_bd {S : Sk} (h : S.Ok) (b : Int) : 0 ≤ (S.P b).T ∧ (S.P b).T ≤ 1125899906842624 := ⟨(h.pok b).t0, (h.pok b).t1⟩
theorem Sk.Ok.staked_le {S : Sk} (h : S.Ok) : (S.P 0).T + (S.P 1).T + (S.P 2).T ≤ S.total := by
  have := sumK_nonneg (f := fun b c => (S.W b c).T) S.K (fun k _ => (h.wok k.1 k.2).t0)
  unfold Sk.total
  omega
theorem Ch.Ok.ratioOk {C : Ch} (h : C.Ok) : RatioOk C.staked C.p.S := by
  have a := h.p.sum0
  have b := h.p.top
  have c := h.pos
  have d := h.s.staked_le
  have e := h.sum
  have p0 := (h.s.P_bd 0).1
  have p1 := (h.s.P_bd 1).1
  have p2 := (h.s.P_bd 2).1
  unfold Ch.staked
  exact ⟨⟨by omega, by omega⟩, c, b, by omega⟩
theorem Ch.Ok.ratio_bd {C : Ch} (h : C.Ok) : 0 ≤ C.ratio ∧ C.ratio ≤ 1000000 := by
  unfold Ch.ratio ratioN
  rw [if_pos h.ratioOk]
  exact Go.Proofs.YtaihcceobnfmhaaDoor.ratio_bd h.ratioOk
theorem Ch.Ok.rateOk {C : Ch} (h : C.Ok) : RateOk C.ratio C.bon := ⟨h.ratio_bd, h.bon⟩
theorem Ch.Ok.rate_bd {C : Ch} (h : C.Ok) : 5000 ≤ C.rate ∧ C.rate ≤ 45000 := by
  unfold Ch.rate rateN
  rw [if_pos h.rateOk]
  have := bendR_bd h.ratio_bd.1 h.ratio_bd.2
  have := h.bon
  omega
theorem Ch.Ok.rewardOk {C : Ch} (h : C.Ok) : RewardOk C.p.S C.rate := by
  have := h.rate_bd
  have := h.pos
  have := h.p.top
  exact ⟨⟨by omega, by omega⟩, by omega, by omega⟩
theorem Ch.Ok.rew_bd {C : Ch} (h : C.Ok) : 0 ≤ C.rew ∧ C.rew ≤ C.p.S := by
  unfold Ch.rew rewardN
  rw [if_pos h.rewardOk]
  have := reward_bd h.rewardOk
  have := h.pos
  omega

/-! acts -/
def Ch.pay (C : Ch) (o t n : Int) : Ch := { C with p := C.p.move o t n }
def Ch.stakeC (C : Ch) (o b n : Int) : Int := if C.p.outC o n ≠ 0 then C.p.outC o n else C.s.joinC o b n
def Ch.stake (C : Ch) (o b n : Int) : Ch := if C.stakeC o b n = 0 then { C with p := C.p.out o n, s := C.s.join o b n } else C
def Ch.unstake (C : Ch) (o b n : Int) : Ch := { C with s := C.s.leave o b n C.cyc }
def Ch.free (C : Ch) (o : Int) : Ch := if C.s.freeC o C.cyc = 0 then { C with p := C.p.in' o (C.s.freeN o C.cyc), s := C.s.free o C.cyc } else C
def Ch.accuse (C : Ch) (o : Int) (e : Ev) : Ch := { C with c := C.c.acc o e C.cyc }
abbrev Ch.Payable (C : Ch) (b : Int) : Prop := C.p.S + C.rew ≤ 1125899906842624 ∧ C.s.addC b C.rew = 0
def Ch.bakeN (C : Ch) (b : Int) : Int := if C.Payable b then C.rew else 0
def Ch.paid (C : Ch) (b : Int) : Ch := if C.Payable b then { C with p := C.p.grow C.rew, s := C.s.add b C.rew } else C
def Ch.lost (C : Ch) (t : Cs) : Int := C.s.slashN t.2.1 t.2.2.1 (pct t.2.2.2)
def Ch.judge1 (C : Ch) (t : Cs) : Ch := { C with p := (C.p.in' t.1 (C.lost t / 7)).burn (C.lost t - C.lost t / 7), s := C.s.slash t.2.1 t.2.2.1 (pct t.2.2.2) }
def Ch.judge (C : Ch) (l : List Cs) : Ch := l.foldl Ch.judge1 C
def Ch.nextPic (C : Ch) : Nat → Int := if sumTo C.s.pic 3 ≠ 0 then C.s.pic else C.pics.getD (C.pics.length - 1) (fun _ => 0)
def Ch.turned (C : Ch) : Ch := { C with bon := bonusV C.bon C.ratio, cyc := C.cyc + 1, pics := C.pics ++ [C.nextPic] }
def Ch.ended (C : Ch) : Ch := Ch.turned (Ch.judge { C with c := C.c.asked } C.c.due)
def Ch.stepped (C : Ch) : Ch := if (C.lev + 1) % 4 = 0 then Ch.ended { C with lev := C.lev + 1 } else { C with lev := C.lev + 1 }
def Ch.bake (C : Ch) (b : Int) : Ch := (C.paid b).stepped

theorem Ch.Ok.pay {C : Ch} (h : C.Ok) (o t n : Int) : (C.pay o t n).Ok := by
  have g := C.p.move_gap o t n
  exact ⟨h.p.move o t n, h.s, h.c, by show (C.p.move o t n).S = (C.p.move o t n).sum + _; rw [g.1, g.2]; exact h.sum, by show 1 ≤ (C.p.move o t n).S; rw [g.1]; exact h.pos, h.reg, h.bon, h.cas, h.len, h.heavy, h.seed⟩
theorem Sk.join_R (S : Sk) (o b n : Int) : (S.join o b n).R = S.R := by unfold Sk.join; split <;> rfl
theorem Sk.add_R (S : Sk) (b n : Int) : (S.add b n).R = S.R := by unfold Sk.add; split <;> rfl
theorem Sk.leave_R (S : Sk) (o b n c : Int) : (S.leave o b n c).R = S.R := by unfold Sk.leave; split <;> rfl
theorem Sk.free_R (S : Sk) (o c : Int) : (S.free o c).R = S.R := by unfold Sk.free; split <;> rfl
theorem Sk.slash_R (S : Sk) (b f p : Int) : (S.slash b f p).R = S.R := by unfold Sk.slash; split <;> rfl
theorem Ch.stakeC_zero {C : Ch} {o b n : Int} (h : C.stakeC o b n = 0) : C.p.outC o n = 0 ∧ C.s.joinC o b n = 0 := by
  unfold Ch.stakeC at h
  by_cases g : C.p.outC o n ≠ 0
  · rw [if_pos g] at h; exact absurd h g
  · rw [if_neg g] at h; exact ⟨by omega, h⟩
theorem Ch.Ok.stake {C : Ch} (h : C.Ok) (o b n : Int) : (C.stake o b n).Ok := by
  unfold Ch.stake
  by_cases k : C.stakeC o b n = 0
  · rw [if_pos k]
    obtain ⟨k1, k2⟩ := Ch.stakeC_zero k
    have g := Pu.out_gap k1
    have t := h.s.join_total k2
    have s := h.sum
    exact ⟨h.p.out' o n, h.s.join o b n, h.c, by show (C.p.out o n).S = (C.p.out o n).sum + (C.s.join o b n).total; rw [g.1, g.2, t]; omega, by show 1 ≤ (C.p.out o n).S; rw [g.1]; exact h.pos, fun i hi => by show (C.s.join o b n).R i = true; rw [Sk.join_R]; exact h.reg i hi, h.bon, h.cas, h.len, h.heavy, h.seed⟩
  · rw [if_neg k]; exact h
theorem Ch.Ok.unstake {C : Ch} (h : C.Ok) (o b n : Int) : (C.unstake o b n).Ok :=
  ⟨h.p, h.s.leave o b n C.cyc, h.c, by show C.p.S = C.p.sum + (C.s.leave o b n C.cyc).total; rw [h.s.leave_total]; exact h.sum, h.pos, fun i hi => by show (C.s.leave o b n C.cyc).R i = true; rw [Sk.leave_R]; exact h.reg i hi, h.bon, h.cas, h.len, h.heavy, h.seed⟩
theorem Sk.freeC_in {S : Sk} {o c : Int} (h : S.freeC o c = 0) : Ow o ∧ Cy c := by
  unfold Sk.freeC at h
  by_cases g : Ow o ∧ Cy c
  · exact g
  · rw [if_pos g] at h; omega
theorem Ch.Ok.freeN_bd {C : Ch} (h : C.Ok) (o c : Int) : 0 ≤ C.s.freeN o c ∧ C.s.freeN o c ≤ C.s.total := by
  have t := C.s.free_total o c
  have := (h.s.free o c).total_bd.1
  have := h.s.freeN_nn o c
  omega
theorem Ch.Ok.freeIn {C : Ch} (h : C.Ok) {o : Int} (k : C.s.freeC o C.cyc = 0) : C.p.inC o (C.s.freeN o C.cyc) = 0 := by
  have b := h.freeN_bd o C.cyc
  have := h.sum
  have := h.p.sum0
  have := h.p.top
  exact Pu.inC_ok (Sk.freeC_in k).1 ⟨b.1, by omega⟩ (by omega)
theorem Ch.Ok.free {C : Ch} (h : C.Ok) (o : Int) : (C.free o).Ok := by
  unfold Ch.free
  by_cases k : C.s.freeC o C.cyc = 0
  · rw [if_pos k]
    have g := Pu.in_gap (Sk.freeC_in k).1 (h.freeIn k)
    have t := C.s.free_total o C.cyc
    have s := h.sum
    exact ⟨h.p.in' o _, h.s.free o C.cyc, h.c, by show (C.p.in' o _).S = (C.p.in' o _).sum + (C.s.free o C.cyc).total; rw [g.1, g.2, t]; omega, by show 1 ≤ (C.p.in' o _).S; rw [g.1]; exact h.pos, fun i hi => by show (C.s.free o C.cyc).R i = true; rw [Sk.free_R]; exact h.reg i hi, h.bon, h.cas, h.len, h.heavy, h.seed⟩
  · rw [if_neg k]; exact h
theorem Ch.Ok.accuse {C : Ch} (h : C.Ok) (o : Int) (e : Ev) : (C.accuse o e).Ok := by
  refine ⟨h.p, h.s, h.c.acc o e C.cyc, h.sum, h.pos, h.reg, h.bon, ?_, h.len, h.heavy, h.seed⟩
  intro t ht
  have ht : t ∈ (C.c.acc o e C.cyc).L := ht
  unfold Ct.acc at ht
  by_cases k : C.c.accC o e C.cyc = 0
  · rw [if_pos k] at ht
    rcases List.mem_append.1 ht with g | g
    · exact h.cas t g
    · have : t = (o, e) := by simpa using g
      subst this
      have a := (Ct.accC_zero k).1
      exact ⟨a.1, a.2.1⟩
  · rw [if_neg k] at ht; exact h.cas t ht
theorem Ch.Ok.paid {C : Ch} (h : C.Ok) (b : Int) : (C.paid b).Ok := by
  unfold Ch.paid
  by_cases k : C.Payable b
  · rw [if_pos k]
    have r := h.rew_bd
    have c : C.p.growC C.rew = 0 := Pu.growC_ok ⟨r.1, by have := h.p.top; omega⟩ k.1
    have g := Pu.grow_gap c
    have t := h.s.add_total k.2
    have s := h.sum
    have := h.pos
    exact ⟨h.p.grow _, h.s.add b _, h.c, by show (C.p.grow C.rew).S = (C.p.grow C.rew).sum + (C.s.add b C.rew).total; rw [g.1, g.2, t]; omega, by show 1 ≤ (C.p.grow C.rew).S; rw [g.1]; omega, fun i hi => by show (C.s.add b C.rew).R i = true; rw [Sk.add_R]; exact h.reg i hi, h.bon, h.cas, h.len, h.heavy, h.seed⟩
  · rw [if_neg k]; exact h
theorem Sk.Ok.free_same {S : Sk} (h : S.Ok) {o c : Int} (hc : S.freeC o c ≠ 0) : S.free o c = S := by
  by_cases g : Ow o ∧ Cy c
  · refine h.free_none ?_
    cases k : S.has o c with
    | false => rfl
    | true => unfold Sk.freeC at hc; rw [if_neg (not_not_intro g), k] at hc; exact absurd rfl hc
  · exact if_pos g
theorem Sk.freeN_same {S : Sk} {o c : Int} (hc : S.freeC o c ≠ 0) : S.freeN o c = 0 := by
  by_cases g : Ow o ∧ Cy c
  · refine freeN_none S o c ?_
    cases k : S.has o c with
    | false => rfl
    | true => unfold Sk.freeC at hc; rw [if_neg (not_not_intro g), k] at hc; exact absurd rfl hc
  · unfold Sk.freeN; rw [if_pos g]
end Go.Proofs.YtaihcceobnfmhaaDoor

namespace Go.Proofs.YtaihcceobnfmhaaDoor

theorem pct_bd (n : Int) : 0 ≤ pct n ∧ pct n ≤ 50 := by unfold pct; split <;> omega
theorem St.Ok.half {x : St} (h : x.Ok) {p : Int} (h0 : 0 ≤ p) (h1 : p ≤ 50) : 2 * x.slashN p ≤ x.T := by
  unfold St.slashN
  rw [if_pos ⟨h0, by omega⟩]
  have t := h.t0
  have : x.T * p ≤ x.T * 50 := Int.mul_le_mul_of_nonneg_left h1 t
  omega
theorem sumK_mono {f g : Int → Int → Int} (K : List (Int × Int)) (h : ∀ k, k ∈ K → f k.1 k.2 ≤ g k.1 k.2) : sumK K f ≤ sumK K g := by
  have e := sumK_split K g (fun b c => g b c - f b c) f (fun _ _ => rfl)
  have := sumK_nonneg (f := fun b c => g b c - f b c) K (fun k hk => by have := h k hk; show 0 ≤ g k.1 k.2 - f k.1 k.2; omega)
  omega
theorem sumK_two (K : List (Int × Int)) (f : Int → Int → Int) : sumK K (fun b c => 2 * f b c) = 2 * sumK K f := by
  have := sumK_add f f K
  rw [show (fun b c => 2 * f b c) = (fun b c => f b c + f b c) by funext b c; omega, this]
  omega
/-- at most half is lost -/
theorem Sk.Ok.slash_half {S : Sk} (h : S.Ok) (b f : Int) {p : Int} (h0 : 0 ≤ p) (h1 : p ≤ 50) : 2 * S.slashN b f p ≤ S.total := by
  unfold Sk.slashN
  by_cases k : S.slashC b p = 0
  · rw [if_pos k]
    have hb : Bk b := by
      refine h.rin b ?_
      unfold Sk.slashC at k
      cases g : S.R b with
      | true => rfl
      | false => rw [g] at k; simp at k
    have a := (h.pok b).half h0 h1
    have c : 2 * sumK S.K (fun b' c' => if b' = b ∧ f ≤ c' then (S.W b' c').slashN p else 0) ≤ sumK S.K (fun b c => (S.W b c).T) := by
      rw [← sumK_two]
      refine sumK_mono S.K fun k _ => ?_
      show 2 * (if k.1 = b ∧ f ≤ k.2 then (S.W k.1 k.2).slashN p else 0) ≤ (S.W k.1 k.2).T
      split
      · exact (h.wok k.1 k.2).half h0 h1
      · have := (h.wok k.1 k.2).t0; omega
    have q0 := (h.pok 0).t0
    have q1 := (h.pok 1).t0
    have q2 := (h.pok 2).t0
    have e : b = 0 ∨ b = 1 ∨ b = 2 := by have := hb.1; have := hb.2; omega
    unfold Sk.total
    rcases e with rfl | rfl | rfl <;> omega
  · rw [if_neg k]
    have := h.total_bd.1
    omega
theorem Ch.Ok.lost_bd {C : Ch} (h : C.Ok) (t : Cs) : 0 ≤ C.lost t ∧ 2 * C.lost t ≤ C.s.total ∧ C.lost t ≤ 1125899906842624 := by
  have b := pct_bd t.2.2.2
  have l0 := h.s.slashN_nn t.2.1 t.2.2.1 (pct t.2.2.2)
  have l1 := h.s.slash_half t.2.1 t.2.2.1 b.1 b.2
  have := h.sum
  have := h.p.sum0
  have := h.p.top
  unfold Ch.lost
  exact ⟨l0, l1, by omega⟩
theorem Ch.Ok.judgeIn {C : Ch} (h : C.Ok) (t : Cs) (ho : Own t.1) : C.p.inC t.1 (C.lost t / 7) = 0 := by
  have l := h.lost_bd t
  have := h.sum
  exact Pu.inC_ok ho ⟨by omega, by omega⟩ (by omega)
theorem Ch.Ok.judgeBurn {C : Ch} (h : C.Ok) (t : Cs) (ho : Own t.1) : (C.p.in' t.1 (C.lost t / 7)).burnC (C.lost t - C.lost t / 7) = 0 := by
  have l := h.lost_bd t
  have g := Pu.in_gap ho (h.judgeIn t ho)
  have := h.sum
  exact Pu.burnC_ok ⟨by omega, by omega⟩ (by rw [g.1, g.2]; omega)
theorem Ch.Ok.judge1 {C : Ch} (h : C.Ok) (t : Cs) (ho : Own t.1) : (C.judge1 t).Ok ∧ (C.judge1 t).p.S ≤ C.p.S := by
  have l := h.lost_bd t
  have g1 := Pu.in_gap ho (h.judgeIn t ho)
  have g2 := Pu.burn_gap (h.judgeBurn t ho)
  have e : (C.s.slash t.2.1 t.2.2.1 (pct t.2.2.2)).total = C.s.total - C.lost t := h.s.slash_total t.2.1 t.2.2.1 (pct t.2.2.2)
  have s := h.sum
  have s0 := h.p.sum0
  have p0 := h.pos
  refine ⟨⟨(h.p.in' _ _).burn _, h.s.slash _ _ _, h.c, ?_, ?_, fun i hi => ?_, h.bon, h.cas, h.len, h.heavy, h.seed⟩, ?_⟩
  · show (Pu.burn _ _).S = (Pu.burn _ _).sum + (C.s.slash t.2.1 t.2.2.1 (pct t.2.2.2)).total
    rw [g2.1, g2.2, g1.1, g1.2, e]
    omega
  · show 1 ≤ (Pu.burn _ _).S
    rw [g2.1, g1.1]
    omega
  · show (C.s.slash t.2.1 t.2.2.1 (pct t.2.2.2)).R i = true
    rw [Sk.slash_R]; exact h.reg i hi
  · show (Pu.burn _ _).S ≤ _
    rw [g2.1, g1.1]
    omega
theorem Ch.Ok.judge : ∀ (l : List Cs) {C : Ch}, C.Ok → (∀ t, t ∈ l → Own t.1) → (C.judge l).Ok ∧ (C.judge l).p.S ≤ C.p.S
  | [], _, h, _ => ⟨h, Int.le_refl _⟩
  | t :: l, C, h, hl => by
    have a := h.judge1 t (hl t (List.mem_cons_self ..))
    have b := Ch.Ok.judge l a.1 (fun u hu => hl u (List.mem_cons_of_mem _ hu))
    exact ⟨b.1, Int.le_trans b.2 a.2⟩
theorem Ch.judge_same : ∀ (l : List Cs) (C : Ch), (C.judge l).c = C.c ∧ (C.judge l).seed = C.seed ∧ (C.judge l).cyc = C.cyc ∧ (C.judge l).lev = C.lev ∧ (C.judge l).bon = C.bon ∧ (C.judge l).pics = C.pics
  | [], _ => ⟨rfl, rfl, rfl, rfl, rfl, rfl⟩
  | t :: l, C => Ch.judge_same l (C.judge1 t)
theorem wtOf_bd {n : Int} (_h : 0 ≤ n) : 0 ≤ wtOf n ∧ wtOf n ≤ 1073741824 := by
  unfold wtOf
  split
  · omega
  · split <;> omega
theorem Sk.Ok.picW {S : Sk} (h : S.Ok) : Weights 3 S.pic := ⟨by omega, by omega, fun k _ => wtOf_bd (h.pok k).t0⟩
theorem Ch.Ok.nextPic {C : Ch} (h : C.Ok) : Heavy C.nextPic := by
  unfold Ch.nextPic
  by_cases k : sumTo C.s.pic 3 ≠ 0
  · rw [if_pos k]; exact ⟨h.s.picW, k⟩
  · rw [if_neg k]
    have hl := h.len
    have hi : C.pics.length - 1 < C.pics.length := by omega
    rw [List.getD_eq_getElem?_getD, List.getElem?_eq_getElem hi]
    exact h.heavy _ (List.getElem_mem hi)
theorem Ch.Ok.turned {C : Ch} (h : C.Ok) : C.turned.Ok := by
  refine ⟨h.p, h.s, h.c, h.sum, h.pos, h.reg, bonusV_bd h.bon.1 h.bon.2, h.cas, ?_, ?_, h.seed⟩
  · show (C.pics ++ [C.nextPic]).length = C.cyc + 1 + 3
    rw [List.length_append, h.len]
    show C.cyc + 3 + 1 = _
    omega
  · intro W hW
    rcases List.mem_append.1 (show W ∈ C.pics ++ [C.nextPic] from hW) with g | g
    · exact h.heavy W g
    · have : W = C.nextPic := by simpa using g
      rw [this]; exact h.nextPic
theorem Ch.Ok.asked {C : Ch} (h : C.Ok) : Ch.Ok { C with c := C.c.asked } := ⟨h.p, h.s, h.c.asked, h.sum, h.pos, h.reg, h.bon, h.cas, h.len, h.heavy, h.seed⟩
theorem Ch.Ok.lev {C : Ch} (h : C.Ok) (n : Nat) : Ch.Ok { C with lev := n } := ⟨h.p, h.s, h.c, h.sum, h.pos, h.reg, h.bon, h.cas, h.len, h.heavy, h.seed⟩
theorem Ch.Ok.due_own {C : Ch} (h : C.Ok) (t : Cs) (ht : t ∈ C.c.due) : Own t.1 := (h.cas t (List.mem_of_mem_drop ht)).1
theorem Ch.Ok.ended {C : Ch} (h : C.Ok) : C.ended.Ok ∧ C.ended.p.S ≤ C.p.S := by
  have j := Ch.Ok.judge C.c.due h.asked (fun t ht => h.due_own t ht)
  exact ⟨j.1.turned, j.2⟩
theorem Ch.ended_cyc (C : Ch) : C.ended.cyc = C.cyc + 1 ∧ C.ended.lev = C.lev := by
  have j := Ch.judge_same C.c.due { C with c := C.c.asked }
  exact ⟨by show (Ch.judge _ _).cyc + 1 = _; rw [j.2.2.1], j.2.2.2.1⟩
theorem Ch.Ok.stepped {C : Ch} (h : C.Ok) : C.stepped.Ok ∧ C.stepped.p.S ≤ C.p.S := by
  unfold Ch.stepped
  by_cases k : (C.lev + 1) % 4 = 0
  · rw [if_pos k]; exact (h.lev (C.lev + 1)).ended
  · rw [if_neg k]; exact ⟨h.lev _, Int.le_refl _⟩
theorem Ch.stepped_lev (C : Ch) : C.stepped.lev = C.lev + 1 := by
  unfold Ch.stepped
  split
  · exact (Ch.ended_cyc _).2
  · rfl
theorem Ch.stepped_cyc {C : Ch} (h : C.cyc = C.lev / 4) : C.stepped.cyc = (C.lev + 1) / 4 := by
  unfold Ch.stepped
  split
  · rw [(Ch.ended_cyc _).1]; show C.cyc + 1 = _; omega
  · show C.cyc = _; omega
/-- within a cycle supply stays -/
theorem Ch.stepped_in {C : Ch} (h : C.stepped.cyc = C.cyc) : C.stepped.p = C.p ∧ C.stepped.s = C.s := by
  unfold Ch.stepped at h ⊢
  by_cases k : (C.lev + 1) % 4 = 0
  · rw [if_pos k, (Ch.ended_cyc _).1] at h
    have h : C.cyc + 1 = C.cyc := h
    omega
  · rw [if_neg k]; exact ⟨rfl, rfl⟩
theorem Ch.paid_same (C : Ch) (b : Int) : (C.paid b).cyc = C.cyc ∧ (C.paid b).lev = C.lev ∧ (C.paid b).c = C.c := by
  unfold Ch.paid
  split <;> exact ⟨rfl, rfl, rfl⟩
theorem Ch.Ok.bakeN_bd {C : Ch} (h : C.Ok) (b : Int) : 0 ≤ C.bakeN b ∧ (C.paid b).p.S = C.p.S + C.bakeN b := by
  have r := h.rew_bd
  unfold Ch.bakeN Ch.paid
  by_cases k : C.Payable b
  · rw [if_pos k, if_pos k]
    have c : C.p.growC C.rew = 0 := Pu.growC_ok ⟨r.1, by have := h.p.top; omega⟩ k.1
    exact ⟨r.1, (Pu.grow_gap c).1⟩
  · rw [if_neg k, if_neg k]; exact ⟨Int.le_refl _, by omega⟩
theorem Ch.Ok.bake {C : Ch} (h : C.Ok) (b : Int) : (C.bake b).Ok ∧ (C.bake b).p.S ≤ C.p.S + C.bakeN b ∧ ((C.bake b).cyc = C.cyc → (C.bake b).p.S = C.p.S + C.bakeN b) := by
  have a := (h.paid b).stepped
  have n := h.bakeN_bd b
  refine ⟨a.1, by rw [← n.2]; exact a.2, fun e => ?_⟩
  have := (Ch.stepped_in (C := C.paid b) (by rw [(C.paid_same b).1]; exact e)).1
  show (C.paid b).stepped.p.S = _
  rw [this, n.2]

/-! a chain begins -/
def Pu.minted (x : Pu) : Pu := (((((x.mint 0 10000).mint 1 10000).mint 2 10000).mint 3 10000).mint 4 10000).mint 5 10000
def purse0 : Pu := ((none'.minted.out 0 1000).out 1 1000).out 2 1000
def stakes0 : Sk := ((((((Sk.none.reg 0).join 0 0 1000).reg 1).join 1 1 1000).reg 2).join 2 2 1000)
def chNew (seed : Nat) : Ch := ⟨purse0, stakes0, ⟨[], 0⟩, seed, 0, 0, 0, [stakes0.pic, stakes0.pic, stakes0.pic]⟩
theorem purse0_ok : purse0.Ok := ((((((((none_ok.mint 0 10000).mint 1 10000).mint 2 10000).mint 3 10000).mint 4 10000).mint 5 10000).out' 0 1000).out' 1 1000).out' 2 1000
theorem stakes0_ok : stakes0.Ok := (((((Sk.none_ok.reg 0).join 0 0 1000).reg 1).join 1 1 1000).reg 2).join 2 2 1000
theorem stakes0_pic : Heavy stakes0.pic := ⟨stakes0_ok.picW, by decide⟩
theorem chNew_ok (seed : Nat) (hs : seed < W64) : (chNew seed).Ok where
  p := purse0_ok
  s := stakes0_ok
  c := ct0_ok
  sum := by show purse0.S = purse0.sum + stakes0.total; decide
  pos := by show 1 ≤ purse0.S; decide
  reg := fun b hb => by
    have e : b = 0 ∨ b = 1 ∨ b = 2 := by have := hb.1; have := hb.2; omega
    show stakes0.R b = true
    rcases e with rfl | rfl | rfl <;> decide
  bon := ⟨Int.le_refl _, by show (0 : Int) ≤ 5000; omega⟩
  cas := fun t ht => by cases ht
  len := rfl
  heavy := fun W hW => by
    have : W = stakes0.pic := by
      have hW : W ∈ [stakes0.pic, stakes0.pic, stakes0.pic] := hW
      simpa using hW
    rw [this]; exact stakes0_pic
  seed := hs
theorem purse0_S : purse0.S = 60000 := by decide
theorem purse0_has : purse0.s 0 = 9000 := by decide
/- on the way to it -/
def ch0 (seed : Nat) : Ch := ⟨none', Sk.none, ⟨[], 0⟩, seed, 0, 0, 0, []⟩
def mintTo : Nat → Pu
  | 0 => none'
  | j + 1 => (mintTo j).mint j 10000
theorem mintTo_ok : ∀ j, (mintTo j).Ok
  | 0 => none_ok
  | j + 1 => (mintTo_ok j).mint j 10000
def outTo : Nat → Pu
  | 0 => mintTo 6
  | j + 1 => (outTo j).out j 1000
theorem outTo_ok : ∀ j, (outTo j).Ok
  | 0 => mintTo_ok 6
  | j + 1 => (outTo_ok j).out' j 1000
def stkSt : Nat → Sk
  | 0 => Sk.none
  | j + 1 => ((stkSt j).reg j).join j j 1000
theorem stkSt_ok : ∀ j, (stkSt j).Ok
  | 0 => Sk.none_ok
  | j + 1 => ((stkSt_ok j).reg j).join j j 1000
end Go.Proofs.YtaihcceobnfmhaaDoor

namespace Go.Proofs.YtaihcceobnfmhaaDoor
open Go.RowKit

theorem below_drewN {B : Nat} {a w : World} (h : Below B a w) (n : Nat) : Below B a (w.drewN n) := ⟨h.os, h.tape, h.output, h.size, h.block⟩
theorem below_from {w w' : World} {n : Nat} (h : Below (w.drewN n).heap.size (w.drewN n) w') : Below w.heap.size w w' := ⟨h.os, h.tape, h.output, h.size, h.block⟩
theorem hide {p : Prop} (h : p) : Hid p := h
theorem cell_new (W : World) (cs : Array Value) (t : TypeId) (n i : Nat) (v : Value) (h : n = W.heap.size) (hv : cs[i]? = some v) : (W.alloc (.cells cs t)).cell? ⟨n, i, none⟩ = some v := by
  subst h
  rw [World.cell?_alloc_at _ _ _ _ rfl]
  exact hv
theorem cell_lt {W : World} {a : Addr} {v : Value} (h : W.cell? a = some v) : a.block < W.heap.size := by
  rcases Nat.lt_or_ge a.block W.heap.size with g | g
  · exact g
  · simp [World.cell?, Array.getElem?_eq_none g] at h
theorem add_plain (b off n : Nat) : (⟨b, off, none⟩ : Addr).add n = ⟨b, off + n, none⟩ := by
  rcases Nat.eq_zero_or_pos n with h | h
  · subst h; simp [Addr.add]
  · have : ¬ n = 0 := by omega
    simp [Addr.add, this]
/-- a block without a mark -/
def Bare (w : World) (a : Addr) : Prop := ∃ c t, w.heap[a.block]? = some (.cells c t (0, 0))
/-- .. or one that is marked all over -/
def Plain (w : World) (a : Addr) : Prop := ∃ c t f, w.heap[a.block]? = some (.cells c t f) ∧ (f = (0, 0) ∨ (0 < c.size ∧ f = (0, c.size)))
/-- of two one at most is marked -/
def Mates (w : World) (a b : Addr) : Prop := Bare w a ∨ Bare w b ∨ a.block = b.block
theorem Bare.plain {w : World} {a : Addr} (h : Bare w a) : Plain w a := by
  obtain ⟨c, t, h⟩ := h
  exact ⟨c, t, _, h, .inl rfl⟩
theorem Plain.lt {w : World} {a : Addr} (h : Plain w a) : a.block < w.heap.size := by
  obtain ⟨c, t, f, h, _⟩ := h
  rcases Nat.lt_or_ge a.block w.heap.size with g | g
  · exact g
  · simp [Array.getElem?_eq_none g] at h
theorem Plain.below {w w' : World} {a : Addr} (h : Plain w a) (hB : Below w.heap.size w w') : Plain w' a := by
  have l := h.lt
  obtain ⟨c, t, f, h, q⟩ := h
  exact ⟨c, t, f, by rw [hB.block _ l]; exact h, q⟩
theorem Bare.below {w w' : World} {a : Addr} (h : Bare w a) (hB : Below w.heap.size w w') : Bare w' a := by
  have l := h.plain.lt
  obtain ⟨c, t, h⟩ := h
  exact ⟨c, t, by rw [hB.block _ l]; exact h⟩
theorem Mates.below {w w' : World} {a b : Addr} (h : Mates w a b) (hB : Below w.heap.size w w') : Mates w' a b :=
  h.imp (·.below hB) fun q => q.imp (·.below hB) id
theorem Bare.new (w : World) (cs : Array Value) (t : TypeId) (i : Nat) : Bare (w.alloc (.cells cs t)) ⟨w.heap.size, i, none⟩ := ⟨cs, t, by show (w.heap.push _)[w.heap.size]? = _; simp⟩
theorem run_apart {P : Program} (w : World) {a b : Addr} (hne : a ≠ b) (ha : Plain w a) (hb : Plain w b) (hm : Mates w a b) : (sameAddr a b).run P w = .ok false w := by
  by_cases hbl : a.block = b.block
  · simp [sameAddr, hbl, hne]
  · obtain ⟨ca, ta, fa, ha, qa⟩ := ha
    obtain ⟨cb, tb, fb, hb, qb⟩ := hb
    have one : fa = (0, 0) ∨ fb = (0, 0) := by
      rcases hm with ⟨c, t, h⟩ | ⟨c, t, h⟩ | h
      · rw [ha] at h; exact .inl (Obj.cells.inj (Option.some.inj h)).2.2
      · rw [hb] at h; exact .inr (Obj.cells.inj (Option.some.inj h)).2.2
      · exact absurd h hbl
    rcases one with rfl | rfl
    · rcases qb with rfl | ⟨n, rfl⟩
      · simp [sameAddr, hbl, World.frozen?, ha, hb, noView, viewAt, World.shape?, mayBeOne, stringish]
      · have nz : cb.size ≠ 0 := by omega
        by_cases l : b.off < cb.size <;> simp [sameAddr, hbl, World.frozen?, ha, hb, noView, viewAt, World.shape?, mayBeOne, stringish, l, nz]
    · rcases qa with rfl | ⟨n, rfl⟩
      · simp [sameAddr, hbl, World.frozen?, ha, hb, noView, viewAt, World.shape?, mayBeOne, stringish]
      · have nz : ca.size ≠ 0 := by omega
        by_cases l : a.off < ca.size <;> simp [sameAddr, hbl, World.frozen?, ha, hb, noView, viewAt, World.shape?, mayBeOne, stringish, l, nz]
theorem old_cell {w w' : World} (hB : Below w.heap.size w w') {a : Addr} {v : Value} (h : w.cell? a = some v) : w'.cell? a = some v := by
  rw [hB.cell (cell_lt h)]; exact h
end Go.Proofs.YtaihcceobnfmhaaDoor

namespace Go.Proofs.YtaihcceobnfmhaaDoor
open Go.RowKit

/-- of what was there only these blocks may have turned -/
structure Kept (X : List Nat) (w w' : World) : Prop where
  os : w'.os = w.os
  tape : w'.tape = w.tape
  output : w'.output = w.output
  size : w.heap.size ≤ w'.heap.size
  block : ∀ k, k < w.heap.size → k ∉ X → w'.heap[k]? = w.heap[k]?
theorem Kept.refl (X : List Nat) (w : World) : Kept X w w := ⟨rfl, rfl, rfl, Nat.le_refl _, fun _ _ _ => rfl⟩
theorem Kept.trans {X : List Nat} {a b c : World} (h : Kept X a b) (k : Kept X b c) : Kept X a c :=
  ⟨k.os.trans h.os, k.tape.trans h.tape, k.output.trans h.output, Nat.le_trans h.size k.size, fun i hi hx => (k.block i (Nat.lt_of_lt_of_le hi h.size) hx).trans (h.block i hi hx)⟩
theorem Kept.mono {X Y : List Nat} {a b : World} (h : Kept X a b) (hs : ∀ k, k ∈ X → k ∈ Y) : Kept Y a b :=
  ⟨h.os, h.tape, h.output, h.size, fun i hi hx => h.block i hi (fun g => hx (hs i g))⟩
theorem Kept.drewN {X : List Nat} {a w : World} (h : Kept X a w) (n : Nat) : Kept X a (w.drewN n) := ⟨h.os, h.tape, h.output, h.size, h.block⟩
theorem Kept.drew {X : List Nat} {a w : World} (h : Kept X a w) : Kept X a w.drew := ⟨h.os, h.tape, h.output, h.size, h.block⟩
theorem Kept.setCell {X : List Nat} {a w : World} (h : Kept X a w) {p : Addr} (hp : p.block ∈ X) (u : Value) : Kept X a (w.setCell p u) :=
  h.trans ⟨rfl, rfl, rfl, by simp [World.setCell], fun k _ hk => Below.heap_setCell _ _ _ _ (fun e => hk (by rw [e]; exact hp))⟩
theorem Kept.grown {X : List Nat} {a w w' : World} {b : Nat} (h : Kept X a w) (hg : w.grownBy w' (some b)) (hb : b ∈ X) : Kept X a w' :=
  h.trans ⟨hg.os, hg.tape, hg.output, hg.size, fun k hk hx => hg.block k hk (fun e => hx (by cases e; exact hb))⟩
theorem Kept.of_below {X : List Nat} {w w' : World} (h : Below w.heap.size w w') : Kept X w w' := ⟨h.os, h.tape, h.output, h.size, fun k hk _ => h.block k hk⟩
theorem Kept.below {X : List Nat} {B : Nat} {w w' : World} (h : Kept X w w') (hB : B ≤ w.heap.size) (hX : ∀ k, k ∈ X → B ≤ k) : Below B w w' :=
  ⟨h.os, h.tape, h.output, h.size, fun k hk => h.block k (by omega) (fun g => by have := hX k g; omega)⟩
theorem Kept.cell {X : List Nat} {w w' : World} (h : Kept X w w') {p : Addr} (hp : p.block < w.heap.size) (hx : p.block ∉ X) : w'.cell? p = w.cell? p := World.cell?_of_block (w := w) (h.block p.block hp hx)
theorem Kept.frozen {X : List Nat} {w w' : World} (h : Kept X w w') {p : Addr} (hp : p.block < w.heap.size) (hx : p.block ∉ X) : w'.frozen? p = w.frozen? p := World.frozen?_of_block (w := w) (h.block p.block hp hx)
theorem Kept.old {X : List Nat} {w w' : World} (h : Kept X w w') {p : Addr} {v : Value} (hc : w.cell? p = some v) (hx : p.block ∉ X) : w'.cell? p = some v := by rw [h.cell (cell_lt hc) hx]; exact hc
theorem ret_int {k : IntKind} {a b : Int} (h : a = b) : Ending.returned (.int k a) = .returned (.int k b) := by rw [h]
theorem ret_pair {k : IntKind} {a b : Int} (h : a = b) (v : Value) : Ending.returned (.tuple #[.int k a, v]) = .returned (.tuple #[.int k b, v]) := by rw [h]
theorem ret_int2 {k : IntKind} {a b c d : Int} (h : a = b) (g : c = d) : Ending.returned (.tuple #[.int k a, .int k c]) = .returned (.tuple #[.int k b, .int k d]) := by rw [h, g]
end Go.Proofs.YtaihcceobnfmhaaDoor

namespace Go.Proofs.YtaihcceobnfmhaaDoor
open Go.RowKit

/-- of what was there only such blocks may have turned -/
structure KeptP (F : Nat → Prop) (w w' : World) : Prop where
  os : w'.os = w.os
  tape : w'.tape = w.tape
  output : w'.output = w.output
  size : w.heap.size ≤ w'.heap.size
  block : ∀ k, k < w.heap.size → ¬ F k → w'.heap[k]? = w.heap[k]?
theorem KeptP.refl (F : Nat → Prop) (w : World) : KeptP F w w := ⟨rfl, rfl, rfl, Nat.le_refl _, fun _ _ _ => rfl⟩
theorem KeptP.mono {F G : Nat → Prop} {a b : World} (h : KeptP F a b) (hs : ∀ k, k < a.heap.size → F k → G k) : KeptP G a b :=
  ⟨h.os, h.tape, h.output, h.size, fun i hi hx => h.block i hi (fun g => hx (hs i hi g))⟩
/-- what a second step turns beside is new -/
theorem KeptP.trans {F G : Nat → Prop} {a b c : World} (h : KeptP F a b) (k : KeptP G b c) (hg : ∀ i, i < a.heap.size → G i → F i) : KeptP F a c :=
  ⟨k.os.trans h.os, k.tape.trans h.tape, k.output.trans h.output, Nat.le_trans h.size k.size, fun i hi hx => (k.block i (Nat.lt_of_lt_of_le hi h.size) (fun g => hx (hg i hi g))).trans (h.block i hi hx)⟩
theorem KeptP.drewN {F : Nat → Prop} {a w : World} (h : KeptP F a w) (n : Nat) : KeptP F a (w.drewN n) := ⟨h.os, h.tape, h.output, h.size, h.block⟩
theorem KeptP.drew {F : Nat → Prop} {a w : World} (h : KeptP F a w) : KeptP F a w.drew := ⟨h.os, h.tape, h.output, h.size, h.block⟩
theorem KeptP.setCell {F : Nat → Prop} {a w : World} (h : KeptP F a w) {p : Addr} (hp : F p.block) (u : Value) : KeptP F a (w.setCell p u) :=
  h.trans (G := F) ⟨rfl, rfl, rfl, by simp [World.setCell], fun k _ hk => Below.heap_setCell _ _ _ _ (fun e => hk (by rw [e]; exact hp))⟩ fun _ _ g => g
theorem KeptP.of_below {F : Nat → Prop} {w w' : World} (h : Below w.heap.size w w') : KeptP F w w' := ⟨h.os, h.tape, h.output, h.size, fun k hk _ => h.block k hk⟩
theorem KeptP.of_kept {F : Nat → Prop} {X : List Nat} {w w' : World} (h : Kept X w w') (hx : ∀ k, k ∈ X → F k) : KeptP F w w' := ⟨h.os, h.tape, h.output, h.size, fun k hk hF => h.block k hk (fun g => hF (hx k g))⟩
theorem KeptP.below {F : Nat → Prop} {B : Nat} {w w' : World} (h : KeptP F w w') (hB : B ≤ w.heap.size) (hX : ∀ k, F k → B ≤ k) : Below B w w' :=
  ⟨h.os, h.tape, h.output, h.size, fun k hk => h.block k (by omega) (fun g => by have := hX k g; omega)⟩
theorem KeptP.cell {F : Nat → Prop} {w w' : World} (h : KeptP F w w') {p : Addr} (hp : p.block < w.heap.size) (hx : ¬ F p.block) : w'.cell? p = w.cell? p := World.cell?_of_block (w := w) (h.block p.block hp hx)
theorem KeptP.frozen {F : Nat → Prop} {w w' : World} (h : KeptP F w w') {p : Addr} (hp : p.block < w.heap.size) (hx : ¬ F p.block) : w'.frozen? p = w.frozen? p := World.frozen?_of_block (w := w) (h.block p.block hp hx)
theorem KeptP.old {F : Nat → Prop} {w w' : World} (h : KeptP F w w') {p : Addr} {v : Value} (hc : w.cell? p = some v) (hx : ¬ F p.block) : w'.cell? p = some v := by rw [h.cell (cell_lt hc) hx]; exact hc
/-- some blocks alone -/
theorem KeptP.kept {F : Nat → Prop} {w w' : World} (h : KeptP F w w') : Below 0 w w' := ⟨h.os, h.tape, h.output, h.size, fun k hk => by omega⟩
/-- what a step did: of what was there only its own has turned, and all that it has now it had, or it is new -/
structure Moved (F F' : Nat → Prop) (w w' : World) : Prop where
  kept : KeptP F w w'
  old : ∀ k, k < w.heap.size → F' k → F k
theorem Moved.refl (F : Nat → Prop) (w : World) : Moved F F w w := ⟨KeptP.refl _ _, fun _ _ h => h⟩
theorem Moved.trans {F F' F'' : Nat → Prop} {a b c : World} (h : Moved F F' a b) (k : Moved F' F'' b c) : Moved F F'' a c :=
  ⟨h.kept.trans k.kept h.old, fun i hi g => h.old i hi (k.old i (Nat.lt_of_lt_of_le hi h.kept.size) g)⟩
theorem Moved.drewN {F F' : Nat → Prop} {a w : World} (h : Moved F F' a w) (n : Nat) : Moved F F' a (w.drewN n) := ⟨h.kept.drewN n, h.old⟩
theorem Moved.drew {F F' : Nat → Prop} {a w : World} (h : Moved F F' a w) : Moved F F' a w.drew := ⟨h.kept.drew, h.old⟩
theorem drewN_twice (w : World) (m n : Nat) : (w.drewN m).drewN n = w.drewN (m + n) := by simp [World.drewN, Nat.add_assoc]
theorem ownsRow_keptP {B : Nat} {w w' : World} {e : TypeId} {size n : Nat} {v : Value} {xs : List Value} {F : Nat → Prop} (h : w.ownsRow B e size v n xs) (hK : KeptP F w w') (hv : ∀ g, v.ownBlock = some g → ¬ F g) : w'.ownsRow B e size v n xs := by
  refine ⟨h.1, ?_⟩
  rcases h.2 with g | ⟨g, cap, cur, rfl, hb, hg, h1, h2, h3, h4⟩
  · exact .inl g
  · refine .inr ⟨g, cap, cur, rfl, hb, ?_, h1, h2, h3, h4⟩
    have hlt : g < w.heap.size := by
      rcases Nat.lt_or_ge g w.heap.size with l | l
      · exact l
      · rw [Array.getElem?_eq_none l] at hg; cases hg
    rw [hK.block g hlt (hv g rfl)]
    exact hg
theorem step_append_by {P : Program} {ops : Array Oper} {o : Oper} {a : Act} {w : World} {K : Act → World → Prop} {Q : Exit → Act → World → Prop} {E : Prop} (hg : o.guard = none) (s x : Operand) (t : TypeId)
    (ho : o.op = .call { callee := .builtin .append, args := #[s, x], argTypes := #[t, t] }) (vs vx : Value) (hs : a.eval s = vs) (hx : a.eval x = vx) (v' : Value) (w' : World)
    (hr : (Builtin.append_ #[t, t] o.type #[vs, vx]).run P w = .ok v' w') (h : K (a.put o.dst v') w') : if Region.wanted o (yielded ops a.tmps) = true then Oper.wp P o a w K Q else E := by
  have hw : Region.wanted o (yielded ops a.tmps) = true := by simp [Region.wanted, hg]
  rw [if_pos hw]
  unfold Oper.wp execOp
  simp only [ho, resolve, invoke, builtin, Sem.run_bind, Sem.run_pure, Result.andThen_ok, List.map_toArray, List.map_cons, List.map_nil, hs, hx, hr]
  exact h
end Go.Proofs.YtaihcceobnfmhaaDoor
