/-
  A chain, plainly: how many pools, cases, cycles and levels there are at most behind so many acts; what an act makes of supply.
  The program's picture of stakes, by its contract.
  The program's chain by its contracts: the next picture.
-/
import Derived.Test.YtaihcceobnfmhaaDoorKeptPX
import Derived.Test.YtaihcceobnfmhaaDoorProgStkActs
import Derived.Test.YtaihcceobnfmhaaDoorIssueMathX
import Derived.Test.YtaihcceobnfmhaaDoorProgRight
import Derived.Test.YtaihcceobnfmhaaDoorProgChainActs1
import Derived.Deep.RegionWith
import Derived.Deep.RegionLaw
import Derived.Deep.QuietTactic
import Derived.BigQuiet
namespace Go.Proofs.YtaihcceobnfmhaaDoor

theorem Sk.join_K (S : Sk) (o b n : Int) : (S.join o b n).K = S.K := by unfold Sk.join; split <;> rfl
theorem Sk.add_K (S : Sk) (b n : Int) : (S.add b n).K = S.K := by unfold Sk.add; split <;> rfl
theorem Sk.free_K (S : Sk) (o c : Int) : (S.free o c).K = S.K := by unfold Sk.free; split <;> rfl
theorem Sk.slash_K (S : Sk) (b f p : Int) : (S.slash b f p).K = S.K := by unfold Sk.slash; split <;> rfl
theorem Ct.acc_len (x : Ct) (o : Int) (e : Ev) (c : Int) : (x.acc o e c).L.length ≤ x.L.length + 1 := by
  unfold Ct.acc
  split
  · show (x.L ++ [(o, e)]).length ≤ _
    rw [List.length_append]; exact Nat.le_refl _
  · omega
theorem Ch.judge_K : ∀ (l : List Cs) (C : Ch), (C.judge l).s.K = C.s.K
  | [], _ => rfl
  | t :: l, C => (Ch.judge_K l (C.judge1 t)).trans (Sk.slash_K _ _ _ _)
theorem Ch.ended_K (C : Ch) : C.ended.s.K = C.s.K := Ch.judge_K C.c.due { C with c := C.c.asked }
theorem Ch.ended_L (C : Ch) : C.ended.c.L = C.c.L := by
  have j := (Ch.judge_same C.c.due { C with c := C.c.asked }).1
  show (Ch.judge { C with c := C.c.asked } C.c.due).c.L = _
  rw [j]; rfl
theorem Ch.stepped_K (C : Ch) : C.stepped.s.K = C.s.K := by
  unfold Ch.stepped
  split
  · exact Ch.ended_K _
  · rfl
theorem Ch.stepped_L (C : Ch) : C.stepped.c.L = C.c.L := by
  unfold Ch.stepped
  split
  · exact Ch.ended_L _
  · rfl
theorem Ch.paid_K (C : Ch) (b : Int) : (C.paid b).s.K = C.s.K := by
  unfold Ch.paid
  split
  · exact Sk.add_K _ _ _
  · rfl

/-- so many pools, cases and levels at most; the cycle is a fourth of the level -/
structure Ch.Fit (C : Ch) (i : Nat) : Prop where
  k : C.s.K.length ≤ i
  l : C.c.L.length ≤ i
  y : C.cyc = C.lev / 4
  v : C.lev ≤ i
theorem Ch.Fit.more {C : Ch} {i j : Nat} (h : C.Fit i) (hj : i ≤ j) : C.Fit j := ⟨Nat.le_trans h.k hj, Nat.le_trans h.l hj, h.y, Nat.le_trans h.v hj⟩
theorem chNew_fit (seed : Nat) : (chNew seed).Fit 0 := ⟨by show stakes0.K.length ≤ 0; decide, Nat.le_refl _, (by show (0 : Nat) = 0 / 4; decide), Nat.le_refl _⟩
theorem Ch.Fit.turn {C : Ch} {i : Nat} (h : C.Fit i) (hi : i ≤ 1000) {r : Int} (r0 : 0 ≤ r) (r8 : r < 8) : TurnOk C.cyc C.lev r := by
  have := h.y
  have := h.v
  exact ⟨⟨by omega, by omega⟩, ⟨by omega, by omega⟩, r0, r8⟩
theorem Ch.Fit.pay {C : Ch} {i : Nat} (h : C.Fit i) (o t n : Int) : (C.pay o t n).Fit (i + 1) := ⟨Nat.le_succ_of_le h.k, Nat.le_succ_of_le h.l, h.y, Nat.le_succ_of_le h.v⟩
theorem Ch.Fit.stake {C : Ch} {i : Nat} (h : C.Fit i) (o b n : Int) : (C.stake o b n).Fit (i + 1) := by
  unfold Ch.stake
  split
  · exact ⟨by show (C.s.join o b n).K.length ≤ _; rw [Sk.join_K]; exact Nat.le_succ_of_le h.k, Nat.le_succ_of_le h.l, h.y, Nat.le_succ_of_le h.v⟩
  · exact h.more (Nat.le_succ _)
theorem Ch.Fit.unstake {C : Ch} {i : Nat} (h : C.Fit i) (o b n : Int) : (C.unstake o b n).Fit (i + 1) :=
  ⟨Nat.le_trans (leave_len C.s o b n C.cyc) (Nat.succ_le_succ h.k), Nat.le_succ_of_le h.l, h.y, Nat.le_succ_of_le h.v⟩
theorem Ch.Fit.free {C : Ch} {i : Nat} (h : C.Fit i) (o : Int) : (C.free o).Fit (i + 1) := by
  unfold Ch.free
  split
  · exact ⟨by show (C.s.free o C.cyc).K.length ≤ _; rw [Sk.free_K]; exact Nat.le_succ_of_le h.k, Nat.le_succ_of_le h.l, h.y, Nat.le_succ_of_le h.v⟩
  · exact h.more (Nat.le_succ _)
theorem Ch.Fit.accuse {C : Ch} {i : Nat} (h : C.Fit i) (o : Int) (e : Ev) : (C.accuse o e).Fit (i + 1) :=
  ⟨Nat.le_succ_of_le h.k, Nat.le_trans (Ct.acc_len C.c o e C.cyc) (Nat.succ_le_succ h.l), h.y, Nat.le_succ_of_le h.v⟩
theorem Ch.Fit.bake {C : Ch} {i : Nat} (h : C.Fit i) (b : Int) : (C.bake b).Fit (i + 1) := by
  have p := C.paid_same b
  refine ⟨?_, ?_, ?_, ?_⟩
  · show ((C.paid b).stepped).s.K.length ≤ _
    rw [Ch.stepped_K, Ch.paid_K]; exact Nat.le_succ_of_le h.k
  · show ((C.paid b).stepped).c.L.length ≤ _
    rw [Ch.stepped_L, p.2.2]; exact Nat.le_succ_of_le h.l
  · show ((C.paid b).stepped).cyc = ((C.paid b).stepped).lev / 4
    rw [Ch.stepped_cyc (by rw [p.1, p.2.1]; exact h.y), Ch.stepped_lev]
  · show ((C.paid b).stepped).lev ≤ _
    rw [Ch.stepped_lev, p.2.1]; exact Nat.succ_le_succ h.v

/-! an act, and supply -/
theorem Ch.Ok.rew_part {C : Ch} (h : C.Ok) : C.rew * 80 ≤ C.p.S := by
  unfold Ch.rew rewardN
  rw [if_pos h.rewardOk]
  have := h.rate_bd
  have := h.pos
  have := reward_part (s := C.p.S) (r := C.rate) (by omega) (by omega) (by omega)
  omega
/-- what an act made of a chain: n was minted -/
structure Ch.Went (C C' : Ch) (n : Int) (i : Nat) : Prop where
  ok : C'.Ok
  fit : C'.Fit (i + 1)
  n0 : 0 ≤ n
  nS : n * 80 ≤ C.p.S
  le : C'.p.S ≤ C.p.S + n
  eq : C'.cyc = C.cyc → C'.p.S = C.p.S + n
theorem Ch.Went.quiet {C C' : Ch} {i : Nat} (h : C.Ok) (k : C'.Ok) (f : C'.Fit (i + 1)) (e : C'.p.S = C.p.S) : C.Went C' 0 i :=
  ⟨k, f, Int.le_refl _, by have := h.pos; omega, by omega, fun _ => by omega⟩
theorem Ch.Went.same {C : Ch} {i : Nat} (h : C.Ok) (f : C.Fit i) : C.Went C 0 i := .quiet h h (f.more (Nat.le_succ _)) rfl
theorem Ch.Went.pay {C : Ch} {i : Nat} (h : C.Ok) (f : C.Fit i) (o t n : Int) : C.Went (C.pay o t n) 0 i := .quiet h (h.pay o t n) (f.pay o t n) (C.p.move_gap o t n).1
theorem Ch.Went.stake {C : Ch} {i : Nat} (h : C.Ok) (f : C.Fit i) (o b n : Int) : C.Went (C.stake o b n) 0 i := by
  refine .quiet h (h.stake o b n) (f.stake o b n) ?_
  unfold Ch.stake
  by_cases k : C.stakeC o b n = 0
  · rw [if_pos k]; exact (Pu.out_gap (Ch.stakeC_zero k).1).1
  · rw [if_neg k]
theorem Ch.Went.unstake {C : Ch} {i : Nat} (h : C.Ok) (f : C.Fit i) (o b n : Int) : C.Went (C.unstake o b n) 0 i := .quiet h (h.unstake o b n) (f.unstake o b n) rfl
theorem Ch.Went.free {C : Ch} {i : Nat} (h : C.Ok) (f : C.Fit i) (o : Int) : C.Went (C.free o) 0 i := by
  refine .quiet h (h.free o) (f.free o) ?_
  unfold Ch.free
  by_cases k : C.s.freeC o C.cyc = 0
  · rw [if_pos k]; exact (Pu.in_gap (Sk.freeC_in k).1 (h.freeIn k)).1
  · rw [if_neg k]
theorem Ch.Went.accuse {C : Ch} {i : Nat} (h : C.Ok) (f : C.Fit i) (o : Int) (e : Ev) : C.Went (C.accuse o e) 0 i := .quiet h (h.accuse o e) (f.accuse o e) rfl
theorem Ch.Went.bake {C : Ch} {i : Nat} (h : C.Ok) (f : C.Fit i) (b : Int) : C.Went (C.bake b) (C.bakeN b) i := by
  have k := h.bake b
  refine ⟨k.1, f.bake b, (h.bakeN_bd b).1, ?_, k.2.1, k.2.2⟩
  unfold Ch.bakeN
  split
  · exact h.rew_part
  · have := h.pos; omega

/-! supply stays small -/
def Ch.Low (C : Ch) (i : Nat) : Prop := C.p.S ≤ 60000 * (((i + 1) * (i + 1) : Nat) : Int)
theorem chNew_low (seed : Nat) : (chNew seed).Low 0 := by
  show purse0.S ≤ _
  rw [purse0_S]; decide
theorem Ch.Low.next {C C' : Ch} {n : Int} {i : Nat} (h : C.Low i) (hi : i ≤ 120) (g : C.Went C' n i) : C'.Low (i + 1) := by
  have a := g.le
  have b := g.nS
  unfold Ch.Low at h ⊢
  have e : (i + 1) * (i + 1) ≤ 121 * (i + 1) := Nat.mul_le_mul_right _ (by omega)
  have e2 : (i + 1 + 1) * (i + 1 + 1) = (i + 1) * (i + 1) + 2 * (i + 1) + 1 := by rw [Nat.add_mul, Nat.mul_add]; omega
  rw [e2]
  generalize (i + 1) * (i + 1) = q at *
  omega
theorem Ch.Low.top {C : Ch} {i : Nat} (h : C.Low i) (hi : i ≤ 120) : C.p.S ≤ 1000000000 := by
  unfold Ch.Low at h
  have e : (i + 1) * (i + 1) ≤ 121 * 121 := Nat.mul_le_mul (by omega) (by omega)
  generalize (i + 1) * (i + 1) = q at *
  omega
/-- where something is staked the reward is paid -/
theorem Ch.Ok.pays {C : Ch} (h : C.Ok) (hS : C.p.S ≤ 1000000000) {b : Int} (hb : Bk b) (hT : 0 < (C.s.P b).T) : C.Payable b := by
  have r := h.rew_bd
  have q := h.rew_part
  have po := h.s.pok b
  have t : (C.s.P b).T ≤ C.p.S := by
    have a := h.s.staked_le
    have s := h.sum
    have s0 := h.p.sum0
    have p0 := (h.s.P_bd 0).1
    have p1 := (h.s.P_bd 1).1
    have p2 := (h.s.P_bd 2).1
    have e : b = 0 ∨ b = 1 ∨ b = 2 := by have := hb.1; have := hb.2; omega
    rcases e with rfl | rfl | rfl <;> omega
  refine ⟨by omega, ?_⟩
  unfold Sk.addC
  rw [h.reg b hb]
  show St.addC _ _ = 0
  unfold St.addC
  rw [if_neg (not_not_intro ⟨r.1, by omega⟩)]
  have A0 : (C.s.P b).A ≠ 0 := fun e => by
    have := po.none e
    omega
  rw [if_neg A0, if_neg (by omega)]
theorem Ch.bake_staked {C : Ch} (h : C.Ok) {b : Int} (hb : Bk b) (hl : (C.lev + 1) % 4 ≠ 0) : ((C.bake b).s.P b).T = (C.s.P b).T + C.bakeN b := by
  have e : C.bake b = { C.paid b with lev := (C.paid b).lev + 1 } := by
    show (C.paid b).stepped = _
    unfold Ch.stepped
    rw [if_neg (by rw [(C.paid_same b).2.1]; exact hl)]
  rw [e]
  show ((C.paid b).s.P b).T = _
  unfold Ch.paid Ch.bakeN
  by_cases k : C.Payable b
  · rw [if_pos k, if_pos k]
    have ka := k.2
    unfold Sk.addC at ka
    show ((C.s.add b C.rew).P b).T = _
    unfold Sk.add
    rw [h.reg b hb] at ka ⊢
    simp only [if_true] at ka ⊢
    show (set1 C.s.P b ((C.s.P b).add C.rew) b).T = _
    rw [set1_same]
    exact St.add_T ka
  · rw [if_neg k, if_neg k]; omega
theorem Ch.judge_snoc (C : Ch) (l : List Cs) (t : Cs) : C.judge (l ++ [t]) = (C.judge l).judge1 t := by
  unfold Ch.judge
  rw [List.foldl_append]
  rfl
theorem take_snoc {α : Type} {L : List α} {i : Nat} {t : α} (h : L[i]? = some t) : L.take (i + 1) = L.take i ++ [t] := by
  obtain ⟨hi, rfl⟩ := List.getElem?_eq_some_iff.1 h
  exact List.take_succ_eq_append_getElem hi
def heavyTo (f : Nat → Int) (j : Nat) : Bool := (List.range j).any fun i => decide (0 < f i)
theorem heavyTo_succ (f : Nat → Int) (j : Nat) : heavyTo f (j + 1) = (heavyTo f j || decide (0 < f j)) := by simp [heavyTo, List.range_succ, List.any_append]
theorem heavy_iff {f : Nat → Int} (h : Weights 3 f) : heavyTo f 3 = decide (sumTo f 3 ≠ 0) := by
  have a0 := (h.bd 0 (by omega)).1
  have a1 := (h.bd 1 (by omega)).1
  have a2 := (h.bd 2 (by omega)).1
  have e : sumTo f 3 = 0 + f 0 + f 1 + f 2 := rfl
  rw [heavyTo_succ, heavyTo_succ, heavyTo_succ, show heavyTo f 0 = false from rfl, e]
  by_cases b0 : 0 < f 0 <;> by_cases b1 : 0 < f 1 <;> by_cases b2 : 0 < f 2 <;> simp [b0, b1, b2] <;> omega
end Go.Proofs.YtaihcceobnfmhaaDoor

namespace Go.Proofs.YtaihcceobnfmhaaDoor
open Go.RowKit

theorem weight_of (n : Int) (w : World) :
    Calls Tryd.prog 25 #[.int .i64 n] w fun e w' => e = .returned (.int .i64 (wtOf n)) ∧ w' = w := by
  by_cases h0 : n < 100
  · have e : Hid (wtOf n = 0) := if_pos h0
    go_enter Tryd.func25, Tryd.ntmps25
    go_wp2
    go_ret
    exact ⟨ret_int e.out.symm, rfl⟩
  · by_cases h1 : 1073741824 < n
    · have e : Hid (wtOf n = 1073741824) := (if_neg h0).trans (if_pos h1)
      go_enter Tryd.func25, Tryd.ntmps25
      go_wp2
      go_ret
      exact ⟨ret_int (by rw [e.out]; omega), rfl⟩
    · have e : Hid (wtOf n = n) := (if_neg h0).trans (if_neg h1)
      go_enter Tryd.func25, Tryd.ntmps25
      go_wp2
      go_ret
      exact ⟨ret_int (by rw [e.out]; omega), rfl⟩
set_option maxRecDepth 100000 in
set_option maxHeartbeats 1000000 in
theorem pr_picture (F : Nat → Prop) (sb : Nat) (S : Sk) (hS : S.Ok) (g : Nat) (w : World) (h : PSk F w sb S g) :
    Calls Tryd.prog 15 #[.pointer (some ⟨sb, 0, none⟩)] w fun e w' => ∃ m cap, e = .returned (.slice (some ⟨m, 0, none⟩) 3 cap) ∧ (w.heap.size ≤ m ∧ m < w'.heap.size) ∧ Ints w' m 0 3 S.pic ∧ Below w.heap.size w w' := by
  have mk := make_tri
  have R := RowTo.new w 3 3 S.pic
  have B0 : Below w.heap.size w (w.alloc (.cells (noughts 3) 3)) := (Below.refl _ _).alloc (Nat.le_refl _) _
  go_enter Tryd.func15, Tryd.ntmps15
  go_wp2
  go_loopw [11] (fun i wr => ∃ k : Nat, k ≤ 3 ∧ i = .int .i64 k ∧ RowTo wr w.heap.size 3 k S.pic ∧ Below w.heap.size w wr) (fun i _ => 3 - (intOf i).toNat)
  case atStart => exact ⟨0, Nat.zero_le _, rfl, R, B0⟩
  case round =>
    obtain ⟨k, hk, rfl, Rk, B⟩ := hrel
    clear R B0
    by_cases hlt : k < 3
    · have P := h.keptP (KeptP.of_below (F := fun _ => False) B) (fun _ g => g.elim)
      clear h
      go_wp2_with fail
      refine (ps_staked F sb S hS g k wr P).mono ?_
      rintro e w1 ⟨rfl, m, hw⟩
      have R1 : RowTo w1 w.heap.size 3 k S.pic := by rw [hw]; exact Rk.below (below_drewN (Below.refl _ _) m)
      have B1 : Below w.heap.size w w1 := by rw [hw]; exact below_drewN B m
      clear hw Rk B P
      go_wp2_with fail
      refine (weight_of _ w1).mono ?_
      rintro e w2 ⟨rfl, hw⟩
      obtain rfl := hw.symm
      have c1 := R1.c k hlt
      have f1 := R1.f k
      have R2 := R1.next (x := wtOf (S.P k).T) hlt (fun _ _ => rfl) rfl
      have B2 := B1.setCell (p := ⟨w.heap.size, k, none⟩) (Nat.le_refl _) (.int .i64 (wtOf (S.P k).T))
      clear R1 B1
      go_wp2_with fail
      go_roundw
      case rel => exact ⟨k + 1, by omega, by go_num, R2, B2⟩
      case measure => simp [intOf]; omega
    · obtain rfl : k = 3 := by omega
      have lt := Rk.lt
      have I := Rk.all
      clear Rk
      go_wp2_with fail
      go_ret
      exact ⟨_, _, rfl, ⟨Nat.le_refl _, lt⟩, I, B⟩
end Go.Proofs.YtaihcceobnfmhaaDoor

namespace Go.Proofs.YtaihcceobnfmhaaDoor
open Go.RowKit

/-- a number of its own is written -/
theorem PChAt.num {tag : Nat → Nat} {w : World} {cb pb sb kb g : Nat} {xs : Nat → Value} {C : Ch} (h : PChAt tag w cb pb sb kb xs C g) (cy lv : Nat) (bo : Int) (ps : List (Nat → Int)) (hps : ps.drop cy = C.pics.drop C.cyc) (i : Nat) (x : Int) (hi : (i = 4 ∧ x = cy ∧ lv = C.lev ∧ bo = C.bon) ∨ (i = 5 ∧ x = lv ∧ cy = C.cyc ∧ bo = C.bon) ∨ (i = 6 ∧ x = bo ∧ cy = C.cyc ∧ lv = C.lev)) :
    PChAt tag (w.setCell ⟨cb, i, none⟩ (.int .i64 x)) cb pb sb kb xs { C with cyc := cy, lev := lv, bon := bo, pics := ps } g := by
  have hK : KeptP (fun k => tag k = 1) w (w.setCell ⟨cb, i, none⟩ (.int .i64 x)) := KeptP.setCell (F := fun k => tag k = 1) (KeptP.refl _ _) (p := ⟨cb, i, none⟩) h.tc _
  have np : ¬ tag pb = 1 := by rw [h.tp]; decide
  have far : ∀ {j : Nat} {u : Value}, j ≠ i → w.cell? ⟨cb, j, none⟩ = some u → (w.setCell ⟨cb, i, none⟩ (.int .i64 x)).cell? ⟨cb, j, none⟩ = some u := fun {j u} ne e => by
    rw [World.cell?_setCell_other _ _ _ _ (fun z => absurd (congrArg Addr.off z) (fun z => ne z.symm))]; exact e
  have hi' : i = 4 ∨ i = 5 ∨ i = 6 := by omega
  exact { c0 := far (by omega) h.c0, c1 := far (by omega) h.c1, c2 := far (by omega) h.c2, c3 := far (by omega) h.c3
          c4 := by
            rcases hi with ⟨rfl, rfl, _⟩ | ⟨rfl, _, rfl, _⟩ | ⟨rfl, _, rfl, _⟩
            · exact World.cell?_setCell_same _ _ _ h.c4
            · exact far (by omega) h.c4
            · exact far (by omega) h.c4
          c5 := by
            rcases hi with ⟨rfl, _, rfl, _⟩ | ⟨rfl, rfl, _⟩ | ⟨rfl, _, _, rfl⟩
            · exact far (by omega) h.c5
            · exact World.cell?_setCell_same _ _ _ h.c5
            · exact far (by omega) h.c5
          c6 := by
            rcases hi with ⟨rfl, _, _, rfl⟩ | ⟨rfl, _, _, rfl⟩ | ⟨rfl, rfl, _⟩
            · exact far (by omega) h.c6
            · exact far (by omega) h.c6
            · exact World.cell?_setCell_same _ _ _ h.c6
          c7 := far (by omega) h.c7, c8 := far (by omega) h.c8, c9 := far (by omega) h.c9
          f := fun j => by rw [World.frozen?_setCell]; exact h.f j
          p := ⟨⟨fun i hi => hK.old (h.p.raw.s i hi) np, hK.old h.p.raw.c6 np, fun i => by rw [hK.frozen (p := ⟨pb, i, none⟩) h.p.lt np]; exact h.p.raw.f i⟩, h.p.ok⟩
          s := h.s.keptP hK fun k q e => by rw [q] at e; cases e
          c := h.c.keptP hK fun k q e => by rw [q] at e; cases e
          pics := by
            show PicsAt tag _ xs (ps.drop cy)
            rw [hps]
            exact h.pics.keptP hK (fun k e q => by rw [q] at e; cases e)
          tc := h.tc, tp := h.tp
          lt := fun k hk => Nat.lt_of_lt_of_le (h.lt k hk) hK.size
          vin := fun k hk => Nat.lt_of_lt_of_le (h.vin k hk) hK.size, vs := h.vs }
/-- the picture that is next, of stakes and of the one that is last -/
def nextOf (S : Sk) (W : Nat → Int) : Nat → Int := if sumTo S.pic 3 ≠ 0 then S.pic else W
/-- a picture more, the first one gone -/
theorem PChAt.shifted {tag : Nat → Nat} {w wx : World} {cb pb sb kb g m cap : Nat} {xs : Nat → Value} {C : Ch} {Wn : Nat → Int} {ps : List (Nat → Int)} (h : PChAt tag w cb pb sb kb xs C g) (hB : Below w.heap.size w wx)
    (hm : tag m = 6 ∨ w.heap.size ≤ m) (hmx : m < wx.heap.size) (I : Ints wx m 0 3 Wn) (hps : ∀ i, i < 3 → (ps.drop C.cyc)[i]? = if i = 2 then some Wn else (C.pics.drop C.cyc)[i + 1]?) :
    ∃ tag', PChAt tag' (((wx.setCell ⟨cb, 7, none⟩ (xs 1)).setCell ⟨cb, 8, none⟩ (xs 2)).setCell ⟨cb, 9, none⟩ (.slice (some ⟨m, 0, none⟩) 3 cap)) cb pb sb kb (fun i => if i = 2 then .slice (some ⟨m, 0, none⟩) 3 cap else xs (i + 1)) { C with pics := ps } g ∧ (∀ k, k < w.heap.size → tag' k ≠ 0 → tag k ≠ 0) ∧
      KeptP (fun k => tag k ≠ 0) w (((wx.setCell ⟨cb, 7, none⟩ (xs 1)).setCell ⟨cb, 8, none⟩ (xs 2)).setCell ⟨cb, 9, none⟩ (.slice (some ⟨m, 0, none⟩) 3 cap)) := by
  have hsz := hB.size
  have K6 : KeptP (fun k => tag k = 1) w wx := KeptP.of_below hB
  have K7 : KeptP (fun k => tag k = 1) w (((wx.setCell ⟨cb, 7, none⟩ (xs 1)).setCell ⟨cb, 8, none⟩ (xs 2)).setCell ⟨cb, 9, none⟩ (.slice (some ⟨m, 0, none⟩) 3 cap)) := ((K6.setCell (p := ⟨cb, 7, none⟩) h.tc _).setCell (p := ⟨cb, 8, none⟩) h.tc _).setCell (p := ⟨cb, 9, none⟩) h.tc _
  have lcb : cb < w.heap.size := cell_lt h.c0
  have mcb : m ≠ cb := fun e => by
    rcases hm with a | a
    · rw [e, h.tc] at a; cases a
    · omega
  have far : ∀ k, w.heap.size ≤ k → tag k = 0 := fun k l => by
    rcases Nat.eq_zero_or_pos (tag k) with e | e
    · exact e
    · have := h.lt k (by omega); omega
  have ne : ∀ {i j : Nat}, i ≠ j → (⟨cb, i, none⟩ : Addr) ≠ ⟨cb, j, none⟩ := fun n z => n (congrArg Addr.off z)
  have old : ∀ {j : Nat} {u : Value}, j < 7 → w.cell? ⟨cb, j, none⟩ = some u → (((wx.setCell ⟨cb, 7, none⟩ (xs 1)).setCell ⟨cb, 8, none⟩ (xs 2)).setCell ⟨cb, 9, none⟩ (.slice (some ⟨m, 0, none⟩) 3 cap)).cell? ⟨cb, j, none⟩ = some u := fun {j u} l e => by
    rw [World.cell?_setCell_other _ _ _ _ (ne (by omega)), World.cell?_setCell_other _ _ _ _ (ne (by omega)), World.cell?_setCell_other _ _ _ _ (ne (by omega))]
    exact was_cellP hB e
  have np : ¬ tag pb = 1 := by rw [h.tp]; decide
  let tag' : Nat → Nat := fun k => if k = m then 6 else tag k
  have other : ∀ {u k}, u ≠ 0 → u ≠ 6 → tag k = u → tag' k = u := fun {u k} u0 u6 e => by
    have n1 : k ≠ m := fun z => by
      rcases hm with a | a
      · rw [z, a] at e; exact u6 e.symm
      · rw [z, far m a] at e; exact u0 e.symm
    show (if k = m then 6 else tag k) = u
    rw [if_neg n1, e]
  have back : ∀ {u k}, u ≠ 6 → tag' k = u → tag k = u := fun {u k} u6 e => by
    have e : (if k = m then 6 else tag k) = u := e
    split at e
    · exact absurd e.symm u6
    · exact e
  have same : ∀ {u}, u ≠ 0 → u ≠ 6 → (fun k => tag' k = u) = (fun k => tag k = u) := fun {u} u0 u6 => funext fun k => propext ⟨back u6, other u0 u6⟩
  have six : ∀ k, tag k = 6 → tag' k = 6 := fun k e => by
    show (if k = m then 6 else tag k) = 6
    split
    · rfl
    · exact e
  have nz : ∀ k, tag' k ≠ 0 → k = m ∨ tag k ≠ 0 := fun k hk => by
    by_cases z : k = m
    · exact .inl z
    · have hk : (if k = m then 6 else tag k) ≠ 0 := hk
      rw [if_neg z] at hk
      exact .inr hk
  have sz7 : (((wx.setCell ⟨cb, 7, none⟩ (xs 1)).setCell ⟨cb, 8, none⟩ (xs 2)).setCell ⟨cb, 9, none⟩ (.slice (some ⟨m, 0, none⟩) 3 cap)).heap.size = wx.heap.size := by simp [World.setCell]
  have mI : ∀ j, j < 3 → (((wx.setCell ⟨cb, 7, none⟩ (xs 1)).setCell ⟨cb, 8, none⟩ (xs 2)).setCell ⟨cb, 9, none⟩ (.slice (some ⟨m, 0, none⟩) 3 cap)).cell? ⟨m, 0 + j, none⟩ = some (.int .i64 (Wn j)) := fun j hj => by
    rw [World.cell?_setCell_other _ _ _ _ (fun z => mcb (congrArg Addr.block z).symm), World.cell?_setCell_other _ _ _ _ (fun z => mcb (congrArg Addr.block z).symm), World.cell?_setCell_other _ _ _ _ (fun z => mcb (congrArg Addr.block z).symm)]
    exact I j hj
  refine ⟨tag', ?_, fun k hk e => ?_, K7.mono fun k _ e => by rw [e]; decide⟩
  · exact { c0 := old (by omega) h.c0, c1 := old (by omega) h.c1, c2 := old (by omega) h.c2, c3 := old (by omega) h.c3, c4 := old (by omega) h.c4, c5 := old (by omega) h.c5, c6 := old (by omega) h.c6
            c7 := by
              rw [World.cell?_setCell_other _ _ _ _ (ne (by omega)), World.cell?_setCell_other _ _ _ _ (ne (by omega))]
              exact World.cell?_setCell_same _ _ _ (was_cellP hB h.c7)
            c8 := by
              rw [World.cell?_setCell_other _ _ _ _ (ne (by omega))]
              have q : (wx.setCell ⟨cb, 7, none⟩ (xs 1)).cell? ⟨cb, 8, none⟩ = some (xs 1) := by
                rw [World.cell?_setCell_other _ _ _ _ (ne (by omega))]
                exact was_cellP hB h.c8
              exact World.cell?_setCell_same _ _ _ q
            c9 := by
              have q : ((wx.setCell ⟨cb, 7, none⟩ (xs 1)).setCell ⟨cb, 8, none⟩ (xs 2)).cell? ⟨cb, 9, none⟩ = some (xs 2) := by
                rw [World.cell?_setCell_other _ _ _ _ (ne (by omega)), World.cell?_setCell_other _ _ _ _ (ne (by omega))]
                exact was_cellP hB h.c9
              exact World.cell?_setCell_same _ _ _ q
            f := fun i => by rw [World.frozen?_setCell, World.frozen?_setCell, World.frozen?_setCell, hB.frozen (p := ⟨cb, i, none⟩) lcb]; exact h.f i
            p := ⟨⟨fun i hi => K7.old (h.p.raw.s i hi) np, K7.old h.p.raw.c6 np, fun i => by rw [K7.frozen (p := ⟨pb, i, none⟩) h.p.lt np]; exact h.p.raw.f i⟩, h.p.ok⟩
            s := by rw [same (by decide) (by decide)]; exact h.s.keptP K7 fun k e z => by rw [e] at z; cases z
            c := by rw [same (by decide) (by decide)]; exact h.c.keptP K7 fun k e z => by rw [e] at z; cases z
            pics := ⟨fun i W hi hW => by
              have hW : (ps.drop C.cyc)[i]? = some W := hW
              rw [hps i hi] at hW
              by_cases e2 : i = 2
              · rw [if_pos e2] at hW
                cases hW
                exact ⟨m, cap, if_pos e2, if_pos rfl, mI⟩
              · rw [if_neg e2] at hW
                obtain ⟨m1, cap1, e, t1, I1⟩ := h.pics.one (i + 1) W (by omega) hW
                have n1 : ¬ tag m1 = 1 := by rw [t1]; decide
                exact ⟨m1, cap1, (if_neg e2).trans e, six m1 t1, fun j hj => K7.old (I1 j hj) n1⟩⟩
            tc := other (by decide) (by decide) h.tc, tp := other (by decide) (by decide) h.tp
            lt := fun k hk => by
              rw [sz7]
              rcases nz k hk with z | z
              · omega
              · have := h.lt k z; omega
            vin := fun k hk => by rw [sz7]; have := h.vin k hk; omega
            vs := fun k hk z => by
              have lz := h.vin k z
              rcases nz k hk with y | y
              · rcases hm with a | a
                · exact h.vs k (by rw [y, a]; decide) z
                · omega
              · exact h.vs k y z }
  · rcases nz k e with z | z
    · rcases hm with a | a
      · rw [z, a]; decide
      · omega
    · exact z
/-- the greatest of the first ones -/
def maxTo (W : Nat → Int) : Nat → Int
  | 0 => W 0
  | k + 1 => max (maxTo W k) (W (k + 1))
set_option maxRecDepth 100000 in
set_option maxHeartbeats 1000000 in
theorem max_three (m cap : Nat) (W : Nat → Int) (w : World) (I : Ints w m 0 3 W) :
    Calls Tryd.prog 79 #[.slice (some ⟨m, 0, none⟩) 3 cap] w fun e w' => e = .returned (.int .i64 (maxTo W 2)) ∧ w' = w := by
  have c0 := I 0 (by omega)
  rw [Nat.zero_add] at c0
  go_enter Tryd.func79, Tryd.ntmps79
  go_wp2_with fail
  go_loopw [3, 4] (fun s i wr => ∃ k : Nat, k ≤ 2 ∧ i = .int .i64 ((k : Int) + 1) ∧ s = .int .i64 (maxTo W k) ∧ wr = w) (fun _ i _ => 3 - (intOf i).toNat)
  case atStart => exact ⟨0, by omega, rfl, rfl, rfl⟩
  case round =>
    obtain ⟨k, hk, rfl, rfl, hwr⟩ := hrel
    obtain rfl := hwr.symm
    clear hwr
    by_cases hlt : k < 2
    · have ck := I (k + 1) (by omega)
      rw [Nat.zero_add] at ck
      have k3 : (k : Int) + 1 < 3 := by omega
      have E1 := hide (show maxTo W (k + 1) = max (maxTo W k) (W (k + 1)) from rfl)
      clear I c0
      generalize W (k + 1) = q at *
      generalize maxTo W k = p at *
      go_wp2_with fail
      go_roundw
      case rel => exact ⟨k + 1, by omega, by go_num, by first | (rw [E1.out]; done) | (rw [E1.out]; congr 1; omega), by first | rfl | trivial⟩
      case measure => simp [intOf]; omega
    · obtain rfl : k = 2 := by omega
      have k3 : ¬ ((2 : Nat) : Int) + 1 < 3 := by omega
      clear I c0
      generalize hp : maxTo W 2 = p at *
      go_wp2_with fail
      go_ret
      exact ⟨rfl, rfl⟩
theorem maxTo_zero {W : Nat → Int} (h0 : 0 ≤ W 0) (h1 : 0 ≤ W 1) (h2 : 0 ≤ W 2) : maxTo W 2 = 0 ↔ sumTo W 3 = 0 := by
  show max (max (W 0) (W 1)) (W 2) = 0 ↔ 0 + W 0 + W 1 + W 2 = 0
  omega
end Go.Proofs.YtaihcceobnfmhaaDoor
