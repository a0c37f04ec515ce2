/-
  The program's chain by its contracts: pay, stake, unstake, free, accuse.
  A chain, plainly: how many pools, cases, cycles and levels there are at most behind so many acts; what an act makes of supply.
  The program's picture of stakes, by its contract.
-/
import Derived.Test.YtjodnacodlhamacDoorProgBooksPay
import Derived.Test.YtjodnacodlhamacDoorBoundX
import Derived.Test.YtjodnacodlhamacDoorProgStkActs
import Derived.Test.YtjodnacodlhamacDoorCourtMathX
import Derived.Test.YtjodnacodlhamacDoorProgRight
namespace Go.Proofs.YtjodnacodlhamacDoor
open Go.RowKit

/-- an act's end -/
def ChEnd (F : Nat → Prop) (cb g : Nat) (C' : Ch) (c : Int) (A : Nat → Addr) (w : World) (e : Ending) (w' : World) : Prop := ∃ ev F', e = .returned ev ∧ ErrIs A ev c ∧ PCh F' w' cb C' (g + 2000) ∧ Moved F F' w w'
def ChEndN (F : Nat → Prop) (cb g : Nat) (C' : Ch) (n c : Int) (A : Nat → Addr) (w : World) (e : Ending) (w' : World) : Prop := ∃ ev F', e = .returned (.tuple #[.int .i64 n, ev]) ∧ ErrIs A ev c ∧ PCh F' w' cb C' (g + 2000) ∧ Moved F F' w w'
/-- what its doing leaves of the errors -/
theorem PChAt.laid {tag : Nat → Nat} {w w' : World} {cb pb sb kb g : Nat} {xs : Nat → Value} {C : Ch} {F : Nat → Prop} {A : Nat → Addr} (h : PChAt tag w cb pb sb kb xs C g) (hL : ChLaid8 w A) (hf : ∀ k, F k ↔ tag k ≠ 0) (hK : KeptP F w w') : ChLaid8 w' A := hL.keptP hK fun k q => h.vs k ((hf k).1 q)
theorem PChAt.sk {tag : Nat → Nat} {w w' : World} {cb pb sb kb g g' : Nat} {xs : Nat → Value} {C : Ch} {F G : Nat → Prop} {S : Sk} (h : PChAt tag w cb pb sb kb xs C g) (hf : ∀ k, F k ↔ tag k ≠ 0) (hs : PSk G w' sb S g') (hM : Moved (fun k => tag k = 3) G w w') (hg : g ≤ g') (h2 : g' ≤ g + 2000) :
    ∃ F', PCh F' w' cb { C with s := S } (g + 2000) ∧ Moved F F' w w' :=
  ⟨_, ⟨_, _, _, _, _, fun _ => Iff.rfl, (h.stakes hs hM hg).more h2⟩, retag_moved hf hM (by decide)⟩
theorem PChAt.ct {tag : Nat → Nat} {w w' : World} {cb pb sb kb g g' : Nat} {xs : Nat → Value} {C : Ch} {F G : Nat → Prop} {x : Ct} (h : PChAt tag w cb pb sb kb xs C g) (hf : ∀ k, F k ↔ tag k ≠ 0) (hs : PCt G w' kb x g') (hM : Moved (fun k => tag k = 4) G w w') (hg : g ≤ g') (h2 : g' ≤ g + 2000) :
    ∃ F', PCh F' w' cb { C with c := x } (g + 2000) ∧ Moved F F' w w' :=
  ⟨_, ⟨_, _, _, _, _, fun _ => Iff.rfl, (h.court hs hM hg).more h2⟩, retag_moved hf hM (by decide)⟩
theorem moved_after {F F' : Nat → Prop} {w w1 w2 : World} (hB : Below w.heap.size w w1) (h : Moved F F' w1 w2) (hl : ∀ k, F' k → F k ∨ w.heap.size ≤ k) : Moved F F' w w2 :=
  ⟨(KeptP.of_below (F := F) hB).trans h.kept fun _ _ q => q, fun k hk q => (hl k q).elim id fun z => by omega⟩

theorem Ch.stake_parts (C : Ch) (o b n : Int) : { C with p := (C.stake o b n).p, s := (C.stake o b n).s } = C.stake o b n := by
  unfold Ch.stake
  split <;> rfl
theorem Ch.free_parts (C : Ch) (o : Int) : { C with p := (C.free o).p, s := (C.free o).s } = C.free o := by
  unfold Ch.free
  split <;> rfl
set_option maxRecDepth 100000 in
set_option maxHeartbeats 1000000 in
theorem pch_stake (F : Nat → Prop) (cb : Nat) (C : Ch) (hC : C.Ok) (_hb : C.Few) (g : Nat) (hg : g ≤ 800000) (o b n : Int) (wo : (Lit.int .i64 o).wf = true) (A : Nat → Addr) (w : World) (hL : ChLaid8 w A) (h : PCh F w cb C g) :
    Calls Tryd.prog 6 #[.pointer (some ⟨cb, 0, none⟩), .int .i64 o, .int .i64 b, .int .i64 n] w (ChEnd F cb g (C.stake o b n) (C.stakeC o b n) A w) := by
  obtain ⟨tag, pb, sb, kb, xs, hf, h⟩ := h
  have c0 := h.c0
  have c1 := h.c1
  have P := bks_stake _ pb sb C hC.p hC.s g hg o b n wo A w hL h.bks
  have H := hide h
  clear h
  go_enter Tryd.func6, Tryd.ntmps6
  go_wp2_with fail
  refine P.mono ?_
  rintro e w1 ⟨ev, G, rfl, hE, hb, hM⟩
  obtain ⟨F', h1, h2⟩ := H.out.bk hf hb hM (by omega) (C.stake_parts o b n)
  clear P H hb hM c0 c1
  go_wp2_with fail
  go_ret
  exact ⟨ev, F', rfl, hE, h1, h2⟩
end Go.Proofs.YtjodnacodlhamacDoor

namespace Go.Proofs.YtjodnacodlhamacDoor

theorem Sk.join_K (S : Sk) (o b n : Int) : (S.join o b n).K = S.K := by unfold Sk.join; split <;> rfl
theorem Sk.add_K (S : Sk) (b n : Int) : (S.add b n).K = S.K := by unfold Sk.add; split <;> rfl
theorem Sk.free_K (S : Sk) (o c : Int) : (S.free o c).K = S.K := by unfold Sk.free; split <;> rfl
theorem Sk.slash_K (S : Sk) (b f p : Int) : (S.slash b f p).K = S.K := by unfold Sk.slash; split <;> rfl
theorem Ct.acc_len (x : Ct) (o : Int) (e : Ev) (c : Int) : (x.acc o e c).L.length ≤ x.L.length + 1 := by
  unfold Ct.acc
  split
  · show (x.L ++ [(o, e)]).length ≤ _
    rw [List.length_append]; exact Nat.le_refl _
  · omega
theorem Ch.judge_K : ∀ (l : List Cs) (C : Ch), (C.judge l).s.K = C.s.K
  | [], _ => rfl
  | t :: l, C => (Ch.judge_K l (C.judge1 t)).trans (Sk.slash_K _ _ _ _)
theorem Ch.ended_K (C : Ch) : C.ended.s.K = C.s.K := Ch.judge_K C.c.due { C with c := C.c.asked }
theorem Ch.ended_L (C : Ch) : C.ended.c.L = C.c.L := by
  have j := (Ch.judge_same C.c.due { C with c := C.c.asked }).1
  show (Ch.judge { C with c := C.c.asked } C.c.due).c.L = _
  rw [j]; rfl
theorem Ch.stepped_K (C : Ch) : C.stepped.s.K = C.s.K := by
  unfold Ch.stepped
  split
  · exact Ch.ended_K _
  · rfl
theorem Ch.stepped_L (C : Ch) : C.stepped.c.L = C.c.L := by
  unfold Ch.stepped
  split
  · exact Ch.ended_L _
  · rfl
theorem Ch.paid_K (C : Ch) (b : Int) : (C.paid b).s.K = C.s.K := by
  unfold Ch.paid
  split
  · exact Sk.add_K _ _ _
  · rfl

/-- so many pools, cases and levels at most; the cycle is a fourth of the level -/
structure Ch.Fit (C : Ch) (i : Nat) : Prop where
  k : C.s.K.length ≤ i
  l : C.c.L.length ≤ i
  y : C.cyc = C.lev / 4
  v : C.lev ≤ i
theorem Ch.Fit.more {C : Ch} {i j : Nat} (h : C.Fit i) (hj : i ≤ j) : C.Fit j := ⟨Nat.le_trans h.k hj, Nat.le_trans h.l hj, h.y, Nat.le_trans h.v hj⟩
theorem chNew_fit (seed : Nat) : (chNew seed).Fit 0 := ⟨by show stakes0.K.length ≤ 0; decide, Nat.le_refl _, (by show (0 : Nat) = 0 / 4; decide), Nat.le_refl _⟩
theorem Ch.Fit.turn {C : Ch} {i : Nat} (h : C.Fit i) (hi : i ≤ 1000) {r : Int} (r0 : 0 ≤ r) (r8 : r < 8) : TurnOk C.cyc C.lev r := by
  have := h.y
  have := h.v
  exact ⟨⟨by omega, by omega⟩, ⟨by omega, by omega⟩, r0, r8⟩
theorem Ch.Fit.pay {C : Ch} {i : Nat} (h : C.Fit i) (o t n : Int) : (C.pay o t n).Fit (i + 1) := ⟨Nat.le_succ_of_le h.k, Nat.le_succ_of_le h.l, h.y, Nat.le_succ_of_le h.v⟩
theorem Ch.Fit.stake {C : Ch} {i : Nat} (h : C.Fit i) (o b n : Int) : (C.stake o b n).Fit (i + 1) := by
  unfold Ch.stake
  split
  · exact ⟨by show (C.s.join o b n).K.length ≤ _; rw [Sk.join_K]; exact Nat.le_succ_of_le h.k, Nat.le_succ_of_le h.l, h.y, Nat.le_succ_of_le h.v⟩
  · exact h.more (Nat.le_succ _)
theorem Ch.Fit.unstake {C : Ch} {i : Nat} (h : C.Fit i) (o b n : Int) : (C.unstake o b n).Fit (i + 1) :=
  ⟨Nat.le_trans (leave_len C.s o b n C.cyc) (Nat.succ_le_succ h.k), Nat.le_succ_of_le h.l, h.y, Nat.le_succ_of_le h.v⟩
theorem Ch.Fit.free {C : Ch} {i : Nat} (h : C.Fit i) (o : Int) : (C.free o).Fit (i + 1) := by
  unfold Ch.free
  split
  · exact ⟨by show (C.s.free o C.cyc).K.length ≤ _; rw [Sk.free_K]; exact Nat.le_succ_of_le h.k, Nat.le_succ_of_le h.l, h.y, Nat.le_succ_of_le h.v⟩
  · exact h.more (Nat.le_succ _)
theorem Ch.Fit.accuse {C : Ch} {i : Nat} (h : C.Fit i) (o : Int) (e : Ev) : (C.accuse o e).Fit (i + 1) :=
  ⟨Nat.le_succ_of_le h.k, Nat.le_trans (Ct.acc_len C.c o e C.cyc) (Nat.succ_le_succ h.l), h.y, Nat.le_succ_of_le h.v⟩
theorem Ch.Fit.bake {C : Ch} {i : Nat} (h : C.Fit i) (b : Int) : (C.bake b).Fit (i + 1) := by
  have p := C.paid_same b
  refine ⟨?_, ?_, ?_, ?_⟩
  · show ((C.paid b).stepped).s.K.length ≤ _
    rw [Ch.stepped_K, Ch.paid_K]; exact Nat.le_succ_of_le h.k
  · show ((C.paid b).stepped).c.L.length ≤ _
    rw [Ch.stepped_L, p.2.2]; exact Nat.le_succ_of_le h.l
  · show ((C.paid b).stepped).cyc = ((C.paid b).stepped).lev / 4
    rw [Ch.stepped_cyc (by rw [p.1, p.2.1]; exact h.y), Ch.stepped_lev]
  · show ((C.paid b).stepped).lev ≤ _
    rw [Ch.stepped_lev, p.2.1]; exact Nat.succ_le_succ h.v

/-! an act, and supply -/
theorem Ch.Ok.rew_part {C : Ch} (h : C.Ok) : C.rew * 80 ≤ C.p.S := by
  unfold Ch.rew rewardN
  rw [if_pos h.rewardOk]
  have := h.rate_bd
  have := h.pos
  have := reward_part (s := C.p.S) (r := C.rate) (by omega) (by omega) (by omega)
  omega
/-- what an act made of a chain: n was minted -/
structure Ch.Went (C C' : Ch) (n : Int) (i : Nat) : Prop where
  ok : C'.Ok
  fit : C'.Fit (i + 1)
  n0 : 0 ≤ n
  nS : n * 80 ≤ C.p.S
  le : C'.p.S ≤ C.p.S + n
  eq : C'.cyc = C.cyc → C'.p.S = C.p.S + n
theorem Ch.Went.quiet {C C' : Ch} {i : Nat} (h : C.Ok) (k : C'.Ok) (f : C'.Fit (i + 1)) (e : C'.p.S = C.p.S) : C.Went C' 0 i :=
  ⟨k, f, Int.le_refl _, by have := h.pos; omega, by omega, fun _ => by omega⟩
theorem Ch.Went.same {C : Ch} {i : Nat} (h : C.Ok) (f : C.Fit i) : C.Went C 0 i := .quiet h h (f.more (Nat.le_succ _)) rfl
theorem Ch.Went.pay {C : Ch} {i : Nat} (h : C.Ok) (f : C.Fit i) (o t n : Int) : C.Went (C.pay o t n) 0 i := .quiet h (h.pay o t n) (f.pay o t n) (C.p.move_gap o t n).1
theorem Ch.Went.stake {C : Ch} {i : Nat} (h : C.Ok) (f : C.Fit i) (o b n : Int) : C.Went (C.stake o b n) 0 i := by
  refine .quiet h (h.stake o b n) (f.stake o b n) ?_
  unfold Ch.stake
  by_cases k : C.stakeC o b n = 0
  · rw [if_pos k]; exact (Pu.out_gap (Ch.stakeC_zero k).1).1
  · rw [if_neg k]
theorem Ch.Went.unstake {C : Ch} {i : Nat} (h : C.Ok) (f : C.Fit i) (o b n : Int) : C.Went (C.unstake o b n) 0 i := .quiet h (h.unstake o b n) (f.unstake o b n) rfl
theorem Ch.Went.free {C : Ch} {i : Nat} (h : C.Ok) (f : C.Fit i) (o : Int) : C.Went (C.free o) 0 i := by
  refine .quiet h (h.free o) (f.free o) ?_
  unfold Ch.free
  by_cases k : C.s.freeC o C.cyc = 0
  · rw [if_pos k]; exact (Pu.in_gap (Sk.freeC_in k).1 (h.freeIn k)).1
  · rw [if_neg k]
theorem Ch.Went.accuse {C : Ch} {i : Nat} (h : C.Ok) (f : C.Fit i) (o : Int) (e : Ev) : C.Went (C.accuse o e) 0 i := .quiet h (h.accuse o e) (f.accuse o e) rfl
theorem Ch.Went.bake {C : Ch} {i : Nat} (h : C.Ok) (f : C.Fit i) (b : Int) : C.Went (C.bake b) (C.bakeN b) i := by
  have k := h.bake b
  refine ⟨k.1, f.bake b, (h.bakeN_bd b).1, ?_, k.2.1, k.2.2⟩
  unfold Ch.bakeN
  split
  · exact h.rew_part
  · have := h.pos; omega

/-! supply stays small -/
def Ch.Low (C : Ch) (i : Nat) : Prop := C.p.S ≤ 60000 * (((i + 1) * (i + 1) : Nat) : Int)
theorem chNew_low (seed : Nat) : (chNew seed).Low 0 := by
  show purse0.S ≤ _
  rw [purse0_S]; decide
theorem Ch.Low.next {C C' : Ch} {n : Int} {i : Nat} (h : C.Low i) (hi : i ≤ 120) (g : C.Went C' n i) : C'.Low (i + 1) := by
  have a := g.le
  have b := g.nS
  unfold Ch.Low at h ⊢
  have e : (i + 1) * (i + 1) ≤ 121 * (i + 1) := Nat.mul_le_mul_right _ (by omega)
  have e2 : (i + 1 + 1) * (i + 1 + 1) = (i + 1) * (i + 1) + 2 * (i + 1) + 1 := by rw [Nat.add_mul, Nat.mul_add]; omega
  rw [e2]
  generalize (i + 1) * (i + 1) = q at *
  omega
theorem Ch.Low.top {C : Ch} {i : Nat} (h : C.Low i) (hi : i ≤ 120) : C.p.S ≤ 1000000000 := by
  unfold Ch.Low at h
  have e : (i + 1) * (i + 1) ≤ 121 * 121 := Nat.mul_le_mul (by omega) (by omega)
  generalize (i + 1) * (i + 1) = q at *
  omega
/-- where something is staked the reward is paid -/
theorem Ch.Ok.pays {C : Ch} (h : C.Ok) (hS : C.p.S ≤ 1000000000) {b : Int} (hb : Bk b) (hT : 0 < (C.s.P b).T) : C.Payable b := by
  have r := h.rew_bd
  have q := h.rew_part
  have po := h.s.pok b
  have t : (C.s.P b).T ≤ C.p.S := by
    have a := h.s.staked_le
    have s := h.sum
    have s0 := h.p.sum0
    have p0 := (h.s.P_bd 0).1
    have p1 := (h.s.P_bd 1).1
    have p2 := (h.s.P_bd 2).1
    have e : b = 0 ∨ b = 1 ∨ b = 2 := by have := hb.1; have := hb.2; omega
    rcases e with rfl | rfl | rfl <;> omega
  refine ⟨by omega, ?_⟩
  unfold Sk.addC
  rw [h.reg b hb]
  show St.addC _ _ = 0
  unfold St.addC
  rw [if_neg (not_not_intro ⟨r.1, by omega⟩)]
  have A0 : (C.s.P b).A ≠ 0 := fun e => by
    have := po.none e
    omega
  rw [if_neg A0, if_neg (by omega)]
theorem Ch.bake_staked {C : Ch} (h : C.Ok) {b : Int} (hb : Bk b) (hl : (C.lev + 1) % 4 ≠ 0) : ((C.bake b).s.P b).T = (C.s.P b).T + C.bakeN b := by
  have e : C.bake b = { C.paid b with lev := (C.paid b).lev + 1 } := by
    show (C.paid b).stepped = _
    unfold Ch.stepped
    rw [if_neg (by rw [(C.paid_same b).2.1]; exact hl)]
  rw [e]
  show ((C.paid b).s.P b).T = _
  unfold Ch.paid Ch.bakeN
  by_cases k : C.Payable b
  · rw [if_pos k, if_pos k]
    have ka := k.2
    unfold Sk.addC at ka
    show ((C.s.add b C.rew).P b).T = _
    unfold Sk.add
    rw [h.reg b hb] at ka ⊢
    simp only [if_true] at ka ⊢
    show (set1 C.s.P b ((C.s.P b).add C.rew) b).T = _
    rw [set1_same]
    exact St.add_T ka
  · rw [if_neg k, if_neg k]; omega
theorem Ch.judge_snoc (C : Ch) (l : List Cs) (t : Cs) : C.judge (l ++ [t]) = (C.judge l).judge1 t := by
  unfold Ch.judge
  rw [List.foldl_append]
  rfl
theorem take_snoc {α : Type} {L : List α} {i : Nat} {t : α} (h : L[i]? = some t) : L.take (i + 1) = L.take i ++ [t] := by
  obtain ⟨hi, rfl⟩ := List.getElem?_eq_some_iff.1 h
  exact List.take_succ_eq_append_getElem hi
def heavyTo (f : Nat → Int) (j : Nat) : Bool := (List.range j).any fun i => decide (0 < f i)
theorem heavyTo_succ (f : Nat → Int) (j : Nat) : heavyTo f (j + 1) = (heavyTo f j || decide (0 < f j)) := by simp [heavyTo, List.range_succ, List.any_append]
theorem heavy_iff {f : Nat → Int} (h : Weights 3 f) : heavyTo f 3 = decide (sumTo f 3 ≠ 0) := by
  have a0 := (h.bd 0 (by omega)).1
  have a1 := (h.bd 1 (by omega)).1
  have a2 := (h.bd 2 (by omega)).1
  have e : sumTo f 3 = 0 + f 0 + f 1 + f 2 := rfl
  rw [heavyTo_succ, heavyTo_succ, heavyTo_succ, show heavyTo f 0 = false from rfl, e]
  by_cases b0 : 0 < f 0 <;> by_cases b1 : 0 < f 1 <;> by_cases b2 : 0 < f 2 <;> simp [b0, b1, b2] <;> omega
end Go.Proofs.YtjodnacodlhamacDoor

namespace Go.Proofs.YtjodnacodlhamacDoor
open Go.RowKit

theorem weight_of (n : Int) (w : World) :
    Calls Tryd.prog 25 #[.int .i64 n] w fun e w' => e = .returned (.int .i64 (wtOf n)) ∧ w' = w := by
  by_cases h0 : n < 100
  · have e : Hid (wtOf n = 0) := if_pos h0
    go_enter Tryd.func25, Tryd.ntmps25
    go_wp2
    go_ret
    exact ⟨ret_int e.out.symm, rfl⟩
  · by_cases h1 : 1073741824 < n
    · have e : Hid (wtOf n = 1073741824) := (if_neg h0).trans (if_pos h1)
      go_enter Tryd.func25, Tryd.ntmps25
      go_wp2
      go_ret
      exact ⟨ret_int (by rw [e.out]; omega), rfl⟩
    · have e : Hid (wtOf n = n) := (if_neg h0).trans (if_neg h1)
      go_enter Tryd.func25, Tryd.ntmps25
      go_wp2
      go_ret
      exact ⟨ret_int (by rw [e.out]; omega), rfl⟩
set_option maxRecDepth 100000 in
set_option maxHeartbeats 1000000 in
theorem pr_picture (F : Nat → Prop) (sb : Nat) (S : Sk) (hS : S.Ok) (g : Nat) (w : World) (h : PSk F w sb S g) :
    Calls Tryd.prog 15 #[.pointer (some ⟨sb, 0, none⟩)] w fun e w' => ∃ m cap, e = .returned (.slice (some ⟨m, 0, none⟩) 3 cap) ∧ (w.heap.size ≤ m ∧ m < w'.heap.size) ∧ Ints w' m 0 3 S.pic ∧ Below w.heap.size w w' := by
  have mk := make_tri
  have R := RowTo.new w 3 3 S.pic
  have B0 : Below w.heap.size w (w.alloc (.cells (noughts 3) 3)) := (Below.refl _ _).alloc (Nat.le_refl _) _
  go_enter Tryd.func15, Tryd.ntmps15
  go_wp2
  go_loopw [11] (fun i wr => ∃ k : Nat, k ≤ 3 ∧ i = .int .i64 k ∧ RowTo wr w.heap.size 3 k S.pic ∧ Below w.heap.size w wr) (fun i _ => 3 - (intOf i).toNat)
  case atStart => exact ⟨0, Nat.zero_le _, rfl, R, B0⟩
  case round =>
    obtain ⟨k, hk, rfl, Rk, B⟩ := hrel
    clear R B0
    by_cases hlt : k < 3
    · have P := h.keptP (KeptP.of_below (F := fun _ => False) B) (fun _ g => g.elim)
      clear h
      go_wp2_with fail
      refine (ps_staked F sb S hS g k wr P).mono ?_
      rintro e w1 ⟨rfl, m, hw⟩
      have R1 : RowTo w1 w.heap.size 3 k S.pic := by rw [hw]; exact Rk.below (below_drewN (Below.refl _ _) m)
      have B1 : Below w.heap.size w w1 := by rw [hw]; exact below_drewN B m
      clear hw Rk B P
      go_wp2_with fail
      refine (weight_of _ w1).mono ?_
      rintro e w2 ⟨rfl, hw⟩
      obtain rfl := hw.symm
      have c1 := R1.c k hlt
      have f1 := R1.f k
      have R2 := R1.next (x := wtOf (S.P k).T) hlt (fun _ _ => rfl) rfl
      have B2 := B1.setCell (p := ⟨w.heap.size, k, none⟩) (Nat.le_refl _) (.int .i64 (wtOf (S.P k).T))
      clear R1 B1
      go_wp2_with fail
      go_roundw
      case rel => exact ⟨k + 1, by omega, by go_num, R2, B2⟩
      case measure => simp [intOf]; omega
    · obtain rfl : k = 3 := by omega
      have lt := Rk.lt
      have I := Rk.all
      clear Rk
      go_wp2_with fail
      go_ret
      exact ⟨_, _, rfl, ⟨Nat.le_refl _, lt⟩, I, B⟩
end Go.Proofs.YtjodnacodlhamacDoor
