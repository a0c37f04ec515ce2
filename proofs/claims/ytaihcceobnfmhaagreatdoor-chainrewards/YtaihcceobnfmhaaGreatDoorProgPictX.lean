/-
  The program's books by their contracts: the ratio of what is staked, a block's reward, a case that is judged.
  The program's chain by its contracts: pay, stake, unstake, free, accuse.
  A chain, plainly: how many pools, cases, cycles and levels there are at most behind so many acts; what an act makes of supply.
  The program's picture of stakes, by its contract.
-/
import Derived.Test.YtaihcceobnfmhaaGreatDoorProgBooksActsX
import Derived.Test.YtaihcceobnfmhaaGreatDoorAidX
import Derived.Test.YtaihcceobnfmhaaGreatDoorCaseRowX
import Derived.Test.YtaihcceobnfmhaaGreatDoorProgRightX
namespace Go.Proofs.YtaihcceobnfmhaaGreatDoor
open Go.RowKit

/-- what is staked with the first ones -/
def stakedTo (C : Ch) : Nat → Int
  | 0 => 0
  | k + 1 => stakedTo C k + (C.s.P k).T
theorem stakedTo_three (C : Ch) : stakedTo C 3 = C.staked := by
  show (0 : Int) + (C.s.P ((0 : Nat) : Int)).T + (C.s.P ((1 : Nat) : Int)).T + (C.s.P ((2 : Nat) : Int)).T = _
  unfold Ch.staked
  rw [Int.zero_add]
  rfl
theorem stakedTo_bd {C : Ch} (h : C.Ok) : ∀ k, k ≤ 3 → 0 ≤ stakedTo C k ∧ stakedTo C k ≤ k * 1125899906842624
  | 0, _ => ⟨Int.le_refl _, by show (0 : Int) ≤ _; omega⟩
  | k + 1, hk => by
    have a := stakedTo_bd h k (by omega)
    have b := h.s.P_bd (k : Int)
    show 0 ≤ stakedTo C k + (C.s.P k).T ∧ stakedTo C k + (C.s.P k).T ≤ _
    omega
theorem stakedTo_ratio (C : Ch) : ratioN (stakedTo C 3) C.p.S = C.ratio := by rw [stakedTo_three]; rfl
set_option maxRecDepth 100000 in
set_option maxHeartbeats 1000000 in
theorem bks_ratio (G : Nat → Prop) (pb sb : Nat) (C : Ch) (hC : C.Ok) (g : Nat) (A : Nat → Addr) (w : World) (hL : ChLaid8 w A) (h : BksAt G w pb sb C g) :
    Calls Tryz.prog 102 #[.agg #[.pointer (some ⟨pb, 0, none⟩), .pointer (some ⟨sb, 0, none⟩)]] w fun e w' => e = .returned (.int .i64 C.ratio) ∧ Below w.heap.size w w' := by
  have B : Below w.heap.size w (w.alloc (.cells #[.pointer (some ⟨pb, 0, none⟩), .pointer (some ⟨sb, 0, none⟩)] 70)) := (Below.refl _ _).alloc (Nat.le_refl _) _
  have X := box_new w 70 pb sb
  have h1 := h.below B
  have L1 := hL.below B
  clear h
  go_enter Tryz.func102, Tryz.ntmps102
  go_wp2_with fail
  generalize hn : w.heap.size = nb at *
  generalize w.alloc (.cells #[.pointer (some ⟨pb, 0, none⟩), .pointer (some ⟨sb, 0, none⟩)] 70) = w1 at *
  go_loopw [3, 7] (fun s i wr => ∃ k m : Nat, k ≤ 3 ∧ i = .int .i64 k ∧ s = .int .i64 (stakedTo C k) ∧ wr = w1.drewN m) (fun _ i _ => 3 - (intOf i).toNat)
  case atStart => exact ⟨0, 0, by omega, rfl, rfl, rfl⟩
  case round =>
    obtain ⟨k, m, hk, rfl, rfl, hw⟩ := hrel
    have Br : Below w1.heap.size w1 wr := by rw [hw]; exact below_drewN (Below.refl _ _) _
    have h2 := h1.below Br
    have X2 := X.below Br
    have HW := hide hw
    clear hw
    by_cases hlt : k < 3
    · have e1 := X2.e1
      have S := ps_staked G sb C.s hC.s g (k : Int) wr h2.s
      obtain ⟨a0, a1⟩ := stakedTo_bd hC k (by omega)
      obtain ⟨b0, b1⟩ := hC.s.P_bd (k : Int)
      have E1 := hide (show stakedTo C (k + 1) = stakedTo C k + (C.s.P k).T from rfl)
      have k3 : (k : Int) < 3 := by omega
      clear h2 X2
      generalize (C.s.P (k : Int)).T = q at *
      generalize hp : stakedTo C k = p at *
      have a2 : p ≤ 3377699720527872 := by omega
      clear a1
      go_wp2_with (go_at_call 17; refine S.mono ?_; rintro e w3 ⟨rfl, m1, hw1⟩)
      go_roundw
      case rel => exact ⟨k + 1, m + m1, by omega, by go_num, by rw [E1.out], by rw [HW.out, drewN_twice]⟩
      case measure => simp [intOf]; omega
    · obtain rfl : k = 3 := by omega
      have e0 := X2.e0
      have L2 := L1.below Br
      have S := pu_supply pb C.p wr h2.p
      have R := is_ratio (stakedTo C 3) C.p.S A wr L2.iss
      rw [stakedTo_ratio] at R
      have Bw : Hid (Below nb w wr) := hide (B.trans (Br.mono (hn ▸ B.size)))
      clear h2 X2 h1 X L1 B
      generalize stakedTo C 3 = p at *
      go_wp2_with fail
      refine S.mono ?_
      rintro e w3 ⟨rfl, hw3⟩
      obtain rfl := hw3.symm
      go_wp2_with fail
      refine R.mono ?_
      rintro e w4 ⟨ev, rfl, _, hB4⟩
      go_wp2_with fail
      go_ret
      exact ⟨rfl, by rw [hn]; exact Bw.out.trans (hB4.mono (hn ▸ Bw.out.size))⟩
theorem Pu.grow_burn {x : Pu} (h : x.Ok) {n : Int} (hn : x.growC n = 0) : (x.grow n).burn n = x := by
  have e : x.grow n = ⟨x.s, x.S + n⟩ := if_pos hn
  have am : Amt n ∧ x.S + n ≤ 1125899906842624 := by
    unfold Pu.growC at hn
    split at hn
    · assumption
    · exact absurd hn (by decide)
  have le := h.le
  have c : (⟨x.s, x.S + n⟩ : Pu).burnC n = 0 := by
    unfold Pu.burnC
    rw [if_neg (not_not_intro am.1), if_neg]
    show ¬ x.S + n - x.sum < n
    omega
  rw [e]
  unfold Pu.burn
  rw [if_pos c]
  show (⟨x.s, x.S + n - n⟩ : Pu) = x
  rw [Int.add_sub_cancel]
set_option maxRecDepth 100000 in
set_option maxHeartbeats 2000000 in
theorem bks_reward (G : Nat → Prop) (pb sb : Nat) (C : Ch) (hC : C.Ok) (g : Nat) (hg : g ≤ 880000) (b : Int) (A : Nat → Addr) (w : World) (hL : ChLaid8 w A) (h : BksAt G w pb sb C g) :
    Calls Tryz.prog 47 #[.agg #[.pointer (some ⟨pb, 0, none⟩), .pointer (some ⟨sb, 0, none⟩)], .int .i64 b, .int .i64 C.bon] w fun e w' => ∃ G', e = .returned (.int .i64 (C.bakeN b)) ∧ BksAt G' w' pb sb (C.paid b) (g + 4) ∧ Moved (bksOwn pb G) (bksOwn pb G') w w' := by
  have B : Below w.heap.size w (w.alloc (.cells #[.pointer (some ⟨pb, 0, none⟩), .pointer (some ⟨sb, 0, none⟩)] 70)) := (Below.refl _ _).alloc (Nat.le_refl _) _
  have X := box_new w 70 pb sb
  have e0 := X.e0
  have e1 := X.e1
  have h1 := h.below B
  have L1 := hL.below B
  have M1 : Moved (bksOwn pb G) (bksOwn pb G) w (w.alloc (.cells #[.pointer (some ⟨pb, 0, none⟩), .pointer (some ⟨sb, 0, none⟩)] 70)) := ⟨KeptP.of_below B, fun _ _ q => q⟩
  have nn : ¬ bksOwn pb G w.heap.size := fun q => by have := h.lt _ q; omega
  obtain ⟨rb0, rb1⟩ := hC.rew_bd
  have top := hC.p.top
  have RT := hide (show rateN C.ratio C.bon = C.rate from rfl)
  have RW := hide (show rewardN C.p.S C.rate = C.rew from rfl)
  clear h hL B
  go_enter Tryz.func47, Tryz.ntmps47
  go_wp2_with fail
  generalize hn : w.heap.size = nb at *
  generalize w.alloc (.cells #[.pointer (some ⟨pb, 0, none⟩), .pointer (some ⟨sb, 0, none⟩)] 70) = w1 at *
  refine (bks_ratio G pb sb C hC g A w1 L1 h1).mono ?_
  rintro e w2 ⟨rfl, hB2⟩
  have h2 := h1.below hB2
  have L2 := L1.below hB2
  have X2 := X.below hB2
  have M2 : Moved (bksOwn pb G) (bksOwn pb G) w w2 := M1.trans ⟨KeptP.of_below hB2, fun _ _ q => q⟩
  have R := is_rate C.ratio C.bon A w2 L2.iss
  rw [RT.out] at R
  have H2 := hide h2
  clear h1 L1 X M1 hB2 e0 e1 h2
  go_wp2_with fail
  refine R.mono ?_
  rintro e w3 ⟨ev3, rfl, _, hB3⟩
  have h3 := H2.out.below hB3
  have L3 := L2.below hB3
  have X3 := X2.below hB3
  have M3 : Moved (bksOwn pb G) (bksOwn pb G) w w3 := M2.trans ⟨KeptP.of_below hB3, fun _ _ q => q⟩
  have e0 := X3.e0
  have S := pu_supply pb C.p w3 h3.p
  have W := is_reward C.p.S C.rate A w3 L3.iss
  rw [RW.out] at W
  have H3 := hide h3
  clear R H2 L2 X2 M2 hB3 h3
  go_wp2_with fail
  refine S.mono ?_
  rintro e w3' ⟨rfl, hw3⟩
  obtain rfl := hw3.symm
  clear hw3 S
  go_wp2_with fail
  refine W.mono ?_
  rintro e w4 ⟨ev4, rfl, _, hB4⟩
  have h4 := H3.out.below hB4
  have L4 := L3.below hB4
  have X4 := X3.below hB4
  have M4 : Moved (bksOwn pb G) (bksOwn pb G) w w4 := M3.trans ⟨KeptP.of_below hB4, fun _ _ q => q⟩
  have GR := pu_grow pb C.p hC.p C.rew A w4 L4.pur h4.p
  have H4 := hide h4
  have e4 := X4.e0
  clear W H3 L3 X3 M3 hB4 h4 e0
  go_wp2_with fail
  refine GR.mono ?_
  rintro e w5 ⟨ev5, rfl, hE5, hp5, hK5⟩
  have h5 := H4.out.purse hp5 hK5
  have M45 := H4.out.purseMoved hK5
  have L5 := H4.out.laid L4 M45.kept
  have X5 := X4.keptP M45.kept nn
  have M5 := M4.trans M45
  have e5 := X5.e1
  clear GR H4 hp5 hK5 L4 X4 M45 M4 e4
  by_cases k1 : C.p.S + C.rew ≤ 1125899906842624
  · have gc : C.p.growC C.rew = 0 := if_pos ⟨⟨rb0, by omega⟩, k1⟩
    obtain rfl := hE5.nil gc
    have AD := ps_add G sb C.s hC.s g (by omega) b C.rew A w5 L5.stk h5.s
    have H5 := hide h5
    clear hE5 h5
    go_wp2_with fail
    refine AD.mono ?_
    rintro e w6 ⟨ev6, G6, rfl, hE6, hS, hM⟩
    have h6 := H5.out.stakes hS hM
    have M56 := H5.out.stakesMoved hM
    have L6 := H5.out.laid L5 M56.kept
    have X6 := X5.keptP M56.kept nn
    have M6 := M5.trans M56
    have e6 := X6.e0
    clear AD H5 hS hM L5 X5 M56 M5 e5
    by_cases a0 : C.s.addC b C.rew = 0
    · have py : C.Payable b := ⟨k1, a0⟩
      have PE := hide (show C.paid b = { C with p := C.p.grow C.rew, s := C.s.add b C.rew } from if_pos py)
      have NE := hide (show C.bakeN b = C.rew from if_pos py)
      obtain rfl := hE6.nil a0
      have H6 := hide h6
      clear py a0 hE6 h6
      go_wp2_with fail
      go_ret
      exact ⟨_, ret_int NE.out.symm, by rw [PE.out]; exact H6.out, M6⟩
    · have np : ¬ C.Payable b := fun q => a0 q.2
      have PE := hide (show C.paid b = C from if_neg np)
      have NE := hide (show C.bakeN b = 0 from if_neg np)
      have SE := hide (Sk.add_same a0)
      rw [SE.out] at h6
      obtain ⟨j, rfl⟩ := hE6.err a0
      have BU := pu_burn pb (C.p.grow C.rew) (hC.p.grow C.rew) C.rew A w6 L6.pur h6.p
      have H6 := hide h6
      clear np a0 hE6 h6
      go_wp2_with fail
      refine BU.mono ?_
      rintro e w7 ⟨ev7, rfl, _, hp7, hK7⟩
      have h7 := H6.out.purse hp7 hK7
      have M7 := M6.trans (H6.out.purseMoved hK7)
      rw [Pu.grow_burn hC.p gc] at h7
      have H7 := hide h7
      clear BU h7 hp7 hK7 H6 M6
      go_wp2_with fail
      go_ret
      exact ⟨_, ret_int NE.out.symm, by rw [PE.out]; exact H7.out, M7⟩
  · have np : ¬ C.Payable b := fun q => k1 q.1
    have PE := hide (show C.paid b = C from if_neg np)
    have NE := hide (show C.bakeN b = 0 from if_neg np)
    have gc : C.p.growC C.rew ≠ 0 := by
      unfold Pu.growC
      rw [if_neg (fun q => k1 q.2)]
      decide
    have GE := hide (show C.p.grow C.rew = C.p from if_neg gc)
    rw [GE.out] at h5
    obtain ⟨j, rfl⟩ := hE5.err gc
    have H5 := hide h5
    clear np gc hE5 h5
    go_wp2_with fail
    go_ret
    exact ⟨_, ret_int NE.out.symm, by rw [PE.out]; exact H5.out.more (by omega), M5⟩
theorem pct_is (n : Int) : pctOf n = pct n := rfl
set_option maxRecDepth 100000 in
set_option maxHeartbeats 2000000 in
theorem bks_judge (G : Nat → Prop) (pb sb : Nat) (C : Ch) (hC : C.Ok) (hk : C.s.K.length ≤ 900) (g : Nat) (hg : g ≤ 880000) (t : Cs) (ho : Own t.1) (hr : Bk t.2.1) (wy : (Lit.int .i64 t.2.2.1).wf = true) (wm : (Lit.int .i64 t.2.2.2).wf = true) (A : Nat → Addr) (w : World) (hL : ChLaid8 w A) (h : BksAt G w pb sb C g) :
    Calls Tryz.prog 107 #[.agg #[.pointer (some ⟨pb, 0, none⟩), .pointer (some ⟨sb, 0, none⟩)], .agg #[.int .i64 t.1, .int .i64 t.2.1, .int .i64 t.2.2.1, .int .i64 t.2.2.2]] w fun e w' => ∃ G', e = .returned (.tuple #[]) ∧ BksAt G' w' pb sb (C.judge1 t) (g + 4) ∧ Moved (bksOwn pb G) (bksOwn pb G') w w' := by
  obtain ⟨o, b, y, m⟩ := t
  have B0 : Below w.heap.size w (w.alloc (.cells #[.pointer (some ⟨pb, 0, none⟩), .pointer (some ⟨sb, 0, none⟩)] 70)) := (Below.refl _ _).alloc (Nat.le_refl _) _
  have B1 : Below (w.alloc (.cells #[.pointer (some ⟨pb, 0, none⟩), .pointer (some ⟨sb, 0, none⟩)] 70)).heap.size (w.alloc (.cells #[.pointer (some ⟨pb, 0, none⟩), .pointer (some ⟨sb, 0, none⟩)] 70)) ((w.alloc (.cells #[.pointer (some ⟨pb, 0, none⟩), .pointer (some ⟨sb, 0, none⟩)] 70)).alloc (.cells #[.int .i64 o, .int .i64 b, .int .i64 y, .int .i64 m] 145)) := (Below.refl _ _).alloc (Nat.le_refl _) _
  have B : Below w.heap.size w ((w.alloc (.cells #[.pointer (some ⟨pb, 0, none⟩), .pointer (some ⟨sb, 0, none⟩)] 70)).alloc (.cells #[.int .i64 o, .int .i64 b, .int .i64 y, .int .i64 m] 145)) := B0.trans (B1.mono B0.size)
  have X := (box_new w 70 pb sb).below B1
  have e1 := X.e1
  have sz : (w.alloc (.cells #[.pointer (some ⟨pb, 0, none⟩), .pointer (some ⟨sb, 0, none⟩)] 70)).heap.size = w.heap.size + 1 := by simp
  have k0 : ((w.alloc (.cells #[.pointer (some ⟨pb, 0, none⟩), .pointer (some ⟨sb, 0, none⟩)] 70)).alloc (.cells #[.int .i64 o, .int .i64 b, .int .i64 y, .int .i64 m] 145)).cell? ⟨w.heap.size + 1, 0, none⟩ = some (.int .i64 o) := by rw [← sz]; exact cell_new _ _ _ _ _ _ rfl rfl
  have k1 : ((w.alloc (.cells #[.pointer (some ⟨pb, 0, none⟩), .pointer (some ⟨sb, 0, none⟩)] 70)).alloc (.cells #[.int .i64 o, .int .i64 b, .int .i64 y, .int .i64 m] 145)).cell? ⟨w.heap.size + 1, 1, none⟩ = some (.int .i64 b) := by rw [← sz]; exact cell_new _ _ _ _ _ _ rfl rfl
  have k2 : ((w.alloc (.cells #[.pointer (some ⟨pb, 0, none⟩), .pointer (some ⟨sb, 0, none⟩)] 70)).alloc (.cells #[.int .i64 o, .int .i64 b, .int .i64 y, .int .i64 m] 145)).cell? ⟨w.heap.size + 1, 2, none⟩ = some (.int .i64 y) := by rw [← sz]; exact cell_new _ _ _ _ _ _ rfl rfl
  have k3 : ((w.alloc (.cells #[.pointer (some ⟨pb, 0, none⟩), .pointer (some ⟨sb, 0, none⟩)] 70)).alloc (.cells #[.int .i64 o, .int .i64 b, .int .i64 y, .int .i64 m] 145)).cell? ⟨w.heap.size + 1, 3, none⟩ = some (.int .i64 m) := by rw [← sz]; exact cell_new _ _ _ _ _ _ rfl rfl
  have h1 := h.below B
  have L1 := hL.below B
  have M1 : Moved (bksOwn pb G) (bksOwn pb G) w ((w.alloc (.cells #[.pointer (some ⟨pb, 0, none⟩), .pointer (some ⟨sb, 0, none⟩)] 70)).alloc (.cells #[.int .i64 o, .int .i64 b, .int .i64 y, .int .i64 m] 145)) := ⟨KeptP.of_below B, fun _ _ q => q⟩
  have nn : ¬ bksOwn pb G w.heap.size := fun q => by have := h.lt _ q; omega
  have nn1 : ¬ bksOwn pb G (w.heap.size + 1) := fun q => by have := h.lt _ q; omega
  have pb50 := pct_bd m
  have sc : C.s.slashC b (pct m) = 0 := by
    unfold Sk.slashC
    rw [if_pos (hC.reg b hr), if_pos ⟨pb50.1, by omega⟩]
  have SC := hide sc
  have ls := hC.lost_bd (o, b, y, m)
  have lb0 : 0 ≤ C.s.slashN b y (pct m) := ls.1
  have lb1 : C.s.slashN b y (pct m) ≤ 1125899906842624 := ls.2.2
  clear ls h sc hL B0 B1 B sz
  go_enter Tryz.func107, Tryz.ntmps107
  go_wp2_with fail
  generalize hn : w.heap.size = nb at *
  generalize ((w.alloc (.cells #[.pointer (some ⟨pb, 0, none⟩), .pointer (some ⟨sb, 0, none⟩)] 70)).alloc (.cells #[.int .i64 o, .int .i64 b, .int .i64 y, .int .i64 m] 145)) = w1 at *
  go_region_held3 (fun w' => w'.cell? ⟨nb, 1, none⟩ = some (.pointer (some ⟨sb, 0, none⟩)) ∧ w'.cell? ⟨nb + 1, 1, none⟩ = some (.int .i64 b) ∧ w'.cell? ⟨nb + 1, 2, none⟩ = some (.int .i64 y) ∧ w'.cell? ⟨nb + 1, 3, none⟩ = some (.int .i64 m)) (exact ⟨by assumption, by assumption, by assumption, by assumption⟩)
    (first
      | (go_at_call 155; refine (pc_percent m wm _).mono ?_; rintro e w2 ⟨rfl, hw2⟩; have B2 : Below w1.heap.size w1 w2 := (by rw [hw2]; first | exact Below.refl _ _ | exact below_drewN (Below.refl _ _) 1); have h2 := h1.below B2; have L2 := L1.below B2; have X2 := X.below B2; have f1 := X2.e1; have q1 := was_cellP B2 k1; have q2 := was_cellP B2 k2; have q3 := was_cellP B2 k3; have q0 := was_cellP B2 k0; clear hw2)
      | (go_at_call 154; refine (ps_slash G sb C.s hC.s hk g (by omega) b y (pct m) wy A _ (by first | exact L2.stk | exact (L2.below (below_drewN (Below.refl _ _) 1)).stk) (by first | exact h2.s | exact (h2.drewN 1).s)).mono ?_; rintro e w3 ⟨ev, G3, rfl, hE, hS, hM⟩; have h3 : BksAt G3 w3 pb sb { C with s := C.s.slash b y (pct m) } (g + 4) := (by first | exact h2.stakes hS hM | exact (h2.drewN 1).stakes hS hM); have M3 : Moved (bksOwn pb G) (bksOwn pb G3) w2 w3 := (by first | exact h2.stakesMoved hM | exact moved_drew ((h2.drewN 1).stakesMoved hM)); have L3 := h2.laid L2 M3.kept; have X3 := X2.keptP M3.kept nn; have g1 := X3.e1; have r0 := M3.kept.old (p := ⟨nb + 1, 0, none⟩) q0 nn1; have r1 := M3.kept.old (p := ⟨nb + 1, 1, none⟩) q1 nn1; have r2 := M3.kept.old (p := ⟨nb + 1, 2, none⟩) q2 nn1; have r3 := M3.kept.old (p := ⟨nb + 1, 3, none⟩) q3 nn1))
  obtain rfl := hE.nil SC.out
  have M13 := (M1.trans ⟨KeptP.of_below B2, fun _ _ q => q⟩).trans M3
  have nn3 : ¬ bksOwn pb G3 nb := fun q => nn (M3.old nb (cell_lt f1) q)
  have JE := hide (show C.judge1 (o, b, y, m) = { C with p := (C.p.in' o (C.s.slashN b y (pct m) / 7)).burn (C.s.slashN b y (pct m) - C.s.slashN b y (pct m) / 7), s := C.s.slash b y (pct m) } from rfl)
  clear hE hS hM e1 r1 r2 r3 k0 k1 k2 k3 h1 h2 L1 L2 f1 q0 q1 q2 q3 B2 X X2 M1 M3 g1
  generalize C.s.slashN b y (pct m) = l at *
  have SH := pc_share l (small_wf l (by omega) (by omega)) w3
  have sA : shareA l = l / 7 := if_neg (by omega)
  have sB : shareB l = l - l / 7 := if_neg (by omega)
  rw [sA, sB] at SH
  have H3 := hide h3
  clear sA sB h3
  go_wp2_with fail
  refine SH.mono ?_
  rintro e w4 ⟨rfl, m4, hw4⟩
  have B4 : Below w3.heap.size w3 w4 := by rw [hw4]; exact below_drewN (Below.refl _ _) _
  have h4 := H3.out.below B4
  have L4 := L3.below B4
  have X4 := X3.below B4
  have M14 : Moved (bksOwn pb G) (bksOwn pb G3) w w4 := M13.trans ⟨KeptP.of_below B4, fun _ _ q => q⟩
  have e0 := X4.e0
  have s0 := was_cellP B4 r0
  have I := pu_in pb C.p hC.p o (l / 7) A w4 L4.pur h4.p
  have H4 := hide h4
  clear hw4 SH H3 L3 M13 r0 h4 X3
  go_wp2_with fail
  refine I.mono ?_
  rintro e w5 ⟨ev5, rfl, _, hp5, hK5⟩
  have h5 := H4.out.purse hp5 hK5
  have M45 := H4.out.purseMoved hK5
  have L5 := H4.out.laid L4 M45.kept
  have X5 := X4.keptP M45.kept nn3
  have M15 := M14.trans M45
  have f0 := X5.e0
  have BU := pu_burn pb (C.p.in' o (l / 7)) (hC.p.in' o (l / 7)) (l - l / 7) A w5 L5.pur h5.p
  have H5 := hide h5
  clear I H4 hp5 hK5 L4 X4 M14 M45 e0 s0 h5
  go_wp2_with fail
  refine BU.mono ?_
  rintro e w6 ⟨ev6, rfl, _, hp6, hK6⟩
  have h6 := H5.out.purse hp6 hK6
  have M16 := M15.trans (H5.out.purseMoved hK6)
  have H6 := hide h6
  clear BU hp6 hK6 h6 H5 f0
  go_wp2_with fail
  go_end0
  exact ⟨_, rfl, by rw [JE.out]; exact H6.out, M16⟩
end Go.Proofs.YtaihcceobnfmhaaGreatDoor

namespace Go.Proofs.YtaihcceobnfmhaaGreatDoor
open Go.RowKit

/-- an act's end -/
def CbEnd (sb : Nat) (F : Nat → Prop) (cb g : Nat) (C' : Ch) (c : Int) (A : Nat → Addr) (w : World) (e : Ending) (w' : World) : Prop := ∃ ev F', e = .returned ev ∧ ErrIs A ev c ∧ PCb sb F' w' cb C' (g + 2000) ∧ Moved F F' w w'
def CbEndN (sb : Nat) (F : Nat → Prop) (cb g : Nat) (C' : Ch) (n c : Int) (A : Nat → Addr) (w : World) (e : Ending) (w' : World) : Prop := ∃ ev F', e = .returned (.tuple #[.int .i64 n, ev]) ∧ ErrIs A ev c ∧ PCb sb F' w' cb C' (g + 2000) ∧ Moved F F' w w'
/-- what its doing leaves of the errors -/
theorem PChAt.laid {tag : Nat → Nat} {w w' : World} {cb pb sb kb g : Nat} {xs : Nat → Value} {C : Ch} {F : Nat → Prop} {A : Nat → Addr} (h : PChAt tag w cb pb sb kb xs C g) (hL : ChLaid8 w A) (hf : ∀ k, F k ↔ tag k ≠ 0) (hK : KeptP F w w') : ChLaid8 w' A := hL.keptP hK fun k q => h.vs k ((hf k).1 q)
theorem PChAt.sk {tag : Nat → Nat} {w w' : World} {cb pb sb kb g g' : Nat} {xs : Nat → Value} {C : Ch} {F G : Nat → Prop} {S : Sk} (h : PChAt tag w cb pb sb kb xs C g) (hf : ∀ k, F k ↔ tag k ≠ 0) (hs : PSk G w' sb S g') (hM : Moved (fun k => tag k = 3) G w w') (hg : g ≤ g') (h2 : g' ≤ g + 2000) :
    ∃ F', PCb sb F' w' cb { C with s := S } (g + 2000) ∧ Moved F F' w w' :=
  ⟨_, ⟨_, _, _, _, fun _ => Iff.rfl, (h.stakes hs hM hg).more h2⟩, retag_moved hf hM (by decide)⟩
theorem PChAt.ct {tag : Nat → Nat} {w w' : World} {cb pb sb kb g g' : Nat} {xs : Nat → Value} {C : Ch} {F G : Nat → Prop} {x : Ct} (h : PChAt tag w cb pb sb kb xs C g) (hf : ∀ k, F k ↔ tag k ≠ 0) (hs : PCt G w' kb x g') (hM : Moved (fun k => tag k = 4) G w w') (hg : g ≤ g') (h2 : g' ≤ g + 2000) :
    ∃ F', PCb sb F' w' cb { C with c := x } (g + 2000) ∧ Moved F F' w w' :=
  ⟨_, ⟨_, _, _, _, fun _ => Iff.rfl, (h.court hs hM hg).more h2⟩, retag_moved hf hM (by decide)⟩
theorem moved_after {F F' : Nat → Prop} {w w1 w2 : World} (hB : Below w.heap.size w w1) (h : Moved F F' w1 w2) (hl : ∀ k, F' k → F k ∨ w.heap.size ≤ k) : Moved F F' w w2 :=
  ⟨(KeptP.of_below (F := F) hB).trans h.kept fun _ _ q => q, fun k hk q => (hl k q).elim id fun z => by omega⟩

set_option maxRecDepth 100000 in
theorem pcb_pay {sb : Nat} (F : Nat → Prop) (cb : Nat) (C : Ch) (hC : C.Ok) (_hb : C.Few) (g : Nat) (_hg : g ≤ 850000) (o t n : Int) (_wo : (Lit.int .i64 o).wf = true) (_wt : (Lit.int .i64 t).wf = true) (A : Nat → Addr) (w : World) (hL : ChLaid8 w A) (h : PCb sb F w cb C g) :
    Calls Tryz.prog 53 #[.pointer (some ⟨cb, 0, none⟩), .int .i64 o, .int .i64 t, .int .i64 n] w (CbEnd sb F cb g (C.pay o t n) (C.p.moveC o t n) A w) := by
  obtain ⟨tag, pb, kb, xs, hf, h⟩ := h
  have c0 := h.c0
  have P := pu_move pb C.p hC.p o t n A w hL.pur h.p
  have H := hide h
  clear h
  go_enter Tryz.func53, Tryz.ntmps53
  go_wp2_with (go_at_call 113; refine P.mono ?_; rintro e w1 ⟨ev, rfl, hE, hp, hK⟩)
  go_ret
  exact ⟨ev, F, rfl, hE, ⟨tag, pb, kb, xs, hf, (H.out.purse hp hK).more (by omega)⟩, H.out.purseMoved hf hK⟩
set_option maxRecDepth 100000 in
theorem pcb_unstake {sb : Nat} (F : Nat → Prop) (cb : Nat) (C : Ch) (hC : C.Ok) (hb : C.Few) (g : Nat) (hg : g ≤ 850000) (o b n : Int) (wo : (Lit.int .i64 o).wf = true) (A : Nat → Addr) (w : World) (hL : ChLaid8 w A) (h : PCb sb F w cb C g) :
    Calls Tryz.prog 55 #[.pointer (some ⟨cb, 0, none⟩), .int .i64 o, .int .i64 b, .int .i64 n] w (CbEnd sb F cb g (C.unstake o b n) (C.s.leaveC o b n C.cyc) A w) := by
  obtain ⟨tag, pb, kb, xs, hf, h⟩ := h
  have c1 := h.c1
  have c4 := h.c4
  have wc : (Lit.int .i64 (C.cyc : Int)).wf = true := small_wf _ (by omega) (by have := hb.y; omega)
  have hd : PChAt tag w.drew cb pb sb kb xs C g := h.keptP ((KeptP.refl (fun _ => False) w).drew) fun _ q => q.elim
  have nt1 : ¬ tag cb = 3 := by rw [h.tc]; decide
  have P := ps_leave (fun k => tag k = 3) sb C.s hC.s g (by omega) o b n C.cyc wo wc A w.drew (hL.below (below_drewN (Below.refl _ _) 1)).stk hd.s
  have H := hide hd
  clear h hd
  go_enter Tryz.func55, Tryz.ntmps55
  go_wp2_with fail
  go_region_held3 (fun w' => w'.cell? ⟨cb, 1, none⟩ = some (.pointer (some ⟨sb, 0, none⟩)) ∧ w'.cell? ⟨cb, 4, none⟩ = some (.int .i64 C.cyc)) (exact ⟨by assumption, by assumption⟩)
    (first
      | (go_at_call 114; refine P.mono ?_; rintro e w5 ⟨ev, G, rfl, hE, hS, hM⟩; have d1 : w5.cell? ⟨cb, 1, none⟩ = some (.pointer (some ⟨sb, 0, none⟩)) := hM.kept.old c1 nt1; have d4 : w5.cell? ⟨cb, 4, none⟩ = some (.int .i64 C.cyc) := hM.kept.old c4 nt1))
  go_wp2_with fail
  go_ret
  obtain ⟨F', h1, h2⟩ := H.out.sk hf hS hM (by omega) (by omega)
  exact ⟨ev, F', rfl, hE, h1, moved_drew h2⟩
set_option maxRecDepth 100000 in
theorem pcb_accuse {sb : Nat} (F : Nat → Prop) (cb : Nat) (C : Ch) (hC : C.Ok) (hb : C.Few) (g : Nat) (hg : g ≤ 850000) (o b y m : Int) (_wo : (Lit.int .i64 o).wf = true) (wb : (Lit.int .i64 b).wf = true) (wy : (Lit.int .i64 y).wf = true) (wm : (Lit.int .i64 m).wf = true) (A : Nat → Addr) (w : World) (hL : ChLaid w A) (h : PCb sb F w cb C g) :
    Calls Tryz.prog 57 #[.pointer (some ⟨cb, 0, none⟩), .int .i64 o, .agg #[.int .i64 b, .int .i64 y, .int .i64 m]] w (CbEnd sb F cb g (C.accuse o (b, y, m)) (C.c.accC o (b, y, m) C.cyc) A w) := by
  obtain ⟨tag, pb, kb, xs, hf, h⟩ := h
  have wc : (Lit.int .i64 (C.cyc : Int)).wf = true := small_wf _ (by omega) (by have := hb.y; omega)
  have B : Below w.heap.size w (w.alloc (.cells #[.int .i64 b, .int .i64 y, .int .i64 m] 42)) := (Below.refl _ _).alloc (Nat.le_refl _) _
  have B1 : Below w.heap.size w (w.alloc (.cells #[.int .i64 b, .int .i64 y, .int .i64 m] 42)).drew := below_drewN B 1
  have h1 := h.below B1
  have c2 := h1.c2
  have c4 := h1.c4
  have tc0 := h1.tc
  have e0 : (w.alloc (.cells #[.int .i64 b, .int .i64 y, .int .i64 m] 42)).cell? ⟨w.heap.size, 0, none⟩ = some (.int .i64 b) := by simp
  have e1 : (w.alloc (.cells #[.int .i64 b, .int .i64 y, .int .i64 m] 42)).cell? ⟨w.heap.size, 1, none⟩ = some (.int .i64 y) := by simp
  have e2 : (w.alloc (.cells #[.int .i64 b, .int .i64 y, .int .i64 m] 42)).cell? ⟨w.heap.size, 2, none⟩ = some (.int .i64 m) := by simp
  have te : ¬ tag w.heap.size = 4 := fun q => by have := h.lt w.heap.size (by rw [q]; decide); omega
  have P := pc_acc (fun k => tag k = 4) kb C.c hC.c (by have := hb.l; omega) g (by omega) o b y m C.cyc wb wy wm wc A _ (hL.below B1).ct h1.c
  have nt1 : ¬ tag cb = 4 := by rw [h.tc]; decide
  have H := hide h1
  have W := hide B1
  clear h h1 B B1
  go_enter Tryz.func57, Tryz.ntmps57
  go_wp2_with fail
  generalize hn : w.heap.size = nb at *
  generalize w.alloc (.cells #[.int .i64 b, .int .i64 y, .int .i64 m] 42) = w1 at *
  go_region_held3 (fun w' => w'.cell? ⟨cb, 2, none⟩ = some (.pointer (some ⟨kb, 0, none⟩)) ∧ w'.cell? ⟨cb, 4, none⟩ = some (.int .i64 C.cyc) ∧ w'.cell? ⟨nb, 0, none⟩ = some (.int .i64 b) ∧ w'.cell? ⟨nb, 1, none⟩ = some (.int .i64 y) ∧ w'.cell? ⟨nb, 2, none⟩ = some (.int .i64 m)) (exact ⟨by assumption, by assumption, by assumption, by assumption, by assumption⟩)
    (first
      | (go_at_call 116; refine P.mono ?_; rintro e w5 ⟨ev, G, rfl, hE, hS, hM⟩; have d2 : w5.cell? ⟨cb, 2, none⟩ = some (.pointer (some ⟨kb, 0, none⟩)) := hM.kept.old c2 nt1; have d4 : w5.cell? ⟨cb, 4, none⟩ = some (.int .i64 C.cyc) := hM.kept.old c4 nt1; have q0 : w5.cell? ⟨nb, 0, none⟩ = some (.int .i64 b) := hM.kept.old e0 te; have q1 : w5.cell? ⟨nb, 1, none⟩ = some (.int .i64 y) := hM.kept.old e1 te; have q2 : w5.cell? ⟨nb, 2, none⟩ = some (.int .i64 m) := hM.kept.old e2 te))
  go_wp2_with fail
  go_ret
  obtain ⟨F', h1, h2⟩ := H.out.ct hf hS hM (by omega) (by omega)
  refine ⟨ev, F', rfl, hE, h1, ?_⟩
  have := W.out
  exact ⟨(KeptP.of_below (F := F) (hn ▸ this)).trans h2.kept fun _ _ q => q, fun k hk q => h2.old k (Nat.lt_of_lt_of_le hk (hn ▸ this.size)) q⟩
theorem Ch.stake_parts (C : Ch) (o b n : Int) : { C with p := (C.stake o b n).p, s := (C.stake o b n).s } = C.stake o b n := by
  unfold Ch.stake
  split <;> rfl
theorem Ch.free_parts (C : Ch) (o : Int) : { C with p := (C.free o).p, s := (C.free o).s } = C.free o := by
  unfold Ch.free
  split <;> rfl
set_option maxRecDepth 100000 in
set_option maxHeartbeats 1000000 in
theorem pcb_stake {sb : Nat} (F : Nat → Prop) (cb : Nat) (C : Ch) (hC : C.Ok) (_hb : C.Few) (g : Nat) (hg : g ≤ 850000) (o b n : Int) (wo : (Lit.int .i64 o).wf = true) (A : Nat → Addr) (w : World) (hL : ChLaid8 w A) (h : PCb sb F w cb C g) :
    Calls Tryz.prog 54 #[.pointer (some ⟨cb, 0, none⟩), .int .i64 o, .int .i64 b, .int .i64 n] w (CbEnd sb F cb g (C.stake o b n) (C.stakeC o b n) A w) := by
  obtain ⟨tag, pb, kb, xs, hf, h⟩ := h
  have c0 := h.c0
  have c1 := h.c1
  have P := bks_stake _ pb sb C hC.p hC.s g hg o b n wo A w hL h.bks
  have H := hide h
  clear h
  go_enter Tryz.func54, Tryz.ntmps54
  go_wp2_with fail
  refine P.mono ?_
  rintro e w1 ⟨ev, G, rfl, hE, hb, hM⟩
  obtain ⟨F', h1, h2⟩ := H.out.bk hf hb hM (by omega) (C.stake_parts o b n)
  clear P H hb hM c0 c1
  go_wp2_with fail
  go_ret
  exact ⟨ev, F', rfl, hE, h1, h2⟩
set_option maxRecDepth 100000 in
set_option maxHeartbeats 1000000 in
theorem pcb_free {sb : Nat} (F : Nat → Prop) (cb : Nat) (C : Ch) (hC : C.Ok) (hb : C.Few) (g : Nat) (hg : g ≤ 850000) (o : Int) (wo : (Lit.int .i64 o).wf = true) (A : Nat → Addr) (w : World) (hL : ChLaid8 w A) (h : PCb sb F w cb C g) :
    Calls Tryz.prog 56 #[.pointer (some ⟨cb, 0, none⟩), .int .i64 o] w (CbEndN sb F cb g (C.free o) (C.s.freeN o C.cyc) (C.s.freeC o C.cyc) A w) := by
  obtain ⟨tag, pb, kb, xs, hf, h⟩ := h
  have c0 := h.c0
  have c1 := h.c1
  have c4 := h.c4
  have wc : (Lit.int .i64 (C.cyc : Int)).wf = true := small_wf _ (by omega) (by have := hb.y; omega)
  have hd : PChAt tag w.drew cb pb sb kb xs C g := h.keptP ((KeptP.refl (fun _ => False) w).drew) fun _ q => q.elim
  have nt1 : ¬ bksOwn pb (fun k => tag k = 3) cb := fun q => by rcases h.own cb q with e | e <;> (rw [h.tc] at e; cases e)
  have P := bks_free _ pb sb C hC (by have := hb.k; omega) g hg o wo wc A w.drew (hL.below (below_drewN (Below.refl w.heap.size w) 1)) hd.bks
  have H := hide hd
  clear h hd
  go_enter Tryz.func56, Tryz.ntmps56
  go_wp2_with fail
  go_region_held3 (fun w' => w'.cell? ⟨cb, 0, none⟩ = some (.pointer (some ⟨pb, 0, none⟩)) ∧ w'.cell? ⟨cb, 1, none⟩ = some (.pointer (some ⟨sb, 0, none⟩)) ∧ w'.cell? ⟨cb, 4, none⟩ = some (.int .i64 C.cyc)) (exact ⟨by assumption, by assumption, by assumption⟩)
    (first
      | (go_at_call 115; refine P.mono ?_; rintro e w5 ⟨ev, G, rfl, hE, hb5, hM⟩; have d0 : w5.cell? ⟨cb, 0, none⟩ = some (.pointer (some ⟨pb, 0, none⟩)) := hM.kept.old c0 nt1; have d1 : w5.cell? ⟨cb, 1, none⟩ = some (.pointer (some ⟨sb, 0, none⟩)) := hM.kept.old c1 nt1; have d4 : w5.cell? ⟨cb, 4, none⟩ = some (.int .i64 C.cyc) := hM.kept.old c4 nt1))
  obtain ⟨F', h1, h2⟩ := H.out.bk hf hb5 hM (by omega) (C.free_parts o)
  clear P H hb5 hM c0 c1 c4 d0 d1 d4
  go_wp2_with fail
  go_ret2
  exact ⟨ev, F', rfl, hE, h1, moved_drew h2⟩
end Go.Proofs.YtaihcceobnfmhaaGreatDoor

namespace Go.Proofs.YtaihcceobnfmhaaGreatDoor

theorem Sk.join_K (S : Sk) (o b n : Int) : (S.join o b n).K = S.K := by unfold Sk.join; split <;> rfl
theorem Sk.add_K (S : Sk) (b n : Int) : (S.add b n).K = S.K := by unfold Sk.add; split <;> rfl
theorem Sk.free_K (S : Sk) (o c : Int) : (S.free o c).K = S.K := by unfold Sk.free; split <;> rfl
theorem Sk.slash_K (S : Sk) (b f p : Int) : (S.slash b f p).K = S.K := by unfold Sk.slash; split <;> rfl
theorem Ct.acc_len (x : Ct) (o : Int) (e : Ev) (c : Int) : (x.acc o e c).L.length ≤ x.L.length + 1 := by
  unfold Ct.acc
  split
  · show (x.L ++ [(o, e)]).length ≤ _
    rw [List.length_append]; exact Nat.le_refl _
  · omega
theorem Ch.judge_K : ∀ (l : List Cs) (C : Ch), (C.judge l).s.K = C.s.K
  | [], _ => rfl
  | t :: l, C => (Ch.judge_K l (C.judge1 t)).trans (Sk.slash_K _ _ _ _)
theorem Ch.ended_K (C : Ch) : C.ended.s.K = C.s.K := Ch.judge_K C.c.due { C with c := C.c.asked }
theorem Ch.ended_L (C : Ch) : C.ended.c.L = C.c.L := by
  have j := (Ch.judge_same C.c.due { C with c := C.c.asked }).1
  show (Ch.judge { C with c := C.c.asked } C.c.due).c.L = _
  rw [j]; rfl
theorem Ch.stepped_K (C : Ch) : C.stepped.s.K = C.s.K := by
  unfold Ch.stepped
  split
  · exact Ch.ended_K _
  · rfl
theorem Ch.stepped_L (C : Ch) : C.stepped.c.L = C.c.L := by
  unfold Ch.stepped
  split
  · exact Ch.ended_L _
  · rfl
theorem Ch.paid_K (C : Ch) (b : Int) : (C.paid b).s.K = C.s.K := by
  unfold Ch.paid
  split
  · exact Sk.add_K _ _ _
  · rfl

/-- so many pools, cases and levels at most; the cycle is a fourth of the level -/
structure Ch.Fit (C : Ch) (i : Nat) : Prop where
  k : C.s.K.length ≤ i
  l : C.c.L.length ≤ i
  y : C.cyc = C.lev / 4
  v : C.lev ≤ i
theorem Ch.Fit.more {C : Ch} {i j : Nat} (h : C.Fit i) (hj : i ≤ j) : C.Fit j := ⟨Nat.le_trans h.k hj, Nat.le_trans h.l hj, h.y, Nat.le_trans h.v hj⟩
theorem chNew_fit (seed : Nat) : (chNew seed).Fit 0 := ⟨by show stakes0.K.length ≤ 0; decide, Nat.le_refl _, (by show (0 : Nat) = 0 / 4; decide), Nat.le_refl _⟩
theorem Ch.Fit.turn {C : Ch} {i : Nat} (h : C.Fit i) (hi : i ≤ 1000) {r : Int} (r0 : 0 ≤ r) (r8 : r < 8) : TurnOk C.cyc C.lev r := by
  have := h.y
  have := h.v
  exact ⟨⟨by omega, by omega⟩, ⟨by omega, by omega⟩, r0, r8⟩
theorem Ch.Fit.pay {C : Ch} {i : Nat} (h : C.Fit i) (o t n : Int) : (C.pay o t n).Fit (i + 1) := ⟨Nat.le_succ_of_le h.k, Nat.le_succ_of_le h.l, h.y, Nat.le_succ_of_le h.v⟩
theorem Ch.Fit.stake {C : Ch} {i : Nat} (h : C.Fit i) (o b n : Int) : (C.stake o b n).Fit (i + 1) := by
  unfold Ch.stake
  split
  · exact ⟨by show (C.s.join o b n).K.length ≤ _; rw [Sk.join_K]; exact Nat.le_succ_of_le h.k, Nat.le_succ_of_le h.l, h.y, Nat.le_succ_of_le h.v⟩
  · exact h.more (Nat.le_succ _)
theorem Ch.Fit.unstake {C : Ch} {i : Nat} (h : C.Fit i) (o b n : Int) : (C.unstake o b n).Fit (i + 1) :=
  ⟨Nat.le_trans (leave_len C.s o b n C.cyc) (Nat.succ_le_succ h.k), Nat.le_succ_of_le h.l, h.y, Nat.le_succ_of_le h.v⟩
theorem Ch.Fit.free {C : Ch} {i : Nat} (h : C.Fit i) (o : Int) : (C.free o).Fit (i + 1) := by
  unfold Ch.free
  split
  · exact ⟨by show (C.s.free o C.cyc).K.length ≤ _; rw [Sk.free_K]; exact Nat.le_succ_of_le h.k, Nat.le_succ_of_le h.l, h.y, Nat.le_succ_of_le h.v⟩
  · exact h.more (Nat.le_succ _)
theorem Ch.Fit.accuse {C : Ch} {i : Nat} (h : C.Fit i) (o : Int) (e : Ev) : (C.accuse o e).Fit (i + 1) :=
  ⟨Nat.le_succ_of_le h.k, Nat.le_trans (Ct.acc_len C.c o e C.cyc) (Nat.succ_le_succ h.l), h.y, Nat.le_succ_of_le h.v⟩
theorem Ch.Fit.bake {C : Ch} {i : Nat} (h : C.Fit i) (b : Int) : (C.bake b).Fit (i + 1) := by
  have p := C.paid_same b
  refine ⟨?_, ?_, ?_, ?_⟩
  · show ((C.paid b).stepped).s.K.length ≤ _
    rw [Ch.stepped_K, Ch.paid_K]; exact Nat.le_succ_of_le h.k
  · show ((C.paid b).stepped).c.L.length ≤ _
    rw [Ch.stepped_L, p.2.2]; exact Nat.le_succ_of_le h.l
  · show ((C.paid b).stepped).cyc = ((C.paid b).stepped).lev / 4
    rw [Ch.stepped_cyc (by rw [p.1, p.2.1]; exact h.y), Ch.stepped_lev]
  · show ((C.paid b).stepped).lev ≤ _
    rw [Ch.stepped_lev, p.2.1]; exact Nat.succ_le_succ h.v

/-! an act, and supply -/
theorem Ch.Ok.rew_part {C : Ch} (h : C.Ok) : C.rew * 80 ≤ C.p.S := by
  unfold Ch.rew rewardN
  rw [if_pos h.rewardOk]
  have := h.rate_bd
  have := h.pos
  have := reward_part (s := C.p.S) (r := C.rate) (by omega) (by omega) (by omega)
  omega
/-- what an act made of a chain: n was minted -/
structure Ch.Went (C C' : Ch) (n : Int) (i : Nat) : Prop where
  ok : C'.Ok
  fit : C'.Fit (i + 1)
  n0 : 0 ≤ n
  nS : n * 80 ≤ C.p.S
  le : C'.p.S ≤ C.p.S + n
  eq : C'.cyc = C.cyc → C'.p.S = C.p.S + n
theorem Ch.Went.quiet {C C' : Ch} {i : Nat} (h : C.Ok) (k : C'.Ok) (f : C'.Fit (i + 1)) (e : C'.p.S = C.p.S) : C.Went C' 0 i :=
  ⟨k, f, Int.le_refl _, by have := h.pos; omega, by omega, fun _ => by omega⟩
theorem Ch.Went.same {C : Ch} {i : Nat} (h : C.Ok) (f : C.Fit i) : C.Went C 0 i := .quiet h h (f.more (Nat.le_succ _)) rfl
theorem Ch.Went.pay {C : Ch} {i : Nat} (h : C.Ok) (f : C.Fit i) (o t n : Int) : C.Went (C.pay o t n) 0 i := .quiet h (h.pay o t n) (f.pay o t n) (C.p.move_gap o t n).1
theorem Ch.Went.stake {C : Ch} {i : Nat} (h : C.Ok) (f : C.Fit i) (o b n : Int) : C.Went (C.stake o b n) 0 i := by
  refine .quiet h (h.stake o b n) (f.stake o b n) ?_
  unfold Ch.stake
  by_cases k : C.stakeC o b n = 0
  · rw [if_pos k]; exact (Pu.out_gap (Ch.stakeC_zero k).1).1
  · rw [if_neg k]
theorem Ch.Went.unstake {C : Ch} {i : Nat} (h : C.Ok) (f : C.Fit i) (o b n : Int) : C.Went (C.unstake o b n) 0 i := .quiet h (h.unstake o b n) (f.unstake o b n) rfl
theorem Ch.Went.free {C : Ch} {i : Nat} (h : C.Ok) (f : C.Fit i) (o : Int) : C.Went (C.free o) 0 i := by
  refine .quiet h (h.free o) (f.free o) ?_
  unfold Ch.free
  by_cases k : C.s.freeC o C.cyc = 0
  · rw [if_pos k]; exact (Pu.in_gap (Sk.freeC_in k).1 (h.freeIn k)).1
  · rw [if_neg k]
theorem Ch.Went.accuse {C : Ch} {i : Nat} (h : C.Ok) (f : C.Fit i) (o : Int) (e : Ev) : C.Went (C.accuse o e) 0 i := .quiet h (h.accuse o e) (f.accuse o e) rfl
theorem Ch.Went.bake {C : Ch} {i : Nat} (h : C.Ok) (f : C.Fit i) (b : Int) : C.Went (C.bake b) (C.bakeN b) i := by
  have k := h.bake b
  refine ⟨k.1, f.bake b, (h.bakeN_bd b).1, ?_, k.2.1, k.2.2⟩
  unfold Ch.bakeN
  split
  · exact h.rew_part
  · have := h.pos; omega

/-! supply stays small -/
def Ch.Low (C : Ch) (i : Nat) : Prop := C.p.S ≤ 60000 * (((i + 1) * (i + 1) : Nat) : Int)
theorem chNew_low (seed : Nat) : (chNew seed).Low 0 := by
  show purse0.S ≤ _
  rw [purse0_S]; decide
theorem Ch.Low.next {C C' : Ch} {n : Int} {i : Nat} (h : C.Low i) (hi : i ≤ 120) (g : C.Went C' n i) : C'.Low (i + 1) := by
  have a := g.le
  have b := g.nS
  unfold Ch.Low at h ⊢
  have e : (i + 1) * (i + 1) ≤ 121 * (i + 1) := Nat.mul_le_mul_right _ (by omega)
  have e2 : (i + 1 + 1) * (i + 1 + 1) = (i + 1) * (i + 1) + 2 * (i + 1) + 1 := by rw [Nat.add_mul, Nat.mul_add]; omega
  rw [e2]
  generalize (i + 1) * (i + 1) = q at *
  omega
theorem Ch.Low.top {C : Ch} {i : Nat} (h : C.Low i) (hi : i ≤ 120) : C.p.S ≤ 1000000000 := by
  unfold Ch.Low at h
  have e : (i + 1) * (i + 1) ≤ 121 * 121 := Nat.mul_le_mul (by omega) (by omega)
  generalize (i + 1) * (i + 1) = q at *
  omega
/-- where something is staked the reward is paid -/
theorem Ch.Ok.pays {C : Ch} (h : C.Ok) (hS : C.p.S ≤ 1000000000) {b : Int} (hb : Bk b) (hT : 0 < (C.s.P b).T) : C.Payable b := by
  have r := h.rew_bd
  have q := h.rew_part
  have po := h.s.pok b
  have t : (C.s.P b).T ≤ C.p.S := by
    have a := h.s.staked_le
    have s := h.sum
    have s0 := h.p.sum0
    have p0 := (h.s.P_bd 0).1
    have p1 := (h.s.P_bd 1).1
    have p2 := (h.s.P_bd 2).1
    have e : b = 0 ∨ b = 1 ∨ b = 2 := by have := hb.1; have := hb.2; omega
    rcases e with rfl | rfl | rfl <;> omega
  refine ⟨by omega, ?_⟩
  unfold Sk.addC
  rw [h.reg b hb]
  show St.addC _ _ = 0
  unfold St.addC
  rw [if_neg (not_not_intro ⟨r.1, by omega⟩)]
  have A0 : (C.s.P b).A ≠ 0 := fun e => by
    have := po.none e
    omega
  rw [if_neg A0, if_neg (by omega)]
theorem Ch.bake_staked {C : Ch} (h : C.Ok) {b : Int} (hb : Bk b) (hl : (C.lev + 1) % 4 ≠ 0) : ((C.bake b).s.P b).T = (C.s.P b).T + C.bakeN b := by
  have e : C.bake b = { C.paid b with lev := (C.paid b).lev + 1 } := by
    show (C.paid b).stepped = _
    unfold Ch.stepped
    rw [if_neg (by rw [(C.paid_same b).2.1]; exact hl)]
  rw [e]
  show ((C.paid b).s.P b).T = _
  unfold Ch.paid Ch.bakeN
  by_cases k : C.Payable b
  · rw [if_pos k, if_pos k]
    have ka := k.2
    unfold Sk.addC at ka
    show ((C.s.add b C.rew).P b).T = _
    unfold Sk.add
    rw [h.reg b hb] at ka ⊢
    simp only [if_true] at ka ⊢
    show (set1 C.s.P b ((C.s.P b).add C.rew) b).T = _
    rw [set1_same]
    exact St.add_T ka
  · rw [if_neg k, if_neg k]; omega
theorem Ch.judge_snoc (C : Ch) (l : List Cs) (t : Cs) : C.judge (l ++ [t]) = (C.judge l).judge1 t := by
  unfold Ch.judge
  rw [List.foldl_append]
  rfl
theorem take_snoc {α : Type} {L : List α} {i : Nat} {t : α} (h : L[i]? = some t) : L.take (i + 1) = L.take i ++ [t] := by
  obtain ⟨hi, rfl⟩ := List.getElem?_eq_some_iff.1 h
  exact List.take_succ_eq_append_getElem hi
def heavyTo (f : Nat → Int) (j : Nat) : Bool := (List.range j).any fun i => decide (0 < f i)
theorem heavyTo_succ (f : Nat → Int) (j : Nat) : heavyTo f (j + 1) = (heavyTo f j || decide (0 < f j)) := by simp [heavyTo, List.range_succ, List.any_append]
theorem heavy_iff {f : Nat → Int} (h : Weights 3 f) : heavyTo f 3 = decide (sumTo f 3 ≠ 0) := by
  have a0 := (h.bd 0 (by omega)).1
  have a1 := (h.bd 1 (by omega)).1
  have a2 := (h.bd 2 (by omega)).1
  have e : sumTo f 3 = 0 + f 0 + f 1 + f 2 := rfl
  rw [heavyTo_succ, heavyTo_succ, heavyTo_succ, show heavyTo f 0 = false from rfl, e]
  by_cases b0 : 0 < f 0 <;> by_cases b1 : 0 < f 1 <;> by_cases b2 : 0 < f 2 <;> simp [b0, b1, b2] <;> omega
end Go.Proofs.YtaihcceobnfmhaaGreatDoor

namespace Go.Proofs.YtaihcceobnfmhaaGreatDoor
open Go.RowKit

theorem weight_of (n : Int) (w : World) :
    Calls Tryz.prog 92 #[.int .i64 n] w fun e w' => e = .returned (.int .i64 (wtOf n)) ∧ w' = w := by
  by_cases h0 : n < 100
  · have e : Hid (wtOf n = 0) := if_pos h0
    go_enter Tryz.func92, Tryz.ntmps92
    go_wp2
    go_ret
    exact ⟨ret_int e.out.symm, rfl⟩
  · by_cases h1 : 1073741824 < n
    · have e : Hid (wtOf n = 1073741824) := (if_neg h0).trans (if_pos h1)
      go_enter Tryz.func92, Tryz.ntmps92
      go_wp2
      go_ret
      exact ⟨ret_int (by rw [e.out]; omega), rfl⟩
    · have e : Hid (wtOf n = n) := (if_neg h0).trans (if_neg h1)
      go_enter Tryz.func92, Tryz.ntmps92
      go_wp2
      go_ret
      exact ⟨ret_int (by rw [e.out]; omega), rfl⟩
set_option maxRecDepth 100000 in
set_option maxHeartbeats 1000000 in
theorem pr_picture (F : Nat → Prop) (sb : Nat) (S : Sk) (hS : S.Ok) (g : Nat) (w : World) (h : PSk F w sb S g) :
    Calls Tryz.prog 41 #[.pointer (some ⟨sb, 0, none⟩)] w fun e w' => ∃ m cap, e = .returned (.slice (some ⟨m, 0, none⟩) 3 cap) ∧ (w.heap.size ≤ m ∧ m < w'.heap.size) ∧ Ints w' m 0 3 S.pic ∧ Below w.heap.size w w' := by
  have mk := make_tri
  have R := RowTo.new w 3 3 S.pic
  have B0 : Below w.heap.size w (w.alloc (.cells (noughts 3) 3)) := (Below.refl _ _).alloc (Nat.le_refl _) _
  go_enter Tryz.func41, Tryz.ntmps41
  go_wp2
  go_loopw [11] (fun i wr => ∃ k : Nat, k ≤ 3 ∧ i = .int .i64 k ∧ RowTo wr w.heap.size 3 k S.pic ∧ Below w.heap.size w wr) (fun i _ => 3 - (intOf i).toNat)
  case atStart => exact ⟨0, Nat.zero_le _, rfl, R, B0⟩
  case round =>
    obtain ⟨k, hk, rfl, Rk, B⟩ := hrel
    clear R B0
    by_cases hlt : k < 3
    · have P := h.keptP (KeptP.of_below (F := fun _ => False) B) (fun _ g => g.elim)
      clear h
      go_wp2_with fail
      refine (ps_staked F sb S hS g k wr P).mono ?_
      rintro e w1 ⟨rfl, m, hw⟩
      have R1 : RowTo w1 w.heap.size 3 k S.pic := by rw [hw]; exact Rk.below (below_drewN (Below.refl _ _) m)
      have B1 : Below w.heap.size w w1 := by rw [hw]; exact below_drewN B m
      clear hw Rk B P
      go_wp2_with fail
      refine (weight_of _ w1).mono ?_
      rintro e w2 ⟨rfl, hw⟩
      obtain rfl := hw.symm
      have c1 := R1.c k hlt
      have f1 := R1.f k
      have R2 := R1.next (x := wtOf (S.P k).T) hlt (fun _ _ => rfl) rfl
      have B2 := B1.setCell (p := ⟨w.heap.size, k, none⟩) (Nat.le_refl _) (.int .i64 (wtOf (S.P k).T))
      clear R1 B1
      go_wp2_with fail
      go_roundw
      case rel => exact ⟨k + 1, by omega, by go_num, R2, B2⟩
      case measure => simp [intOf]; omega
    · obtain rfl : k = 3 := by omega
      have lt := Rk.lt
      have I := Rk.all
      clear Rk
      go_wp2_with fail
      go_ret
      exact ⟨_, _, rfl, ⟨Nat.le_refl _, lt⟩, I, B⟩
end Go.Proofs.YtaihcceobnfmhaaGreatDoor
