/-
  The program's books by their contracts: the ratio of what is staked, a block's reward, a case that is judged.
  The program's chain by its contracts: pay, stake, unstake, free, accuse.
  The program's picture of stakes, by its contract.
  The program's chain by its contracts: the next picture.
  The program's chain by its contracts: a picture is taken.
-/
import Derived.Test.YtmbfdhekplnoaaaGreatDoorProgBooksActsX
import Derived.Test.YtmbfdhekplnoaaaGreatDoorEvMapX
import Derived.Test.YtmbfdhekplnoaaaGreatDoorIssueMathX
import Derived.Test.YtmbfdhekplnoaaaGreatDoorTextOwnX
import Derived.Deep.RegionWith
import Derived.Deep.RegionLaw
import Derived.Deep.QuietTactic
import Derived.BigQuiet
import Derived.Laws.IdiomCopy
namespace Go.Proofs.YtmbfdhekplnoaaaGreatDoor
open Go.RowKit

def stakedTo (C : Ch) : Nat → Int
  | 0 => 0
  | k + 1 => stakedTo C k + (C.s.P k).T
theorem stakedTo_three (C : Ch) : stakedTo C 3 = C.staked := by
  show (0 : Int) + (C.s.P ((0 : Nat) : Int)).T + (C.s.P ((1 : Nat) : Int)).T + (C.s.P ((2 : Nat) : Int)).T = _
  unfold Ch.staked
  rw [Int.zero_add]
  rfl
theorem stakedTo_bd {C : Ch} (h : C.Ok) : ∀ k, k ≤ 3 → 0 ≤ stakedTo C k ∧ stakedTo C k ≤ k * 1125899906842624
  | 0, _ => ⟨Int.le_refl _, by show (0 : Int) ≤ _; omega⟩
  | k + 1, hk => by
    have a := stakedTo_bd h k (by omega)
    have b := h.s.P_bd (k : Int)
    show 0 ≤ stakedTo C k + (C.s.P k).T ∧ stakedTo C k + (C.s.P k).T ≤ _
    omega
theorem stakedTo_ratio (C : Ch) : ratioN (stakedTo C 3) C.p.S = C.ratio := by rw [stakedTo_three]; rfl
set_option maxRecDepth 100000 in
set_option maxHeartbeats 1000000 in
theorem bks_ratio (G : Nat → Prop) (pb sb : Nat) (C : Ch) (hC : C.Ok) (g : Nat) (A : Nat → Addr) (w : World) (hL : ChLaid8 w A) (h : BksAt G w pb sb C g) :
    Calls Tryz.prog 253 #[.agg #[.pointer (some ⟨pb, 0, none⟩), .pointer (some ⟨sb, 0, none⟩)]] w fun e w' => e = .returned (.int .i64 C.ratio) ∧ Below w.heap.size w w' := by
  have B : Below w.heap.size w (w.alloc (.cells #[.pointer (some ⟨pb, 0, none⟩), .pointer (some ⟨sb, 0, none⟩)] 179)) := (Below.refl _ _).alloc (Nat.le_refl _) _
  have X := box_new w 179 pb sb
  have h1 := h.below B
  have L1 := hL.below B
  clear h
  go_enter Tryz.func253, Tryz.ntmps253
  go_wp2_with fail
  generalize hn : w.heap.size = nb at *
  generalize w.alloc (.cells #[.pointer (some ⟨pb, 0, none⟩), .pointer (some ⟨sb, 0, none⟩)] 179) = w1 at *
  go_loopw [3, 7] (fun s i wr => ∃ k m : Nat, k ≤ 3 ∧ i = .int .i64 k ∧ s = .int .i64 (stakedTo C k) ∧ wr = w1.drewN m) (fun _ i _ => 3 - (intOf i).toNat)
  case atStart => exact ⟨0, 0, by omega, rfl, rfl, rfl⟩
  case round =>
    obtain ⟨k, m, hk, rfl, rfl, hw⟩ := hrel
    have Br : Below w1.heap.size w1 wr := by rw [hw]; exact below_drewN (Below.refl _ _) _
    have h2 := h1.below Br
    have X2 := X.below Br
    have HW := hide hw
    clear hw
    by_cases hlt : k < 3
    · have e1 := X2.e1
      have S := ps_staked G sb C.s hC.s g (k : Int) wr h2.s
      obtain ⟨a0, a1⟩ := stakedTo_bd hC k (by omega)
      obtain ⟨b0, b1⟩ := hC.s.P_bd (k : Int)
      have E1 := hide (show stakedTo C (k + 1) = stakedTo C k + (C.s.P k).T from rfl)
      have k3 : (k : Int) < 3 := by omega
      clear h2 X2
      generalize (C.s.P (k : Int)).T = q at *
      generalize hp : stakedTo C k = p at *
      have a2 : p ≤ 3377699720527872 := by omega
      clear a1
      go_wp2_with (go_at_call 83; refine S.mono ?_; rintro e w3 ⟨rfl, m1, hw1⟩)
      go_roundw
      case rel => exact ⟨k + 1, m + m1, by omega, by go_num, by rw [E1.out], by rw [HW.out, drewN_twice]⟩
      case measure => simp [intOf]; omega
    · obtain rfl : k = 3 := by omega
      have e0 := X2.e0
      have L2 := L1.below Br
      have S := pu_supply pb C.p wr h2.p
      have R := is_ratio (stakedTo C 3) C.p.S A wr L2.iss
      rw [stakedTo_ratio] at R
      have Bw : Hid (Below nb w wr) := hide (B.trans (Br.mono (hn ▸ B.size)))
      clear h2 X2 h1 X L1 B
      generalize stakedTo C 3 = p at *
      go_wp2_with fail
      refine S.mono ?_
      rintro e w3 ⟨rfl, hw3⟩
      obtain rfl := hw3.symm
      go_wp2_with fail
      refine R.mono ?_
      rintro e w4 ⟨ev, rfl, _, hB4⟩
      go_wp2_with fail
      go_ret
      exact ⟨rfl, by rw [hn]; exact Bw.out.trans (hB4.mono (hn ▸ Bw.out.size))⟩
theorem Pu.grow_burn {x : Pu} (h : x.Ok) {n : Int} (hn : x.growC n = 0) : (x.grow n).burn n = x := by
  have e : x.grow n = ⟨x.s, x.S + n⟩ := if_pos hn
  have am : Amt n ∧ x.S + n ≤ 1125899906842624 := by
    unfold Pu.growC at hn
    split at hn
    · assumption
    · exact absurd hn (by decide)
  have le := h.le
  have c : (⟨x.s, x.S + n⟩ : Pu).burnC n = 0 := by
    unfold Pu.burnC
    rw [if_neg (not_not_intro am.1), if_neg]
    show ¬ x.S + n - x.sum < n
    omega
  rw [e]
  unfold Pu.burn
  rw [if_pos c]
  show (⟨x.s, x.S + n - n⟩ : Pu) = x
  rw [Int.add_sub_cancel]
set_option maxRecDepth 100000 in
set_option maxHeartbeats 2000000 in
theorem bks_reward (G : Nat → Prop) (pb sb : Nat) (C : Ch) (hC : C.Ok) (g : Nat) (hg : g ≤ 880000) (b : Int) (A : Nat → Addr) (w : World) (hL : ChLaid8 w A) (h : BksAt G w pb sb C g) :
    Calls Tryz.prog 213 #[.agg #[.pointer (some ⟨pb, 0, none⟩), .pointer (some ⟨sb, 0, none⟩)], .int .i64 b, .int .i64 C.bon] w fun e w' => ∃ G', e = .returned (.int .i64 (C.bakeN b)) ∧ BksAt G' w' pb sb (C.paid b) (g + 4) ∧ Moved (bksOwn pb G) (bksOwn pb G') w w' := by
  have B : Below w.heap.size w (w.alloc (.cells #[.pointer (some ⟨pb, 0, none⟩), .pointer (some ⟨sb, 0, none⟩)] 179)) := (Below.refl _ _).alloc (Nat.le_refl _) _
  have X := box_new w 179 pb sb
  have e0 := X.e0
  have e1 := X.e1
  have h1 := h.below B
  have L1 := hL.below B
  have M1 : Moved (bksOwn pb G) (bksOwn pb G) w (w.alloc (.cells #[.pointer (some ⟨pb, 0, none⟩), .pointer (some ⟨sb, 0, none⟩)] 179)) := ⟨KeptP.of_below B, fun _ _ q => q⟩
  have nn : ¬ bksOwn pb G w.heap.size := fun q => by have := h.lt _ q; omega
  obtain ⟨rb0, rb1⟩ := hC.rew_bd
  have top := hC.p.top
  have RT := hide (show rateN C.ratio C.bon = C.rate from rfl)
  have RW := hide (show rewardN C.p.S C.rate = C.rew from rfl)
  clear h hL B
  go_enter Tryz.func213, Tryz.ntmps213
  go_wp2_with fail
  generalize hn : w.heap.size = nb at *
  generalize w.alloc (.cells #[.pointer (some ⟨pb, 0, none⟩), .pointer (some ⟨sb, 0, none⟩)] 179) = w1 at *
  refine (bks_ratio G pb sb C hC g A w1 L1 h1).mono ?_
  rintro e w2 ⟨rfl, hB2⟩
  have h2 := h1.below hB2
  have L2 := L1.below hB2
  have X2 := X.below hB2
  have M2 : Moved (bksOwn pb G) (bksOwn pb G) w w2 := M1.trans ⟨KeptP.of_below hB2, fun _ _ q => q⟩
  have R := is_rate C.ratio C.bon A w2 L2.iss
  rw [RT.out] at R
  have H2 := hide h2
  clear h1 L1 X M1 hB2 e0 e1 h2
  go_wp2_with fail
  refine R.mono ?_
  rintro e w3 ⟨ev3, rfl, _, hB3⟩
  have h3 := H2.out.below hB3
  have L3 := L2.below hB3
  have X3 := X2.below hB3
  have M3 : Moved (bksOwn pb G) (bksOwn pb G) w w3 := M2.trans ⟨KeptP.of_below hB3, fun _ _ q => q⟩
  have e0 := X3.e0
  have S := pu_supply pb C.p w3 h3.p
  have W := is_reward C.p.S C.rate A w3 L3.iss
  rw [RW.out] at W
  have H3 := hide h3
  clear R H2 L2 X2 M2 hB3 h3
  go_wp2_with fail
  refine S.mono ?_
  rintro e w3' ⟨rfl, hw3⟩
  obtain rfl := hw3.symm
  clear hw3 S
  go_wp2_with fail
  refine W.mono ?_
  rintro e w4 ⟨ev4, rfl, _, hB4⟩
  have h4 := H3.out.below hB4
  have L4 := L3.below hB4
  have X4 := X3.below hB4
  have M4 : Moved (bksOwn pb G) (bksOwn pb G) w w4 := M3.trans ⟨KeptP.of_below hB4, fun _ _ q => q⟩
  have GR := pu_grow pb C.p hC.p C.rew A w4 L4.pur h4.p
  have H4 := hide h4
  have e4 := X4.e0
  clear W H3 L3 X3 M3 hB4 h4 e0
  go_wp2_with fail
  refine GR.mono ?_
  rintro e w5 ⟨ev5, rfl, hE5, hp5, hK5⟩
  have h5 := H4.out.purse hp5 hK5
  have M45 := H4.out.purseMoved hK5
  have L5 := H4.out.laid L4 M45.kept
  have X5 := X4.keptP M45.kept nn
  have M5 := M4.trans M45
  have e5 := X5.e1
  clear GR H4 hp5 hK5 L4 X4 M45 M4 e4
  by_cases k1 : C.p.S + C.rew ≤ 1125899906842624
  · have gc : C.p.growC C.rew = 0 := if_pos ⟨⟨rb0, by omega⟩, k1⟩
    obtain rfl := hE5.nil gc
    have AD := ps_add G sb C.s hC.s g (by omega) b C.rew A w5 L5.stk h5.s
    have H5 := hide h5
    clear hE5 h5
    go_wp2_with fail
    refine AD.mono ?_
    rintro e w6 ⟨ev6, G6, rfl, hE6, hS, hM⟩
    have h6 := H5.out.stakes hS hM
    have M56 := H5.out.stakesMoved hM
    have L6 := H5.out.laid L5 M56.kept
    have X6 := X5.keptP M56.kept nn
    have M6 := M5.trans M56
    have e6 := X6.e0
    clear AD H5 hS hM L5 X5 M56 M5 e5
    by_cases a0 : C.s.addC b C.rew = 0
    · have py : C.Payable b := ⟨k1, a0⟩
      have PE := hide (show C.paid b = { C with p := C.p.grow C.rew, s := C.s.add b C.rew } from if_pos py)
      have NE := hide (show C.bakeN b = C.rew from if_pos py)
      obtain rfl := hE6.nil a0
      have H6 := hide h6
      clear py a0 hE6 h6
      go_wp2_with fail
      go_ret
      exact ⟨_, ret_int NE.out.symm, by rw [PE.out]; exact H6.out, M6⟩
    · have np : ¬ C.Payable b := fun q => a0 q.2
      have PE := hide (show C.paid b = C from if_neg np)
      have NE := hide (show C.bakeN b = 0 from if_neg np)
      have SE := hide (Sk.add_same a0)
      rw [SE.out] at h6
      obtain ⟨j, rfl⟩ := hE6.err a0
      have BU := pu_burn pb (C.p.grow C.rew) (hC.p.grow C.rew) C.rew A w6 L6.pur h6.p
      have H6 := hide h6
      clear np a0 hE6 h6
      go_wp2_with fail
      refine BU.mono ?_
      rintro e w7 ⟨ev7, rfl, _, hp7, hK7⟩
      have h7 := H6.out.purse hp7 hK7
      have M7 := M6.trans (H6.out.purseMoved hK7)
      rw [Pu.grow_burn hC.p gc] at h7
      have H7 := hide h7
      clear BU h7 hp7 hK7 H6 M6
      go_wp2_with fail
      go_ret
      exact ⟨_, ret_int NE.out.symm, by rw [PE.out]; exact H7.out, M7⟩
  · have np : ¬ C.Payable b := fun q => k1 q.1
    have PE := hide (show C.paid b = C from if_neg np)
    have NE := hide (show C.bakeN b = 0 from if_neg np)
    have gc : C.p.growC C.rew ≠ 0 := by
      unfold Pu.growC
      rw [if_neg (fun q => k1 q.2)]
      decide
    have GE := hide (show C.p.grow C.rew = C.p from if_neg gc)
    rw [GE.out] at h5
    obtain ⟨j, rfl⟩ := hE5.err gc
    have H5 := hide h5
    clear np gc hE5 h5
    go_wp2_with fail
    go_ret
    exact ⟨_, ret_int NE.out.symm, by rw [PE.out]; exact H5.out.more (by omega), M5⟩
set_option maxRecDepth 100000 in
set_option maxHeartbeats 2000000 in
theorem bks_judge (G : Nat → Prop) (pb sb : Nat) (C : Ch) (hC : C.Ok) (hk : C.s.K.length ≤ 900) (g : Nat) (hg : g ≤ 880000) (t : Cs) (ho : Own t.1) (hr : Bk t.2.1) (wy : (Lit.int .i64 t.2.2.1).wf = true) (wm : (Lit.int .i64 t.2.2.2).wf = true) (A : Nat → Addr) (w : World) (hL : ChLaid8 w A) (h : BksAt G w pb sb C g) :
    Calls Tryz.prog 259 #[.agg #[.pointer (some ⟨pb, 0, none⟩), .pointer (some ⟨sb, 0, none⟩)], .agg #[.int .i64 t.1, .int .i64 t.2.1, .int .i64 t.2.2.1, .int .i64 t.2.2.2]] w fun e w' => ∃ G', e = .returned (.tuple #[]) ∧ BksAt G' w' pb sb (C.judge1 t) (g + 4) ∧ Moved (bksOwn pb G) (bksOwn pb G') w w' := by
  obtain ⟨o, b, y, m⟩ := t
  have B0 : Below w.heap.size w (w.alloc (.cells #[.pointer (some ⟨pb, 0, none⟩), .pointer (some ⟨sb, 0, none⟩)] 179)) := (Below.refl _ _).alloc (Nat.le_refl _) _
  have B1 : Below (w.alloc (.cells #[.pointer (some ⟨pb, 0, none⟩), .pointer (some ⟨sb, 0, none⟩)] 179)).heap.size (w.alloc (.cells #[.pointer (some ⟨pb, 0, none⟩), .pointer (some ⟨sb, 0, none⟩)] 179)) ((w.alloc (.cells #[.pointer (some ⟨pb, 0, none⟩), .pointer (some ⟨sb, 0, none⟩)] 179)).alloc (.cells #[.int .i64 o, .int .i64 b, .int .i64 y, .int .i64 m] 269)) := (Below.refl _ _).alloc (Nat.le_refl _) _
  have B : Below w.heap.size w ((w.alloc (.cells #[.pointer (some ⟨pb, 0, none⟩), .pointer (some ⟨sb, 0, none⟩)] 179)).alloc (.cells #[.int .i64 o, .int .i64 b, .int .i64 y, .int .i64 m] 269)) := B0.trans (B1.mono B0.size)
  have X := (box_new w 179 pb sb).below B1
  have e1 := X.e1
  have sz : (w.alloc (.cells #[.pointer (some ⟨pb, 0, none⟩), .pointer (some ⟨sb, 0, none⟩)] 179)).heap.size = w.heap.size + 1 := by simp
  have k0 : ((w.alloc (.cells #[.pointer (some ⟨pb, 0, none⟩), .pointer (some ⟨sb, 0, none⟩)] 179)).alloc (.cells #[.int .i64 o, .int .i64 b, .int .i64 y, .int .i64 m] 269)).cell? ⟨w.heap.size + 1, 0, none⟩ = some (.int .i64 o) := by rw [← sz]; exact cell_new _ _ _ _ _ _ rfl rfl
  have k1 : ((w.alloc (.cells #[.pointer (some ⟨pb, 0, none⟩), .pointer (some ⟨sb, 0, none⟩)] 179)).alloc (.cells #[.int .i64 o, .int .i64 b, .int .i64 y, .int .i64 m] 269)).cell? ⟨w.heap.size + 1, 1, none⟩ = some (.int .i64 b) := by rw [← sz]; exact cell_new _ _ _ _ _ _ rfl rfl
  have k2 : ((w.alloc (.cells #[.pointer (some ⟨pb, 0, none⟩), .pointer (some ⟨sb, 0, none⟩)] 179)).alloc (.cells #[.int .i64 o, .int .i64 b, .int .i64 y, .int .i64 m] 269)).cell? ⟨w.heap.size + 1, 2, none⟩ = some (.int .i64 y) := by rw [← sz]; exact cell_new _ _ _ _ _ _ rfl rfl
  have k3 : ((w.alloc (.cells #[.pointer (some ⟨pb, 0, none⟩), .pointer (some ⟨sb, 0, none⟩)] 179)).alloc (.cells #[.int .i64 o, .int .i64 b, .int .i64 y, .int .i64 m] 269)).cell? ⟨w.heap.size + 1, 3, none⟩ = some (.int .i64 m) := by rw [← sz]; exact cell_new _ _ _ _ _ _ rfl rfl
  have h1 := h.below B
  have L1 := hL.below B
  have M1 : Moved (bksOwn pb G) (bksOwn pb G) w ((w.alloc (.cells #[.pointer (some ⟨pb, 0, none⟩), .pointer (some ⟨sb, 0, none⟩)] 179)).alloc (.cells #[.int .i64 o, .int .i64 b, .int .i64 y, .int .i64 m] 269)) := ⟨KeptP.of_below B, fun _ _ q => q⟩
  have nn : ¬ bksOwn pb G w.heap.size := fun q => by have := h.lt _ q; omega
  have nn1 : ¬ bksOwn pb G (w.heap.size + 1) := fun q => by have := h.lt _ q; omega
  have pb50 := pct_bd m
  have sc : C.s.slashC b (pct m) = 0 := by
    unfold Sk.slashC
    rw [if_pos (hC.reg b hr), if_pos ⟨pb50.1, by omega⟩]
  have SC := hide sc
  have ls := hC.lost_bd (o, b, y, m)
  have lb0 : 0 ≤ C.s.slashN b y (pct m) := ls.1
  have lb1 : C.s.slashN b y (pct m) ≤ 1125899906842624 := ls.2.2
  clear ls h sc hL B0 B1 B sz
  go_enter Tryz.func259, Tryz.ntmps259
  go_wp2_with fail
  generalize hn : w.heap.size = nb at *
  generalize ((w.alloc (.cells #[.pointer (some ⟨pb, 0, none⟩), .pointer (some ⟨sb, 0, none⟩)] 179)).alloc (.cells #[.int .i64 o, .int .i64 b, .int .i64 y, .int .i64 m] 269)) = w1 at *
  go_region_held3 (fun w' => w'.cell? ⟨nb, 1, none⟩ = some (.pointer (some ⟨sb, 0, none⟩)) ∧ w'.cell? ⟨nb + 1, 1, none⟩ = some (.int .i64 b) ∧ w'.cell? ⟨nb + 1, 2, none⟩ = some (.int .i64 y) ∧ w'.cell? ⟨nb + 1, 3, none⟩ = some (.int .i64 m)) (exact ⟨by assumption, by assumption, by assumption, by assumption⟩)
    (first
      | (go_at_call 289; refine (pc_percent m wm _).mono ?_; rintro e w2 ⟨rfl, hw2⟩; have B2 : Below w1.heap.size w1 w2 := (by rw [hw2]; first | exact Below.refl _ _ | exact below_drewN (Below.refl _ _) 1); have h2 := h1.below B2; have L2 := L1.below B2; have X2 := X.below B2; have f1 := X2.e1; have q1 := was_cellP B2 k1; have q2 := was_cellP B2 k2; have q3 := was_cellP B2 k3; have q0 := was_cellP B2 k0; clear hw2)
      | (go_at_call 288; refine (ps_slash G sb C.s hC.s hk g (by omega) b y (pct m) wy A _ (by first | exact L2.stk | exact (L2.below (below_drewN (Below.refl _ _) 1)).stk) (by first | exact h2.s | exact (h2.drewN 1).s)).mono ?_; rintro e w3 ⟨ev, G3, rfl, hE, hS, hM⟩; have h3 : BksAt G3 w3 pb sb { C with s := C.s.slash b y (pct m) } (g + 4) := (by first | exact h2.stakes hS hM | exact (h2.drewN 1).stakes hS hM); have M3 : Moved (bksOwn pb G) (bksOwn pb G3) w2 w3 := (by first | exact h2.stakesMoved hM | exact moved_drew ((h2.drewN 1).stakesMoved hM)); have L3 := h2.laid L2 M3.kept; have X3 := X2.keptP M3.kept nn; have g1 := X3.e1; have r0 := M3.kept.old (p := ⟨nb + 1, 0, none⟩) q0 nn1; have r1 := M3.kept.old (p := ⟨nb + 1, 1, none⟩) q1 nn1; have r2 := M3.kept.old (p := ⟨nb + 1, 2, none⟩) q2 nn1; have r3 := M3.kept.old (p := ⟨nb + 1, 3, none⟩) q3 nn1))
  obtain rfl := hE.nil SC.out
  have M13 := (M1.trans ⟨KeptP.of_below B2, fun _ _ q => q⟩).trans M3
  have nn3 : ¬ bksOwn pb G3 nb := fun q => nn (M3.old nb (cell_lt f1) q)
  have JE := hide (show C.judge1 (o, b, y, m) = { C with p := (C.p.in' o (C.s.slashN b y (pct m) / 7)).burn (C.s.slashN b y (pct m) - C.s.slashN b y (pct m) / 7), s := C.s.slash b y (pct m) } from rfl)
  clear hE hS hM e1 r1 r2 r3 k0 k1 k2 k3 h1 h2 L1 L2 f1 q0 q1 q2 q3 B2 X X2 M1 M3 g1
  generalize C.s.slashN b y (pct m) = l at *
  have SH := pc_share l (small_wf l (by omega) (by omega)) w3
  have sA : shareA l = l / 7 := if_neg (by omega)
  have sB : shareB l = l - l / 7 := if_neg (by omega)
  rw [sA, sB] at SH
  have H3 := hide h3
  clear sA sB h3
  go_wp2_with fail
  refine SH.mono ?_
  rintro e w4 ⟨rfl, m4, hw4⟩
  have B4 : Below w3.heap.size w3 w4 := by rw [hw4]; exact below_drewN (Below.refl _ _) _
  have h4 := H3.out.below B4
  have L4 := L3.below B4
  have X4 := X3.below B4
  have M14 : Moved (bksOwn pb G) (bksOwn pb G3) w w4 := M13.trans ⟨KeptP.of_below B4, fun _ _ q => q⟩
  have e0 := X4.e0
  have s0 := was_cellP B4 r0
  have I := pu_in pb C.p hC.p o (l / 7) A w4 L4.pur h4.p
  have H4 := hide h4
  clear hw4 SH H3 L3 M13 r0 h4 X3
  go_wp2_with fail
  refine I.mono ?_
  rintro e w5 ⟨ev5, rfl, _, hp5, hK5⟩
  have h5 := H4.out.purse hp5 hK5
  have M45 := H4.out.purseMoved hK5
  have L5 := H4.out.laid L4 M45.kept
  have X5 := X4.keptP M45.kept nn3
  have M15 := M14.trans M45
  have f0 := X5.e0
  have BU := pu_burn pb (C.p.in' o (l / 7)) (hC.p.in' o (l / 7)) (l - l / 7) A w5 L5.pur h5.p
  have H5 := hide h5
  clear I H4 hp5 hK5 L4 X4 M14 M45 e0 s0 h5
  go_wp2_with fail
  refine BU.mono ?_
  rintro e w6 ⟨ev6, rfl, _, hp6, hK6⟩
  have h6 := H5.out.purse hp6 hK6
  have M16 := M15.trans (H5.out.purseMoved hK6)
  have H6 := hide h6
  clear BU hp6 hK6 h6 H5 f0
  go_wp2_with fail
  go_end0
  exact ⟨_, rfl, by rw [JE.out]; exact H6.out, M16⟩
end Go.Proofs.YtmbfdhekplnoaaaGreatDoor

namespace Go.Proofs.YtmbfdhekplnoaaaGreatDoor
open Go.RowKit

def CbEnd (sb : Nat) (F : Nat → Prop) (cb g : Nat) (C' : Ch) (c : Int) (A : Nat → Addr) (w : World) (e : Ending) (w' : World) : Prop := ∃ ev F', e = .returned ev ∧ ErrIs A ev c ∧ PCb sb F' w' cb C' (g + 2000) ∧ Moved F F' w w'
def CbEndN (sb : Nat) (F : Nat → Prop) (cb g : Nat) (C' : Ch) (n c : Int) (A : Nat → Addr) (w : World) (e : Ending) (w' : World) : Prop := ∃ ev F', e = .returned (.tuple #[.int .i64 n, ev]) ∧ ErrIs A ev c ∧ PCb sb F' w' cb C' (g + 2000) ∧ Moved F F' w w'
theorem PChAt.laid {tag : Nat → Nat} {w w' : World} {cb pb sb kb g : Nat} {xs : Nat → Value} {C : Ch} {F : Nat → Prop} {A : Nat → Addr} (h : PChAt tag w cb pb sb kb xs C g) (hL : ChLaid8 w A) (hf : ∀ k, F k ↔ tag k ≠ 0) (hK : KeptP F w w') : ChLaid8 w' A := hL.keptP hK fun k q => h.vs k ((hf k).1 q)
theorem PChAt.sk {tag : Nat → Nat} {w w' : World} {cb pb sb kb g g' : Nat} {xs : Nat → Value} {C : Ch} {F G : Nat → Prop} {S : Sk} (h : PChAt tag w cb pb sb kb xs C g) (hf : ∀ k, F k ↔ tag k ≠ 0) (hs : PSk G w' sb S g') (hM : Moved (fun k => tag k = 3) G w w') (hg : g ≤ g') (h2 : g' ≤ g + 2000) :
    ∃ F', PCb sb F' w' cb { C with s := S } (g + 2000) ∧ Moved F F' w w' :=
  ⟨_, ⟨_, _, _, _, fun _ => Iff.rfl, (h.stakes hs hM hg).more h2⟩, retag_moved hf hM (by decide)⟩
theorem PChAt.ct {tag : Nat → Nat} {w w' : World} {cb pb sb kb g g' : Nat} {xs : Nat → Value} {C : Ch} {F G : Nat → Prop} {x : Ct} (h : PChAt tag w cb pb sb kb xs C g) (hf : ∀ k, F k ↔ tag k ≠ 0) (hs : PCt G w' kb x g') (hM : Moved (fun k => tag k = 4) G w w') (hg : g ≤ g') (h2 : g' ≤ g + 2000) :
    ∃ F', PCb sb F' w' cb { C with c := x } (g + 2000) ∧ Moved F F' w w' :=
  ⟨_, ⟨_, _, _, _, fun _ => Iff.rfl, (h.court hs hM hg).more h2⟩, retag_moved hf hM (by decide)⟩
set_option maxRecDepth 100000 in
theorem pcb_pay {sb : Nat} (F : Nat → Prop) (cb : Nat) (C : Ch) (hC : C.Ok) (_hb : C.Few) (g : Nat) (_hg : g ≤ 850000) (o t n : Int) (_wo : (Lit.int .i64 o).wf = true) (_wt : (Lit.int .i64 t).wf = true) (A : Nat → Addr) (w : World) (hL : ChLaid8 w A) (h : PCb sb F w cb C g) :
    Calls Tryz.prog 61 #[.pointer (some ⟨cb, 0, none⟩), .int .i64 o, .int .i64 t, .int .i64 n] w (CbEnd sb F cb g (C.pay o t n) (C.p.moveC o t n) A w) := by
  obtain ⟨tag, pb, kb, xs, hf, h⟩ := h
  have c0 := h.c0
  have P := pu_move pb C.p hC.p o t n A w hL.pur h.p
  have H := hide h
  clear h
  go_enter Tryz.func61, Tryz.ntmps61
  go_wp2_with (go_at_call 128; refine P.mono ?_; rintro e w1 ⟨ev, rfl, hE, hp, hK⟩)
  go_ret
  exact ⟨ev, F, rfl, hE, ⟨tag, pb, kb, xs, hf, (H.out.purse hp hK).more (by omega)⟩, H.out.purseMoved hf hK⟩
set_option maxRecDepth 100000 in
theorem pcb_unstake {sb : Nat} (F : Nat → Prop) (cb : Nat) (C : Ch) (hC : C.Ok) (hb : C.Few) (g : Nat) (hg : g ≤ 850000) (o b n : Int) (wo : (Lit.int .i64 o).wf = true) (A : Nat → Addr) (w : World) (hL : ChLaid8 w A) (h : PCb sb F w cb C g) :
    Calls Tryz.prog 65 #[.pointer (some ⟨cb, 0, none⟩), .int .i64 o, .int .i64 b, .int .i64 n] w (CbEnd sb F cb g (C.unstake o b n) (C.s.leaveC o b n C.cyc) A w) := by
  obtain ⟨tag, pb, kb, xs, hf, h⟩ := h
  have c1 := h.c1
  have c4 := h.c4
  have wc : (Lit.int .i64 (C.cyc : Int)).wf = true := small_wf _ (by omega) (by have := hb.y; omega)
  have hd : PChAt tag w.drew cb pb sb kb xs C g := h.keptP ((KeptP.refl (fun _ => False) w).drew) fun _ q => q.elim
  have nt1 : ¬ tag cb = 3 := by rw [h.tc]; decide
  have P := ps_leave (fun k => tag k = 3) sb C.s hC.s g (by omega) o b n C.cyc wo wc A w.drew (hL.below (below_drewN (Below.refl _ _) 1)).stk hd.s
  have H := hide hd
  clear h hd
  go_enter Tryz.func65, Tryz.ntmps65
  go_wp2_with fail
  go_region_held3 (fun w' => w'.cell? ⟨cb, 1, none⟩ = some (.pointer (some ⟨sb, 0, none⟩)) ∧ w'.cell? ⟨cb, 4, none⟩ = some (.int .i64 C.cyc)) (exact ⟨by assumption, by assumption⟩)
    (first
      | (go_at_call 130; refine P.mono ?_; rintro e w5 ⟨ev, G, rfl, hE, hS, hM⟩; have d1 : w5.cell? ⟨cb, 1, none⟩ = some (.pointer (some ⟨sb, 0, none⟩)) := hM.kept.old c1 nt1; have d4 : w5.cell? ⟨cb, 4, none⟩ = some (.int .i64 C.cyc) := hM.kept.old c4 nt1))
  go_wp2_with fail
  go_ret
  obtain ⟨F', h1, h2⟩ := H.out.sk hf hS hM (by omega) (by omega)
  exact ⟨ev, F', rfl, hE, h1, moved_drew h2⟩
set_option maxRecDepth 100000 in
theorem pcb_accuse {sb : Nat} (F : Nat → Prop) (cb : Nat) (C : Ch) (hC : C.Ok) (hb : C.Few) (g : Nat) (hg : g ≤ 850000) (o b y m : Int) (_wo : (Lit.int .i64 o).wf = true) (wb : (Lit.int .i64 b).wf = true) (wy : (Lit.int .i64 y).wf = true) (wm : (Lit.int .i64 m).wf = true) (A : Nat → Addr) (w : World) (hL : ChLaid w A) (h : PCb sb F w cb C g) :
    Calls Tryz.prog 67 #[.pointer (some ⟨cb, 0, none⟩), .int .i64 o, .agg #[.int .i64 b, .int .i64 y, .int .i64 m]] w (CbEnd sb F cb g (C.accuse o (b, y, m)) (C.c.accC o (b, y, m) C.cyc) A w) := by
  obtain ⟨tag, pb, kb, xs, hf, h⟩ := h
  have wc : (Lit.int .i64 (C.cyc : Int)).wf = true := small_wf _ (by omega) (by have := hb.y; omega)
  have B : Below w.heap.size w (w.alloc (.cells #[.int .i64 b, .int .i64 y, .int .i64 m] 91)) := (Below.refl _ _).alloc (Nat.le_refl _) _
  have B1 : Below w.heap.size w (w.alloc (.cells #[.int .i64 b, .int .i64 y, .int .i64 m] 91)).drew := below_drewN B 1
  have h1 := h.below B1
  have c2 := h1.c2
  have c4 := h1.c4
  have tc0 := h1.tc
  have e0 : (w.alloc (.cells #[.int .i64 b, .int .i64 y, .int .i64 m] 91)).cell? ⟨w.heap.size, 0, none⟩ = some (.int .i64 b) := by simp
  have e1 : (w.alloc (.cells #[.int .i64 b, .int .i64 y, .int .i64 m] 91)).cell? ⟨w.heap.size, 1, none⟩ = some (.int .i64 y) := by simp
  have e2 : (w.alloc (.cells #[.int .i64 b, .int .i64 y, .int .i64 m] 91)).cell? ⟨w.heap.size, 2, none⟩ = some (.int .i64 m) := by simp
  have te : ¬ tag w.heap.size = 4 := fun q => by have := h.lt w.heap.size (by rw [q]; decide); omega
  have P := pc_acc (fun k => tag k = 4) kb C.c hC.c (by have := hb.l; omega) g (by omega) o b y m C.cyc wb wy wm wc A _ (hL.below B1).ct h1.c
  have nt1 : ¬ tag cb = 4 := by rw [h.tc]; decide
  have H := hide h1
  have W := hide B1
  clear h h1 B B1
  go_enter Tryz.func67, Tryz.ntmps67
  go_wp2_with fail
  generalize hn : w.heap.size = nb at *
  generalize w.alloc (.cells #[.int .i64 b, .int .i64 y, .int .i64 m] 91) = w1 at *
  go_region_held3 (fun w' => w'.cell? ⟨cb, 2, none⟩ = some (.pointer (some ⟨kb, 0, none⟩)) ∧ w'.cell? ⟨cb, 4, none⟩ = some (.int .i64 C.cyc) ∧ w'.cell? ⟨nb, 0, none⟩ = some (.int .i64 b) ∧ w'.cell? ⟨nb, 1, none⟩ = some (.int .i64 y) ∧ w'.cell? ⟨nb, 2, none⟩ = some (.int .i64 m)) (exact ⟨by assumption, by assumption, by assumption, by assumption, by assumption⟩)
    (first
      | (go_at_call 131; refine P.mono ?_; rintro e w5 ⟨ev, G, rfl, hE, hS, hM⟩; have d2 : w5.cell? ⟨cb, 2, none⟩ = some (.pointer (some ⟨kb, 0, none⟩)) := hM.kept.old c2 nt1; have d4 : w5.cell? ⟨cb, 4, none⟩ = some (.int .i64 C.cyc) := hM.kept.old c4 nt1; have q0 : w5.cell? ⟨nb, 0, none⟩ = some (.int .i64 b) := hM.kept.old e0 te; have q1 : w5.cell? ⟨nb, 1, none⟩ = some (.int .i64 y) := hM.kept.old e1 te; have q2 : w5.cell? ⟨nb, 2, none⟩ = some (.int .i64 m) := hM.kept.old e2 te))
  go_wp2_with fail
  go_ret
  obtain ⟨F', h1, h2⟩ := H.out.ct hf hS hM (by omega) (by omega)
  refine ⟨ev, F', rfl, hE, h1, ?_⟩
  have := W.out
  exact ⟨(KeptP.of_below (F := F) (hn ▸ this)).trans h2.kept fun _ _ q => q, fun k hk q => h2.old k (Nat.lt_of_lt_of_le hk (hn ▸ this.size)) q⟩
theorem Ch.stake_parts (C : Ch) (o b n : Int) : { C with p := (C.stake o b n).p, s := (C.stake o b n).s } = C.stake o b n := by
  unfold Ch.stake
  split <;> rfl
theorem Ch.free_parts (C : Ch) (o : Int) : { C with p := (C.free o).p, s := (C.free o).s } = C.free o := by
  unfold Ch.free
  split <;> rfl
set_option maxRecDepth 100000 in
set_option maxHeartbeats 1000000 in
theorem pcb_stake {sb : Nat} (F : Nat → Prop) (cb : Nat) (C : Ch) (hC : C.Ok) (_hb : C.Few) (g : Nat) (hg : g ≤ 850000) (o b n : Int) (wo : (Lit.int .i64 o).wf = true) (A : Nat → Addr) (w : World) (hL : ChLaid8 w A) (h : PCb sb F w cb C g) :
    Calls Tryz.prog 63 #[.pointer (some ⟨cb, 0, none⟩), .int .i64 o, .int .i64 b, .int .i64 n] w (CbEnd sb F cb g (C.stake o b n) (C.stakeC o b n) A w) := by
  obtain ⟨tag, pb, kb, xs, hf, h⟩ := h
  have c0 := h.c0
  have c1 := h.c1
  have P := bks_stake _ pb sb C hC.p hC.s g hg o b n wo A w hL h.bks
  have H := hide h
  clear h
  go_enter Tryz.func63, Tryz.ntmps63
  go_wp2_with fail
  refine P.mono ?_
  rintro e w1 ⟨ev, G, rfl, hE, hb, hM⟩
  obtain ⟨F', h1, h2⟩ := H.out.bk hf hb hM (by omega) (C.stake_parts o b n)
  clear P H hb hM c0 c1
  go_wp2_with fail
  go_ret
  exact ⟨ev, F', rfl, hE, h1, h2⟩
set_option maxRecDepth 100000 in
set_option maxHeartbeats 1000000 in
theorem pcb_free {sb : Nat} (F : Nat → Prop) (cb : Nat) (C : Ch) (hC : C.Ok) (hb : C.Few) (g : Nat) (hg : g ≤ 850000) (o : Int) (wo : (Lit.int .i64 o).wf = true) (A : Nat → Addr) (w : World) (hL : ChLaid8 w A) (h : PCb sb F w cb C g) :
    Calls Tryz.prog 71 #[.pointer (some ⟨cb, 0, none⟩), .int .i64 o] w (CbEndN sb F cb g (C.free o) (C.s.freeN o C.cyc) (C.s.freeC o C.cyc) A w) := by
  obtain ⟨tag, pb, kb, xs, hf, h⟩ := h
  have c0 := h.c0
  have c1 := h.c1
  have c4 := h.c4
  have wc : (Lit.int .i64 (C.cyc : Int)).wf = true := small_wf _ (by omega) (by have := hb.y; omega)
  have hd : PChAt tag w.drew cb pb sb kb xs C g := h.keptP ((KeptP.refl (fun _ => False) w).drew) fun _ q => q.elim
  have nt1 : ¬ bksOwn pb (fun k => tag k = 3) cb := fun q => by rcases h.own cb q with e | e <;> (rw [h.tc] at e; cases e)
  have P := bks_free _ pb sb C hC (by have := hb.k; omega) g hg o wo wc A w.drew (hL.below (below_drewN (Below.refl w.heap.size w) 1)) hd.bks
  have H := hide hd
  clear h hd
  go_enter Tryz.func71, Tryz.ntmps71
  go_wp2_with fail
  go_region_held3 (fun w' => w'.cell? ⟨cb, 0, none⟩ = some (.pointer (some ⟨pb, 0, none⟩)) ∧ w'.cell? ⟨cb, 1, none⟩ = some (.pointer (some ⟨sb, 0, none⟩)) ∧ w'.cell? ⟨cb, 4, none⟩ = some (.int .i64 C.cyc)) (exact ⟨by assumption, by assumption, by assumption⟩)
    (first
      | (go_at_call 134; refine P.mono ?_; rintro e w5 ⟨ev, G, rfl, hE, hb5, hM⟩; have d0 : w5.cell? ⟨cb, 0, none⟩ = some (.pointer (some ⟨pb, 0, none⟩)) := hM.kept.old c0 nt1; have d1 : w5.cell? ⟨cb, 1, none⟩ = some (.pointer (some ⟨sb, 0, none⟩)) := hM.kept.old c1 nt1; have d4 : w5.cell? ⟨cb, 4, none⟩ = some (.int .i64 C.cyc) := hM.kept.old c4 nt1))
  obtain ⟨F', h1, h2⟩ := H.out.bk hf hb5 hM (by omega) (C.free_parts o)
  clear P H hb5 hM c0 c1 c4 d0 d1 d4
  go_wp2_with fail
  go_ret2
  exact ⟨ev, F', rfl, hE, h1, moved_drew h2⟩
end Go.Proofs.YtmbfdhekplnoaaaGreatDoor

namespace Go.Proofs.YtmbfdhekplnoaaaGreatDoor
open Go.RowKit

theorem weight_of (n : Int) (w : World) :
    Calls Tryz.prog 201 #[.int .i64 n] w fun e w' => e = .returned (.int .i64 (wtOf n)) ∧ w' = w := by
  by_cases h0 : n < 100
  · have e : Hid (wtOf n = 0) := if_pos h0
    go_enter Tryz.func201, Tryz.ntmps201
    go_wp2
    go_ret
    exact ⟨ret_int e.out.symm, rfl⟩
  · by_cases h1 : 1073741824 < n
    · have e : Hid (wtOf n = 1073741824) := (if_neg h0).trans (if_pos h1)
      go_enter Tryz.func201, Tryz.ntmps201
      go_wp2
      go_ret
      exact ⟨ret_int (by rw [e.out]; omega), rfl⟩
    · have e : Hid (wtOf n = n) := (if_neg h0).trans (if_neg h1)
      go_enter Tryz.func201, Tryz.ntmps201
      go_wp2
      go_ret
      exact ⟨ret_int (by rw [e.out]; omega), rfl⟩
set_option maxRecDepth 100000 in
set_option maxHeartbeats 1000000 in
theorem pr_picture (F : Nat → Prop) (sb : Nat) (S : Sk) (hS : S.Ok) (g : Nat) (w : World) (h : PSk F w sb S g) :
    Calls Tryz.prog 126 #[.pointer (some ⟨sb, 0, none⟩)] w fun e w' => ∃ m cap, e = .returned (.slice (some ⟨m, 0, none⟩) 3 cap) ∧ (w.heap.size ≤ m ∧ m < w'.heap.size) ∧ Ints w' m 0 3 S.pic ∧ Below w.heap.size w w' := by
  have mk := make_tri
  have R := RowTo.new w 3 3 S.pic
  have B0 : Below w.heap.size w (w.alloc (.cells (noughts 3) 3)) := (Below.refl _ _).alloc (Nat.le_refl _) _
  go_enter Tryz.func126, Tryz.ntmps126
  go_wp2
  go_loopw [11] (fun i wr => ∃ k : Nat, k ≤ 3 ∧ i = .int .i64 k ∧ RowTo wr w.heap.size 3 k S.pic ∧ Below w.heap.size w wr) (fun i _ => 3 - (intOf i).toNat)
  case atStart => exact ⟨0, Nat.zero_le _, rfl, R, B0⟩
  case round =>
    obtain ⟨k, hk, rfl, Rk, B⟩ := hrel
    clear R B0
    by_cases hlt : k < 3
    · have P := h.keptP (KeptP.of_below (F := fun _ => False) B) (fun _ g => g.elim)
      clear h
      go_wp2_with fail
      refine (ps_staked F sb S hS g k wr P).mono ?_
      rintro e w1 ⟨rfl, m, hw⟩
      have R1 : RowTo w1 w.heap.size 3 k S.pic := by rw [hw]; exact Rk.below (below_drewN (Below.refl _ _) m)
      have B1 : Below w.heap.size w w1 := by rw [hw]; exact below_drewN B m
      clear hw Rk B P
      go_wp2_with fail
      refine (weight_of _ w1).mono ?_
      rintro e w2 ⟨rfl, hw⟩
      obtain rfl := hw.symm
      have c1 := R1.c k hlt
      have f1 := R1.f k
      have R2 := R1.next (x := wtOf (S.P k).T) hlt (fun _ _ => rfl) rfl
      have B2 := B1.setCell (p := ⟨w.heap.size, k, none⟩) (Nat.le_refl _) (.int .i64 (wtOf (S.P k).T))
      clear R1 B1
      go_wp2_with fail
      go_roundw
      case rel => exact ⟨k + 1, by omega, by go_num, R2, B2⟩
      case measure => simp [intOf]; omega
    · obtain rfl : k = 3 := by omega
      have lt := Rk.lt
      have I := Rk.all
      clear Rk
      go_wp2_with fail
      go_ret
      exact ⟨_, _, rfl, ⟨Nat.le_refl _, lt⟩, I, B⟩
end Go.Proofs.YtmbfdhekplnoaaaGreatDoor

namespace Go.Proofs.YtmbfdhekplnoaaaGreatDoor
open Go.RowKit

theorem PChAt.num {tag : Nat → Nat} {w : World} {cb pb sb kb g : Nat} {xs : Nat → Value} {C : Ch} (h : PChAt tag w cb pb sb kb xs C g) (cy lv : Nat) (bo : Int) (ps : List (Nat → Int)) (hps : ps.drop cy = C.pics.drop C.cyc) (i : Nat) (x : Int) (hi : (i = 4 ∧ x = cy ∧ lv = C.lev ∧ bo = C.bon) ∨ (i = 5 ∧ x = lv ∧ cy = C.cyc ∧ bo = C.bon) ∨ (i = 6 ∧ x = bo ∧ cy = C.cyc ∧ lv = C.lev)) :
    PChAt tag (w.setCell ⟨cb, i, none⟩ (.int .i64 x)) cb pb sb kb xs { C with cyc := cy, lev := lv, bon := bo, pics := ps } g := by
  have hK : KeptP (fun k => tag k = 1) w (w.setCell ⟨cb, i, none⟩ (.int .i64 x)) := KeptP.setCell (F := fun k => tag k = 1) (KeptP.refl _ _) (p := ⟨cb, i, none⟩) h.tc _
  have np : ¬ tag pb = 1 := by rw [h.tp]; decide
  have far : ∀ {j : Nat} {u : Value}, j ≠ i → w.cell? ⟨cb, j, none⟩ = some u → (w.setCell ⟨cb, i, none⟩ (.int .i64 x)).cell? ⟨cb, j, none⟩ = some u := fun {j u} ne e => by
    rw [World.cell?_setCell_other _ _ _ _ (fun z => absurd (congrArg Addr.off z) (fun z => ne z.symm))]; exact e
  have hi' : i = 4 ∨ i = 5 ∨ i = 6 := by omega
  exact { c0 := far (by omega) h.c0, c1 := far (by omega) h.c1, c2 := far (by omega) h.c2, c3 := far (by omega) h.c3
          c4 := by
            rcases hi with ⟨rfl, rfl, _⟩ | ⟨rfl, _, rfl, _⟩ | ⟨rfl, _, rfl, _⟩
            · exact World.cell?_setCell_same _ _ _ h.c4
            · exact far (by omega) h.c4
            · exact far (by omega) h.c4
          c5 := by
            rcases hi with ⟨rfl, _, rfl, _⟩ | ⟨rfl, rfl, _⟩ | ⟨rfl, _, _, rfl⟩
            · exact far (by omega) h.c5
            · exact World.cell?_setCell_same _ _ _ h.c5
            · exact far (by omega) h.c5
          c6 := by
            rcases hi with ⟨rfl, _, _, rfl⟩ | ⟨rfl, _, _, rfl⟩ | ⟨rfl, rfl, _⟩
            · exact far (by omega) h.c6
            · exact far (by omega) h.c6
            · exact World.cell?_setCell_same _ _ _ h.c6
          c7 := far (by omega) h.c7, c8 := far (by omega) h.c8, c9 := far (by omega) h.c9
          f := fun j => by rw [World.frozen?_setCell]; exact h.f j
          p := ⟨⟨fun i hi => hK.old (h.p.raw.s i hi) np, hK.old h.p.raw.c6 np, fun i => by rw [hK.frozen (p := ⟨pb, i, none⟩) h.p.lt np]; exact h.p.raw.f i⟩, h.p.ok⟩
          s := h.s.keptP hK fun k q e => by rw [q] at e; cases e
          c := h.c.keptP hK fun k q e => by rw [q] at e; cases e
          pics := by
            show PicsAt tag _ xs (ps.drop cy)
            rw [hps]
            exact h.pics.keptP hK (fun k e q => by rw [q] at e; cases e)
          tc := h.tc, tp := h.tp
          lt := fun k hk => Nat.lt_of_lt_of_le (h.lt k hk) hK.size
          vin := fun k hk => Nat.lt_of_lt_of_le (h.vin k hk) hK.size, vs := h.vs }
def nextOf (S : Sk) (W : Nat → Int) : Nat → Int := if sumTo S.pic 3 ≠ 0 then S.pic else W
theorem PChAt.shifted {tag : Nat → Nat} {w wx : World} {cb pb sb kb g m cap : Nat} {xs : Nat → Value} {C : Ch} {Wn : Nat → Int} {ps : List (Nat → Int)} (h : PChAt tag w cb pb sb kb xs C g) (hB : Below w.heap.size w wx)
    (hm : tag m = 6 ∨ w.heap.size ≤ m) (hmx : m < wx.heap.size) (I : Ints wx m 0 3 Wn) (hps : ∀ i, i < 3 → (ps.drop C.cyc)[i]? = if i = 2 then some Wn else (C.pics.drop C.cyc)[i + 1]?) :
    ∃ tag', PChAt tag' (((wx.setCell ⟨cb, 7, none⟩ (xs 1)).setCell ⟨cb, 8, none⟩ (xs 2)).setCell ⟨cb, 9, none⟩ (.slice (some ⟨m, 0, none⟩) 3 cap)) cb pb sb kb (fun i => if i = 2 then .slice (some ⟨m, 0, none⟩) 3 cap else xs (i + 1)) { C with pics := ps } g ∧ (∀ k, k < w.heap.size → tag' k ≠ 0 → tag k ≠ 0) ∧
      KeptP (fun k => tag k ≠ 0) w (((wx.setCell ⟨cb, 7, none⟩ (xs 1)).setCell ⟨cb, 8, none⟩ (xs 2)).setCell ⟨cb, 9, none⟩ (.slice (some ⟨m, 0, none⟩) 3 cap)) := by
  have hsz := hB.size
  have K6 : KeptP (fun k => tag k = 1) w wx := KeptP.of_below hB
  have K7 : KeptP (fun k => tag k = 1) w (((wx.setCell ⟨cb, 7, none⟩ (xs 1)).setCell ⟨cb, 8, none⟩ (xs 2)).setCell ⟨cb, 9, none⟩ (.slice (some ⟨m, 0, none⟩) 3 cap)) := ((K6.setCell (p := ⟨cb, 7, none⟩) h.tc _).setCell (p := ⟨cb, 8, none⟩) h.tc _).setCell (p := ⟨cb, 9, none⟩) h.tc _
  have lcb : cb < w.heap.size := cell_lt h.c0
  have mcb : m ≠ cb := fun e => by
    rcases hm with a | a
    · rw [e, h.tc] at a; cases a
    · omega
  have far : ∀ k, w.heap.size ≤ k → tag k = 0 := fun k l => by
    rcases Nat.eq_zero_or_pos (tag k) with e | e
    · exact e
    · have := h.lt k (by omega); omega
  have ne : ∀ {i j : Nat}, i ≠ j → (⟨cb, i, none⟩ : Addr) ≠ ⟨cb, j, none⟩ := fun n z => n (congrArg Addr.off z)
  have old : ∀ {j : Nat} {u : Value}, j < 7 → w.cell? ⟨cb, j, none⟩ = some u → (((wx.setCell ⟨cb, 7, none⟩ (xs 1)).setCell ⟨cb, 8, none⟩ (xs 2)).setCell ⟨cb, 9, none⟩ (.slice (some ⟨m, 0, none⟩) 3 cap)).cell? ⟨cb, j, none⟩ = some u := fun {j u} l e => by
    rw [World.cell?_setCell_other _ _ _ _ (ne (by omega)), World.cell?_setCell_other _ _ _ _ (ne (by omega)), World.cell?_setCell_other _ _ _ _ (ne (by omega))]
    exact was_cellP hB e
  have np : ¬ tag pb = 1 := by rw [h.tp]; decide
  let tag' : Nat → Nat := fun k => if k = m then 6 else tag k
  have other : ∀ {u k}, u ≠ 0 → u ≠ 6 → tag k = u → tag' k = u := fun {u k} u0 u6 e => by
    have n1 : k ≠ m := fun z => by
      rcases hm with a | a
      · rw [z, a] at e; exact u6 e.symm
      · rw [z, far m a] at e; exact u0 e.symm
    show (if k = m then 6 else tag k) = u
    rw [if_neg n1, e]
  have back : ∀ {u k}, u ≠ 6 → tag' k = u → tag k = u := fun {u k} u6 e => by
    have e : (if k = m then 6 else tag k) = u := e
    split at e
    · exact absurd e.symm u6
    · exact e
  have same : ∀ {u}, u ≠ 0 → u ≠ 6 → (fun k => tag' k = u) = (fun k => tag k = u) := fun {u} u0 u6 => funext fun k => propext ⟨back u6, other u0 u6⟩
  have six : ∀ k, tag k = 6 → tag' k = 6 := fun k e => by
    show (if k = m then 6 else tag k) = 6
    split
    · rfl
    · exact e
  have nz : ∀ k, tag' k ≠ 0 → k = m ∨ tag k ≠ 0 := fun k hk => by
    by_cases z : k = m
    · exact .inl z
    · have hk : (if k = m then 6 else tag k) ≠ 0 := hk
      rw [if_neg z] at hk
      exact .inr hk
  have sz7 : (((wx.setCell ⟨cb, 7, none⟩ (xs 1)).setCell ⟨cb, 8, none⟩ (xs 2)).setCell ⟨cb, 9, none⟩ (.slice (some ⟨m, 0, none⟩) 3 cap)).heap.size = wx.heap.size := by simp [World.setCell]
  have mI : ∀ j, j < 3 → (((wx.setCell ⟨cb, 7, none⟩ (xs 1)).setCell ⟨cb, 8, none⟩ (xs 2)).setCell ⟨cb, 9, none⟩ (.slice (some ⟨m, 0, none⟩) 3 cap)).cell? ⟨m, 0 + j, none⟩ = some (.int .i64 (Wn j)) := fun j hj => by
    rw [World.cell?_setCell_other _ _ _ _ (fun z => mcb (congrArg Addr.block z).symm), World.cell?_setCell_other _ _ _ _ (fun z => mcb (congrArg Addr.block z).symm), World.cell?_setCell_other _ _ _ _ (fun z => mcb (congrArg Addr.block z).symm)]
    exact I j hj
  refine ⟨tag', ?_, fun k hk e => ?_, K7.mono fun k _ e => by rw [e]; decide⟩
  · exact { c0 := old (by omega) h.c0, c1 := old (by omega) h.c1, c2 := old (by omega) h.c2, c3 := old (by omega) h.c3, c4 := old (by omega) h.c4, c5 := old (by omega) h.c5, c6 := old (by omega) h.c6
            c7 := by
              rw [World.cell?_setCell_other _ _ _ _ (ne (by omega)), World.cell?_setCell_other _ _ _ _ (ne (by omega))]
              exact World.cell?_setCell_same _ _ _ (was_cellP hB h.c7)
            c8 := by
              rw [World.cell?_setCell_other _ _ _ _ (ne (by omega))]
              have q : (wx.setCell ⟨cb, 7, none⟩ (xs 1)).cell? ⟨cb, 8, none⟩ = some (xs 1) := by
                rw [World.cell?_setCell_other _ _ _ _ (ne (by omega))]
                exact was_cellP hB h.c8
              exact World.cell?_setCell_same _ _ _ q
            c9 := by
              have q : ((wx.setCell ⟨cb, 7, none⟩ (xs 1)).setCell ⟨cb, 8, none⟩ (xs 2)).cell? ⟨cb, 9, none⟩ = some (xs 2) := by
                rw [World.cell?_setCell_other _ _ _ _ (ne (by omega)), World.cell?_setCell_other _ _ _ _ (ne (by omega))]
                exact was_cellP hB h.c9
              exact World.cell?_setCell_same _ _ _ q
            f := fun i => by rw [World.frozen?_setCell, World.frozen?_setCell, World.frozen?_setCell, hB.frozen (p := ⟨cb, i, none⟩) lcb]; exact h.f i
            p := ⟨⟨fun i hi => K7.old (h.p.raw.s i hi) np, K7.old h.p.raw.c6 np, fun i => by rw [K7.frozen (p := ⟨pb, i, none⟩) h.p.lt np]; exact h.p.raw.f i⟩, h.p.ok⟩
            s := by rw [same (by decide) (by decide)]; exact h.s.keptP K7 fun k e z => by rw [e] at z; cases z
            c := by rw [same (by decide) (by decide)]; exact h.c.keptP K7 fun k e z => by rw [e] at z; cases z
            pics := ⟨fun i W hi hW => by
              have hW : (ps.drop C.cyc)[i]? = some W := hW
              rw [hps i hi] at hW
              by_cases e2 : i = 2
              · rw [if_pos e2] at hW
                cases hW
                exact ⟨m, cap, if_pos e2, if_pos rfl, mI⟩
              · rw [if_neg e2] at hW
                obtain ⟨m1, cap1, e, t1, I1⟩ := h.pics.one (i + 1) W (by omega) hW
                have n1 : ¬ tag m1 = 1 := by rw [t1]; decide
                exact ⟨m1, cap1, (if_neg e2).trans e, six m1 t1, fun j hj => K7.old (I1 j hj) n1⟩⟩
            tc := other (by decide) (by decide) h.tc, tp := other (by decide) (by decide) h.tp
            lt := fun k hk => by
              rw [sz7]
              rcases nz k hk with z | z
              · omega
              · have := h.lt k z; omega
            vin := fun k hk => by rw [sz7]; have := h.vin k hk; omega
            vs := fun k hk z => by
              have lz := h.vin k z
              rcases nz k hk with y | y
              · rcases hm with a | a
                · exact h.vs k (by rw [y, a]; decide) z
                · omega
              · exact h.vs k y z }
  · rcases nz k e with z | z
    · rcases hm with a | a
      · rw [z, a]; decide
      · omega
    · exact z
def maxTo (W : Nat → Int) : Nat → Int
  | 0 => W 0
  | k + 1 => max (maxTo W k) (W (k + 1))
set_option maxRecDepth 100000 in
set_option maxHeartbeats 1000000 in
theorem max_three (m cap : Nat) (W : Nat → Int) (w : World) (I : Ints w m 0 3 W) :
    Calls Tryz.prog 291 #[.slice (some ⟨m, 0, none⟩) 3 cap] w fun e w' => e = .returned (.int .i64 (maxTo W 2)) ∧ w' = w := by
  have c0 := I 0 (by omega)
  rw [Nat.zero_add] at c0
  go_enter Tryz.func291, Tryz.ntmps291
  go_wp2_with fail
  go_loopw [3, 4] (fun s i wr => ∃ k : Nat, k ≤ 2 ∧ i = .int .i64 ((k : Int) + 1) ∧ s = .int .i64 (maxTo W k) ∧ wr = w) (fun _ i _ => 3 - (intOf i).toNat)
  case atStart => exact ⟨0, by omega, rfl, rfl, rfl⟩
  case round =>
    obtain ⟨k, hk, rfl, rfl, hwr⟩ := hrel
    obtain rfl := hwr.symm
    clear hwr
    by_cases hlt : k < 2
    · have ck := I (k + 1) (by omega)
      rw [Nat.zero_add] at ck
      have k3 : (k : Int) + 1 < 3 := by omega
      have E1 := hide (show maxTo W (k + 1) = max (maxTo W k) (W (k + 1)) from rfl)
      clear I c0
      generalize W (k + 1) = q at *
      generalize maxTo W k = p at *
      go_wp2_with fail
      go_roundw
      case rel => exact ⟨k + 1, by omega, by go_num, by first | (rw [E1.out]; done) | (rw [E1.out]; congr 1; omega), by first | rfl | trivial⟩
      case measure => simp [intOf]; omega
    · obtain rfl : k = 2 := by omega
      have k3 : ¬ ((2 : Nat) : Int) + 1 < 3 := by omega
      clear I c0
      generalize hp : maxTo W 2 = p at *
      go_wp2_with fail
      go_ret
      exact ⟨rfl, rfl⟩
theorem maxTo_zero {W : Nat → Int} (h0 : 0 ≤ W 0) (h1 : 0 ≤ W 1) (h2 : 0 ≤ W 2) : maxTo W 2 = 0 ↔ sumTo W 3 = 0 := by
  show max (max (W 0) (W 1)) (W 2) = 0 ↔ 0 + W 0 + W 1 + W 2 = 0
  omega
end Go.Proofs.YtmbfdhekplnoaaaGreatDoor

namespace Go.Proofs.YtmbfdhekplnoaaaGreatDoor
open Go.RowKit

theorem Tryz.picSize : (Tryz.prog.info? 35).map (·.size) = some 1 := by kernel_rfl
theorem copied {w : World} {cb m1 m2 cap1 cap2 : Nat} {x0 : Value} (a7 : w.cell? ⟨cb, 7, none⟩ = some x0) (a8 : w.cell? ⟨cb, 8, none⟩ = some (.slice (some ⟨m1, 0, none⟩) 3 cap1)) (a9 : w.cell? ⟨cb, 9, none⟩ = some (.slice (some ⟨m2, 0, none⟩) 3 cap2)) (f : ∀ i, w.frozen? ⟨cb, i, none⟩ = false) (ty : TypeId) :
    (Builtin.copy_ #[62, 62] ty #[.slice (some ⟨cb, 7, none⟩) 3 3, .slice (some ⟨cb, 8, none⟩) 2 2]).run Tryz.prog w = .ok (goInt 2) ((w.setCell ⟨cb, 7, none⟩ (.slice (some ⟨m1, 0, none⟩) 3 cap1)).setCell ⟨cb, 8, none⟩ (.slice (some ⟨m2, 0, none⟩) 3 cap2)) :=
  run_copy_cells (P := Tryz.prog) w 62 62 ty 35 cb 7 3 3 ⟨cb, 8, none⟩ 2 2 [.slice (some ⟨m1, 0, none⟩) 3 cap1, .slice (some ⟨m2, 0, none⟩) 3 cap2] Tryz.underlying62 Tryz.picSize rfl
    (fun j v h => by
      match j, h with
      | 0, h => cases h; exact a8
      | 1, h => cases h; exact a9)
    (fun j hj => by
      match j, hj with
      | 0, _ => rw [a7]; rfl
      | 1, _ => rw [a8]; rfl)
    (fun j _ => f (7 + j))
    (fun v hv => by
      rcases List.mem_cons.1 hv with rfl | hv
      · rfl
      · rw [List.mem_singleton.1 hv]; rfl)
theorem PChAt.drewN {tag : Nat → Nat} {w : World} {cb pb sb kb g : Nat} {xs : Nat → Value} {C : Ch} (h : PChAt tag w cb pb sb kb xs C g) (n : Nat) : PChAt tag (w.drewN n) cb pb sb kb xs C g := h.keptP ((KeptP.refl (fun _ => False) w).drewN n) fun _ q => q.elim
set_option maxRecDepth 100000 in
set_option maxHeartbeats 2000000 in
theorem pcb_take (tag : Nat → Nat) (cb pb sb kb : Nat) (xs : Nat → Value) (C : Ch) (hS : C.s.Ok) (W : Nat → Int) (hW : (C.pics.drop C.cyc)[2]? = some W) (ps : List (Nat → Int)) (hps : ∀ i, i < 3 → (ps.drop C.cyc)[i]? = if i = 2 then some (nextOf C.s W) else (C.pics.drop C.cyc)[i + 1]?) (g : Nat) (w : World) (h : PChAt tag w cb pb sb kb xs C g) :
    Calls Tryz.prog 261 #[.pointer (some ⟨cb, 0, none⟩)] w fun e w' => ∃ tag' xs', e = .returned (.tuple #[]) ∧ PChAt tag' w' cb pb sb kb xs' { C with pics := ps } g ∧ (∀ k, k < w.heap.size → tag' k ≠ 0 → tag k ≠ 0) ∧ KeptP (fun k => tag k ≠ 0) w w' := by
  have c1 := h.c1
  have P := pr_picture (fun k => tag k = 3) sb C.s hS g w h.s
  have pw := hS.picW
  have p0 := (pw.bd 0 (by omega)).1
  have p1 := (pw.bd 1 (by omega)).1
  have p2 := (pw.bd 2 (by omega)).1
  have mz := maxTo_zero p0 p1 p2
  obtain ⟨m2, cap2, x2, t2, I2⟩ := h.pics.one 2 W (by omega) hW
  have l2 := h.lt m2 (by rw [t2]; decide)
  go_enter Tryz.func261, Tryz.ntmps261
  go_wp2_with fail
  refine P.mono ?_
  rintro e w1 ⟨m, cap, rfl, ⟨hm, hm1⟩, I, hB⟩
  have MX := max_three m cap C.s.pic w1 I
  have h1 := h.below hB
  have H := hide h
  have H1 := hide h1
  clear P c1 p0 p1 p2 pw h
  go_wp2_with fail
  refine MX.mono ?_
  rintro e w1' ⟨rfl, hw⟩
  obtain rfl := hw.symm
  clear hw MX
  have sz2 : 2 < (C.pics.drop C.cyc).length := (List.getElem?_eq_some_iff.1 hW).1
  obtain ⟨W1, hW1⟩ : ∃ W1, (C.pics.drop C.cyc)[1]? = some W1 := ⟨_, List.getElem?_eq_getElem (by omega)⟩
  obtain ⟨m1, cap1, x1, _, _⟩ := H.out.pics.one 1 W1 (by omega) hW1
  have a7 := H1.out.c7
  have a8 := H1.out.c8
  have a9 := H1.out.c9
  rw [x1] at a8
  rw [x2] at a9
  have cp := copied (w := w1.drew) (cb := cb) (x0 := xs 0) (m1 := m1) (m2 := m2) (cap1 := cap1) (cap2 := cap2) a7 a8 a9 (fun i => H1.out.f i)
  have f9 := H1.out.f 9
  have HP := hide hps
  clear sz2 hW1 hW hps hS
  by_cases hz : maxTo C.s.pic 2 = 0
  · have NE := hide (show nextOf C.s W = W from if_neg (not_not_intro (mz.1 hz)))
    clear mz
    generalize maxTo C.s.pic 2 = q at *
    go_wp2_with fail
    go_region
    all_goals
      go_wp2_with fail
      go_end0
      obtain ⟨tag', gF, hold, hK⟩ := H.out.shifted (wx := w1) (m := m2) (cap := cap2) (Wn := nextOf C.s W) (ps := ps) hB (.inl t2) (Nat.lt_of_lt_of_le l2 hB.size) (fun i hi => by rw [NE.out]; exact was_cellP hB (I2 i hi)) HP.out
      rw [x1, x2] at gF hK
      exact ⟨tag', _, rfl, gF.drewN 1, hold, hK.drew⟩
  · have NE := hide (show nextOf C.s W = C.s.pic from if_pos fun z => hz (mz.2 z))
    clear mz
    generalize maxTo C.s.pic 2 = q at *
    go_wp2_with fail
    go_region
    all_goals
      go_wp2_with fail
      go_end0
      obtain ⟨tag', gF, hold, hK⟩ := H.out.shifted (wx := w1) (m := m) (cap := cap) (Wn := nextOf C.s W) (ps := ps) hB (.inr hm) hm1 (fun i hi => by rw [NE.out]; exact I i hi) HP.out
      rw [x1, x2] at gF hK
      exact ⟨tag', _, rfl, gF.drewN 1, hold, hK.drew⟩
end Go.Proofs.YtmbfdhekplnoaaaGreatDoor
