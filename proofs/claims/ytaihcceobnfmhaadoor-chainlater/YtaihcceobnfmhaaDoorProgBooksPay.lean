/-
  The program's books by their contracts: the ratio of what is staked, a block's reward, a case that is judged.
-/
import Derived.Test.YtaihcceobnfmhaaDoorProgBooksActs
namespace Go.Proofs.YtaihcceobnfmhaaDoor
open Go.RowKit

/-- what is staked with the first ones -/
def stakedTo (C : Ch) : Nat → Int
  | 0 => 0
  | k + 1 => stakedTo C k + (C.s.P k).T
theorem stakedTo_three (C : Ch) : stakedTo C 3 = C.staked := by
  show (0 : Int) + (C.s.P ((0 : Nat) : Int)).T + (C.s.P ((1 : Nat) : Int)).T + (C.s.P ((2 : Nat) : Int)).T = _
  unfold Ch.staked
  rw [Int.zero_add]
  rfl
theorem stakedTo_bd {C : Ch} (h : C.Ok) : ∀ k, k ≤ 3 → 0 ≤ stakedTo C k ∧ stakedTo C k ≤ k * 1125899906842624
  | 0, _ => ⟨Int.le_refl _, by show (0 : Int) ≤ _; omega⟩
  | k + 1, hk => by
    have a := stakedTo_bd h k (by omega)
    have b := h.s.P_bd (k : Int)
    show 0 ≤ stakedTo C k + (C.s.P k).T ∧ stakedTo C k + (C.s.P k).T ≤ _
    omega
theorem stakedTo_ratio (C : Ch) : ratioN (stakedTo C 3) C.p.S = C.ratio := by rw [stakedTo_three]; rfl
set_option maxRecDepth 100000 in
set_option maxHeartbeats 1000000 in
theorem bks_ratio (G : Nat → Prop) (pb sb : Nat) (C : Ch) (hC : C.Ok) (g : Nat) (A : Nat → Addr) (w : World) (hL : ChLaid8 w A) (h : BksAt G w pb sb C g) :
    Calls Tryd.prog 56 #[.agg #[.pointer (some ⟨pb, 0, none⟩), .pointer (some ⟨sb, 0, none⟩)]] w fun e w' => e = .returned (.int .i64 C.ratio) ∧ Below w.heap.size w w' := by
  have B : Below w.heap.size w (w.alloc (.cells #[.pointer (some ⟨pb, 0, none⟩), .pointer (some ⟨sb, 0, none⟩)] 39)) := (Below.refl _ _).alloc (Nat.le_refl _) _
  have X := box_new w 39 pb sb
  have h1 := h.below B
  have L1 := hL.below B
  clear h
  go_enter Tryd.func56, Tryd.ntmps56
  go_wp2_with fail
  generalize hn : w.heap.size = nb at *
  generalize w.alloc (.cells #[.pointer (some ⟨pb, 0, none⟩), .pointer (some ⟨sb, 0, none⟩)] 39) = w1 at *
  go_loopw [3, 7] (fun s i wr => ∃ k m : Nat, k ≤ 3 ∧ i = .int .i64 k ∧ s = .int .i64 (stakedTo C k) ∧ wr = w1.drewN m) (fun _ i _ => 3 - (intOf i).toNat)
  case atStart => exact ⟨0, 0, by omega, rfl, rfl, rfl⟩
  case round =>
    obtain ⟨k, m, hk, rfl, rfl, hw⟩ := hrel
    have Br : Below w1.heap.size w1 wr := by rw [hw]; exact below_drewN (Below.refl _ _) _
    have h2 := h1.below Br
    have X2 := X.below Br
    have HW := hide hw
    clear hw
    by_cases hlt : k < 3
    · have e1 := X2.e1
      have S := ps_staked G sb C.s hC.s g (k : Int) wr h2.s
      obtain ⟨a0, a1⟩ := stakedTo_bd hC k (by omega)
      obtain ⟨b0, b1⟩ := hC.s.P_bd (k : Int)
      have E1 := hide (show stakedTo C (k + 1) = stakedTo C k + (C.s.P k).T from rfl)
      have k3 : (k : Int) < 3 := by omega
      clear h2 X2
      generalize (C.s.P (k : Int)).T = q at *
      generalize hp : stakedTo C k = p at *
      have a2 : p ≤ 3377699720527872 := by omega
      clear a1
      go_wp2_with (go_at_call 26; refine S.mono ?_; rintro e w3 ⟨rfl, m1, hw1⟩)
      go_roundw
      case rel => exact ⟨k + 1, m + m1, by omega, by go_num, by rw [E1.out], by rw [HW.out, drewN_twice]⟩
      case measure => simp [intOf]; omega
    · obtain rfl : k = 3 := by omega
      have e0 := X2.e0
      have L2 := L1.below Br
      have S := pu_supply pb C.p wr h2.p
      have R := is_ratio (stakedTo C 3) C.p.S A wr L2.iss
      rw [stakedTo_ratio] at R
      have Bw : Hid (Below nb w wr) := hide (B.trans (Br.mono (hn ▸ B.size)))
      clear h2 X2 h1 X L1 B
      generalize stakedTo C 3 = p at *
      go_wp2_with fail
      refine S.mono ?_
      rintro e w3 ⟨rfl, hw3⟩
      obtain rfl := hw3.symm
      go_wp2_with fail
      refine R.mono ?_
      rintro e w4 ⟨ev, rfl, _, hB4⟩
      go_wp2_with fail
      go_ret
      exact ⟨rfl, by rw [hn]; exact Bw.out.trans (hB4.mono (hn ▸ Bw.out.size))⟩
theorem Pu.grow_burn {x : Pu} (h : x.Ok) {n : Int} (hn : x.growC n = 0) : (x.grow n).burn n = x := by
  have e : x.grow n = ⟨x.s, x.S + n⟩ := if_pos hn
  have am : Amt n ∧ x.S + n ≤ 1125899906842624 := by
    unfold Pu.growC at hn
    split at hn
    · assumption
    · exact absurd hn (by decide)
  have le := h.le
  have c : (⟨x.s, x.S + n⟩ : Pu).burnC n = 0 := by
    unfold Pu.burnC
    rw [if_neg (not_not_intro am.1), if_neg]
    show ¬ x.S + n - x.sum < n
    omega
  rw [e]
  unfold Pu.burn
  rw [if_pos c]
  show (⟨x.s, x.S + n - n⟩ : Pu) = x
  rw [Int.add_sub_cancel]
set_option maxRecDepth 100000 in
set_option maxHeartbeats 2000000 in
theorem bks_reward (G : Nat → Prop) (pb sb : Nat) (C : Ch) (hC : C.Ok) (g : Nat) (hg : g ≤ 880000) (b : Int) (A : Nat → Addr) (w : World) (hL : ChLaid8 w A) (h : BksAt G w pb sb C g) :
    Calls Tryd.prog 35 #[.agg #[.pointer (some ⟨pb, 0, none⟩), .pointer (some ⟨sb, 0, none⟩)], .int .i64 b, .int .i64 C.bon] w fun e w' => ∃ G', e = .returned (.int .i64 (C.bakeN b)) ∧ BksAt G' w' pb sb (C.paid b) (g + 4) ∧ Moved (bksOwn pb G) (bksOwn pb G') w w' := by
  have B : Below w.heap.size w (w.alloc (.cells #[.pointer (some ⟨pb, 0, none⟩), .pointer (some ⟨sb, 0, none⟩)] 39)) := (Below.refl _ _).alloc (Nat.le_refl _) _
  have X := box_new w 39 pb sb
  have e0 := X.e0
  have e1 := X.e1
  have h1 := h.below B
  have L1 := hL.below B
  have M1 : Moved (bksOwn pb G) (bksOwn pb G) w (w.alloc (.cells #[.pointer (some ⟨pb, 0, none⟩), .pointer (some ⟨sb, 0, none⟩)] 39)) := ⟨KeptP.of_below B, fun _ _ q => q⟩
  have nn : ¬ bksOwn pb G w.heap.size := fun q => by have := h.lt _ q; omega
  obtain ⟨rb0, rb1⟩ := hC.rew_bd
  have top := hC.p.top
  have RT := hide (show rateN C.ratio C.bon = C.rate from rfl)
  have RW := hide (show rewardN C.p.S C.rate = C.rew from rfl)
  clear h hL B
  go_enter Tryd.func35, Tryd.ntmps35
  go_wp2_with fail
  generalize hn : w.heap.size = nb at *
  generalize w.alloc (.cells #[.pointer (some ⟨pb, 0, none⟩), .pointer (some ⟨sb, 0, none⟩)] 39) = w1 at *
  refine (bks_ratio G pb sb C hC g A w1 L1 h1).mono ?_
  rintro e w2 ⟨rfl, hB2⟩
  have h2 := h1.below hB2
  have L2 := L1.below hB2
  have X2 := X.below hB2
  have M2 : Moved (bksOwn pb G) (bksOwn pb G) w w2 := M1.trans ⟨KeptP.of_below hB2, fun _ _ q => q⟩
  have R := is_rate C.ratio C.bon A w2 L2.iss
  rw [RT.out] at R
  have H2 := hide h2
  clear h1 L1 X M1 hB2 e0 e1 h2
  go_wp2_with fail
  refine R.mono ?_
  rintro e w3 ⟨ev3, rfl, _, hB3⟩
  have h3 := H2.out.below hB3
  have L3 := L2.below hB3
  have X3 := X2.below hB3
  have M3 : Moved (bksOwn pb G) (bksOwn pb G) w w3 := M2.trans ⟨KeptP.of_below hB3, fun _ _ q => q⟩
  have e0 := X3.e0
  have S := pu_supply pb C.p w3 h3.p
  have W := is_reward C.p.S C.rate A w3 L3.iss
  rw [RW.out] at W
  have H3 := hide h3
  clear R H2 L2 X2 M2 hB3 h3
  go_wp2_with fail
  refine S.mono ?_
  rintro e w3' ⟨rfl, hw3⟩
  obtain rfl := hw3.symm
  clear hw3 S
  go_wp2_with fail
  refine W.mono ?_
  rintro e w4 ⟨ev4, rfl, _, hB4⟩
  have h4 := H3.out.below hB4
  have L4 := L3.below hB4
  have X4 := X3.below hB4
  have M4 : Moved (bksOwn pb G) (bksOwn pb G) w w4 := M3.trans ⟨KeptP.of_below hB4, fun _ _ q => q⟩
  have GR := pu_grow pb C.p hC.p C.rew A w4 L4.pur h4.p
  have H4 := hide h4
  have e4 := X4.e0
  clear W H3 L3 X3 M3 hB4 h4 e0
  go_wp2_with fail
  refine GR.mono ?_
  rintro e w5 ⟨ev5, rfl, hE5, hp5, hK5⟩
  have h5 := H4.out.purse hp5 hK5
  have M45 := H4.out.purseMoved hK5
  have L5 := H4.out.laid L4 M45.kept
  have X5 := X4.keptP M45.kept nn
  have M5 := M4.trans M45
  have e5 := X5.e1
  clear GR H4 hp5 hK5 L4 X4 M45 M4 e4
  by_cases k1 : C.p.S + C.rew ≤ 1125899906842624
  · have gc : C.p.growC C.rew = 0 := if_pos ⟨⟨rb0, by omega⟩, k1⟩
    obtain rfl := hE5.nil gc
    have AD := ps_add G sb C.s hC.s g (by omega) b C.rew A w5 L5.stk h5.s
    have H5 := hide h5
    clear hE5 h5
    go_wp2_with fail
    refine AD.mono ?_
    rintro e w6 ⟨ev6, G6, rfl, hE6, hS, hM⟩
    have h6 := H5.out.stakes hS hM
    have M56 := H5.out.stakesMoved hM
    have L6 := H5.out.laid L5 M56.kept
    have X6 := X5.keptP M56.kept nn
    have M6 := M5.trans M56
    have e6 := X6.e0
    clear AD H5 hS hM L5 X5 M56 M5 e5
    by_cases a0 : C.s.addC b C.rew = 0
    · have py : C.Payable b := ⟨k1, a0⟩
      have PE := hide (show C.paid b = { C with p := C.p.grow C.rew, s := C.s.add b C.rew } from if_pos py)
      have NE := hide (show C.bakeN b = C.rew from if_pos py)
      obtain rfl := hE6.nil a0
      have H6 := hide h6
      clear py a0 hE6 h6
      go_wp2_with fail
      go_ret
      exact ⟨_, ret_int NE.out.symm, by rw [PE.out]; exact H6.out, M6⟩
    · have np : ¬ C.Payable b := fun q => a0 q.2
      have PE := hide (show C.paid b = C from if_neg np)
      have NE := hide (show C.bakeN b = 0 from if_neg np)
      have SE := hide (Sk.add_same a0)
      rw [SE.out] at h6
      obtain ⟨j, rfl⟩ := hE6.err a0
      have BU := pu_burn pb (C.p.grow C.rew) (hC.p.grow C.rew) C.rew A w6 L6.pur h6.p
      have H6 := hide h6
      clear np a0 hE6 h6
      go_wp2_with fail
      refine BU.mono ?_
      rintro e w7 ⟨ev7, rfl, _, hp7, hK7⟩
      have h7 := H6.out.purse hp7 hK7
      have M7 := M6.trans (H6.out.purseMoved hK7)
      rw [Pu.grow_burn hC.p gc] at h7
      have H7 := hide h7
      clear BU h7 hp7 hK7 H6 M6
      go_wp2_with fail
      go_ret
      exact ⟨_, ret_int NE.out.symm, by rw [PE.out]; exact H7.out, M7⟩
  · have np : ¬ C.Payable b := fun q => k1 q.1
    have PE := hide (show C.paid b = C from if_neg np)
    have NE := hide (show C.bakeN b = 0 from if_neg np)
    have gc : C.p.growC C.rew ≠ 0 := by
      unfold Pu.growC
      rw [if_neg (fun q => k1 q.2)]
      decide
    have GE := hide (show C.p.grow C.rew = C.p from if_neg gc)
    rw [GE.out] at h5
    obtain ⟨j, rfl⟩ := hE5.err gc
    have H5 := hide h5
    clear np gc hE5 h5
    go_wp2_with fail
    go_ret
    exact ⟨_, ret_int NE.out.symm, by rw [PE.out]; exact H5.out.more (by omega), M5⟩
theorem pct_is (n : Int) : pctOf n = pct n := rfl
set_option maxRecDepth 100000 in
set_option maxHeartbeats 2000000 in
theorem bks_judge (G : Nat → Prop) (pb sb : Nat) (C : Ch) (hC : C.Ok) (hk : C.s.K.length ≤ 900) (g : Nat) (hg : g ≤ 880000) (t : Cs) (ho : Own t.1) (hr : Bk t.2.1) (wy : (Lit.int .i64 t.2.2.1).wf = true) (wm : (Lit.int .i64 t.2.2.2).wf = true) (A : Nat → Addr) (w : World) (hL : ChLaid8 w A) (h : BksAt G w pb sb C g) :
    Calls Tryd.prog 62 #[.agg #[.pointer (some ⟨pb, 0, none⟩), .pointer (some ⟨sb, 0, none⟩)], .agg #[.int .i64 t.1, .int .i64 t.2.1, .int .i64 t.2.2.1, .int .i64 t.2.2.2]] w fun e w' => ∃ G', e = .returned (.tuple #[]) ∧ BksAt G' w' pb sb (C.judge1 t) (g + 4) ∧ Moved (bksOwn pb G) (bksOwn pb G') w w' := by
  obtain ⟨o, b, y, m⟩ := t
  have B0 : Below w.heap.size w (w.alloc (.cells #[.pointer (some ⟨pb, 0, none⟩), .pointer (some ⟨sb, 0, none⟩)] 39)) := (Below.refl _ _).alloc (Nat.le_refl _) _
  have B1 : Below (w.alloc (.cells #[.pointer (some ⟨pb, 0, none⟩), .pointer (some ⟨sb, 0, none⟩)] 39)).heap.size (w.alloc (.cells #[.pointer (some ⟨pb, 0, none⟩), .pointer (some ⟨sb, 0, none⟩)] 39)) ((w.alloc (.cells #[.pointer (some ⟨pb, 0, none⟩), .pointer (some ⟨sb, 0, none⟩)] 39)).alloc (.cells #[.int .i64 o, .int .i64 b, .int .i64 y, .int .i64 m] 91)) := (Below.refl _ _).alloc (Nat.le_refl _) _
  have B : Below w.heap.size w ((w.alloc (.cells #[.pointer (some ⟨pb, 0, none⟩), .pointer (some ⟨sb, 0, none⟩)] 39)).alloc (.cells #[.int .i64 o, .int .i64 b, .int .i64 y, .int .i64 m] 91)) := B0.trans (B1.mono B0.size)
  have X := (box_new w 39 pb sb).below B1
  have e1 := X.e1
  have sz : (w.alloc (.cells #[.pointer (some ⟨pb, 0, none⟩), .pointer (some ⟨sb, 0, none⟩)] 39)).heap.size = w.heap.size + 1 := by simp
  have k0 : ((w.alloc (.cells #[.pointer (some ⟨pb, 0, none⟩), .pointer (some ⟨sb, 0, none⟩)] 39)).alloc (.cells #[.int .i64 o, .int .i64 b, .int .i64 y, .int .i64 m] 91)).cell? ⟨w.heap.size + 1, 0, none⟩ = some (.int .i64 o) := by rw [← sz]; exact cell_new _ _ _ _ _ _ rfl rfl
  have k1 : ((w.alloc (.cells #[.pointer (some ⟨pb, 0, none⟩), .pointer (some ⟨sb, 0, none⟩)] 39)).alloc (.cells #[.int .i64 o, .int .i64 b, .int .i64 y, .int .i64 m] 91)).cell? ⟨w.heap.size + 1, 1, none⟩ = some (.int .i64 b) := by rw [← sz]; exact cell_new _ _ _ _ _ _ rfl rfl
  have k2 : ((w.alloc (.cells #[.pointer (some ⟨pb, 0, none⟩), .pointer (some ⟨sb, 0, none⟩)] 39)).alloc (.cells #[.int .i64 o, .int .i64 b, .int .i64 y, .int .i64 m] 91)).cell? ⟨w.heap.size + 1, 2, none⟩ = some (.int .i64 y) := by rw [← sz]; exact cell_new _ _ _ _ _ _ rfl rfl
  have k3 : ((w.alloc (.cells #[.pointer (some ⟨pb, 0, none⟩), .pointer (some ⟨sb, 0, none⟩)] 39)).alloc (.cells #[.int .i64 o, .int .i64 b, .int .i64 y, .int .i64 m] 91)).cell? ⟨w.heap.size + 1, 3, none⟩ = some (.int .i64 m) := by rw [← sz]; exact cell_new _ _ _ _ _ _ rfl rfl
  have h1 := h.below B
  have L1 := hL.below B
  have M1 : Moved (bksOwn pb G) (bksOwn pb G) w ((w.alloc (.cells #[.pointer (some ⟨pb, 0, none⟩), .pointer (some ⟨sb, 0, none⟩)] 39)).alloc (.cells #[.int .i64 o, .int .i64 b, .int .i64 y, .int .i64 m] 91)) := ⟨KeptP.of_below B, fun _ _ q => q⟩
  have nn : ¬ bksOwn pb G w.heap.size := fun q => by have := h.lt _ q; omega
  have nn1 : ¬ bksOwn pb G (w.heap.size + 1) := fun q => by have := h.lt _ q; omega
  have pb50 := pct_bd m
  have sc : C.s.slashC b (pct m) = 0 := by
    unfold Sk.slashC
    rw [if_pos (hC.reg b hr), if_pos ⟨pb50.1, by omega⟩]
  have SC := hide sc
  have ls := hC.lost_bd (o, b, y, m)
  have lb0 : 0 ≤ C.s.slashN b y (pct m) := ls.1
  have lb1 : C.s.slashN b y (pct m) ≤ 1125899906842624 := ls.2.2
  clear ls h sc hL B0 B1 B sz
  go_enter Tryd.func62, Tryd.ntmps62
  go_wp2_with fail
  generalize hn : w.heap.size = nb at *
  generalize ((w.alloc (.cells #[.pointer (some ⟨pb, 0, none⟩), .pointer (some ⟨sb, 0, none⟩)] 39)).alloc (.cells #[.int .i64 o, .int .i64 b, .int .i64 y, .int .i64 m] 91)) = w1 at *
  go_region_held3 (fun w' => w'.cell? ⟨nb, 1, none⟩ = some (.pointer (some ⟨sb, 0, none⟩)) ∧ w'.cell? ⟨nb + 1, 1, none⟩ = some (.int .i64 b) ∧ w'.cell? ⟨nb + 1, 2, none⟩ = some (.int .i64 y) ∧ w'.cell? ⟨nb + 1, 3, none⟩ = some (.int .i64 m)) (exact ⟨by assumption, by assumption, by assumption, by assumption⟩)
    (first
      | (go_at_call 77; refine (pc_percent m wm _).mono ?_; rintro e w2 ⟨rfl, hw2⟩; have B2 : Below w1.heap.size w1 w2 := (by rw [hw2]; first | exact Below.refl _ _ | exact below_drewN (Below.refl _ _) 1); have h2 := h1.below B2; have L2 := L1.below B2; have X2 := X.below B2; have f1 := X2.e1; have q1 := was_cellP B2 k1; have q2 := was_cellP B2 k2; have q3 := was_cellP B2 k3; have q0 := was_cellP B2 k0; clear hw2)
      | (go_at_call 76; refine (ps_slash G sb C.s hC.s hk g (by omega) b y (pct m) wy A _ (by first | exact L2.stk | exact (L2.below (below_drewN (Below.refl _ _) 1)).stk) (by first | exact h2.s | exact (h2.drewN 1).s)).mono ?_; rintro e w3 ⟨ev, G3, rfl, hE, hS, hM⟩; have h3 : BksAt G3 w3 pb sb { C with s := C.s.slash b y (pct m) } (g + 4) := (by first | exact h2.stakes hS hM | exact (h2.drewN 1).stakes hS hM); have M3 : Moved (bksOwn pb G) (bksOwn pb G3) w2 w3 := (by first | exact h2.stakesMoved hM | exact moved_drew ((h2.drewN 1).stakesMoved hM)); have L3 := h2.laid L2 M3.kept; have X3 := X2.keptP M3.kept nn; have g1 := X3.e1; have r0 := M3.kept.old (p := ⟨nb + 1, 0, none⟩) q0 nn1; have r1 := M3.kept.old (p := ⟨nb + 1, 1, none⟩) q1 nn1; have r2 := M3.kept.old (p := ⟨nb + 1, 2, none⟩) q2 nn1; have r3 := M3.kept.old (p := ⟨nb + 1, 3, none⟩) q3 nn1))
  obtain rfl := hE.nil SC.out
  have M13 := (M1.trans ⟨KeptP.of_below B2, fun _ _ q => q⟩).trans M3
  have nn3 : ¬ bksOwn pb G3 nb := fun q => nn (M3.old nb (cell_lt f1) q)
  have JE := hide (show C.judge1 (o, b, y, m) = { C with p := (C.p.in' o (C.s.slashN b y (pct m) / 7)).burn (C.s.slashN b y (pct m) - C.s.slashN b y (pct m) / 7), s := C.s.slash b y (pct m) } from rfl)
  clear hE hS hM e1 r1 r2 r3 k0 k1 k2 k3 h1 h2 L1 L2 f1 q0 q1 q2 q3 B2 X X2 M1 M3 g1
  generalize C.s.slashN b y (pct m) = l at *
  have SH := pc_share l (small_wf l (by omega) (by omega)) w3
  have sA : shareA l = l / 7 := if_neg (by omega)
  have sB : shareB l = l - l / 7 := if_neg (by omega)
  rw [sA, sB] at SH
  have H3 := hide h3
  clear sA sB h3
  go_wp2_with fail
  refine SH.mono ?_
  rintro e w4 ⟨rfl, m4, hw4⟩
  have B4 : Below w3.heap.size w3 w4 := by rw [hw4]; exact below_drewN (Below.refl _ _) _
  have h4 := H3.out.below B4
  have L4 := L3.below B4
  have X4 := X3.below B4
  have M14 : Moved (bksOwn pb G) (bksOwn pb G3) w w4 := M13.trans ⟨KeptP.of_below B4, fun _ _ q => q⟩
  have e0 := X4.e0
  have s0 := was_cellP B4 r0
  have I := pu_in pb C.p hC.p o (l / 7) A w4 L4.pur h4.p
  have H4 := hide h4
  clear hw4 SH H3 L3 M13 r0 h4 X3
  go_wp2_with fail
  refine I.mono ?_
  rintro e w5 ⟨ev5, rfl, _, hp5, hK5⟩
  have h5 := H4.out.purse hp5 hK5
  have M45 := H4.out.purseMoved hK5
  have L5 := H4.out.laid L4 M45.kept
  have X5 := X4.keptP M45.kept nn3
  have M15 := M14.trans M45
  have f0 := X5.e0
  have BU := pu_burn pb (C.p.in' o (l / 7)) (hC.p.in' o (l / 7)) (l - l / 7) A w5 L5.pur h5.p
  have H5 := hide h5
  clear I H4 hp5 hK5 L4 X4 M14 M45 e0 s0 h5
  go_wp2_with fail
  refine BU.mono ?_
  rintro e w6 ⟨ev6, rfl, _, hp6, hK6⟩
  have h6 := H5.out.purse hp6 hK6
  have M16 := M15.trans (H5.out.purseMoved hK6)
  have H6 := hide h6
  clear BU hp6 hK6 h6 H5 f0
  go_wp2_with fail
  go_end0
  exact ⟨_, rfl, by rw [JE.out]; exact H6.out, M16⟩
end Go.Proofs.YtaihcceobnfmhaaDoor
