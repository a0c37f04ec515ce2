/-
  A block of the program's chain by whose turn it is; the closed fact 'begun' of package bakehouselaw3.
  A chain, plainly: its first three pictures stay; what is staked at its beginning is taken.
-/
import Derived.Test.YtaihcceobnfmhaaDoorProgChainActsX
import Derived.Test.YtaihcceobnfmhaaDoorProgBkActsX
import Derived.Test.YtaihcceobnfmhaaDoorProgChainEndX
namespace Go.Proofs.YtaihcceobnfmhaaDoor
open Go.RowKit

theorem PCh.nextB {F : Nat → Prop} {w w' : World} {cb g : Nat} {C : Ch} (h : PCh F w cb C g) (k : Below w.heap.size w w') : PCh F w' cb C g := h.keptP (KeptP.of_below (F := fun _ => False) k) fun _ g => g.elim
theorem PCh.drewN {F : Nat → Prop} {w : World} {cb g : Nat} {C : Ch} (h : PCh F w cb C g) (n : Nat) : PCh F (w.drewN n) cb C g := h.nextB (below_drewN (Below.refl _ _) n)
set_option maxRecDepth 100000 in
theorem bakeTurn_yes (F : Nat → Prop) (cb : Nat) (C : Ch) (hC : C.Ok) (hb : C.Few) (g : Nat) (hg : g ≤ 850000) (r : Int) (hr : TurnOk C.cyc C.lev r) (A : Nat → Addr) (w : World) (hL : ChLaid8 w A) (h : PCh F w cb C g) :
    Calls Tryd.prog 8 #[.pointer (some ⟨cb, 0, none⟩), .int .i64 r] w fun e w' => ∃ k, e = .returned (.tuple #[.int .i64 k, .int .i64 (C.bakeN k), .nilIface]) ∧ Turn 3 C.pic C.seed C.cyc C.lev r k ∧ ∃ F', PCh F' w' cb (C.bake k) (g + 2000) ∧ Moved F F' w w' := by
  go_enter Tryd.func8, Tryd.ntmps8
  go_wp2_with fail
  refine (pch_turn F cb C hC hb g r hr A w hL h).mono ?_
  rintro e w1 ⟨k, rfl, hk, hB1⟩
  have h1 := h.nextB hB1
  go_wp2_with fail
  refine (pch_bake_own F cb C hC hb g hg k r hr (fun k' h' => h'.one hk) A w1 (hL.below hB1) h1).mono ?_
  rintro e w2 ⟨ev, F2, rfl, hE, h2, M2⟩
  obtain rfl := hE.nil rfl
  have M0 : Moved F F2 w w2 := Moved.trans (F' := F) ⟨KeptP.of_below hB1, fun _ _ g => g⟩ M2
  have HK := hide hk
  clear hk hE h1 M2
  go_wp2_with fail
  go_ret3
  exact ⟨k, rfl, HK.out, F2, h2, M0⟩
/-- the first block's reward -/
theorem chNew_rew (seed : Nat) : 0 < (chNew seed).rew ∧ (chNew seed).p.S + (chNew seed).rew ≤ 1125899906842624 := by
  have e : (chNew seed).rew = (chNew 0).rew := rfl
  have e2 : (chNew seed).p.S = 60000 := purse0_S
  rw [e, e2]
  decide
theorem stakes0_add : stakes0.addC 0 (chNew 0).rew = 0 ∧ stakes0.addC 1 (chNew 0).rew = 0 ∧ stakes0.addC 2 (chNew 0).rew = 0 := by decide
theorem chNew_pays (seed : Nat) {k : Int} (hk : Bk k) : (chNew seed).bakeN k = (chNew seed).rew := by
  have r := chNew_rew seed
  refine if_pos ⟨r.2, ?_⟩
  have h3 : k = 0 ∨ k = 1 ∨ k = 2 := by have := hk.1; have := hk.2; omega
  show stakes0.addC k (chNew 0).rew = 0
  rcases h3 with rfl | rfl | rfl
  · exact stakes0_add.1
  · exact stakes0_add.2.1
  · exact stakes0_add.2.2
theorem chNew_few (seed : Nat) : (chNew seed).Few := ⟨by show stakes0.K.length ≤ 400; decide, Nat.zero_le _, Nat.zero_le _, Nat.zero_le _⟩
/-- behind the first block -/
theorem chNew_baked (seed : Nat) (hs : seed < W64) (k : Int) : ((chNew seed).bake k).lev = 1 ∧ ((chNew seed).bake k).cyc = 0 ∧ ((chNew seed).bake k).p.S = 60000 + (chNew seed).bakeN k := by
  have p := (chNew seed).paid_same k
  have e1 : ((chNew seed).bake k).lev = 1 := by
    show ((chNew seed).paid k).stepped.lev = 1
    rw [Ch.stepped_lev, p.2.1]; rfl
  have e2 : ((chNew seed).bake k).cyc = 0 := by
    show ((chNew seed).paid k).stepped.cyc = 0
    rw [Ch.stepped_cyc (by rw [p.1, p.2.1]; show (0 : Nat) = 0 / 4; decide), p.2.1]; show (0 + 1) / 4 = 0; decide
  refine ⟨e1, e2, ?_⟩
  have b := ((chNew_ok seed hs).bake k).2.2 (by rw [e2]; rfl)
  rw [b]
  show purse0.S + _ = _
  rw [purse0_S]
theorem Turn.bk {C : Ch} (hC : C.Ok) {r k : Int} (h : Turn 3 C.pic C.seed C.cyc C.lev r k) : Bk k := by
  have t := hC.turn
  obtain ⟨j, rfl, hj, _⟩ := h.heavy t.1 t.2
  exact ⟨by omega, by omega⟩
set_option maxRecDepth 100000 in
set_option maxHeartbeats 1000000 in
theorem begun_of (A : Nat → Addr) (w : World) (hL : ChLaid8 w A) :
    Calls Tryd.prog 4 #[] w fun e w' => e = .returned (.bool true) ∧ Below w.heap.size w w' := by
  have hs : (7 : Nat) < W64 := by decide
  have ok := chNew_ok 7 hs
  have few := chNew_few 7
  have s0 : (chNew 7).p.S = 60000 := purse0_S
  have h0 : (chNew 7).p.s 0 = 9000 := purse0_has
  have PY := hide (fun k => chNew_pays 7 (k := k))
  have RW := hide (chNew_rew 7)
  have BK := hide (chNew_baked 7 hs)
  go_enter Tryd.func4, Tryd.ntmps4
  go_wp2_with fail
  refine (pch_new 7 hs A w hL).mono ?_
  rintro e w1 ⟨cb, F, rfl, h1, hF, hB1⟩
  have m1 := Mine.new hF hB1
  have tr : TurnOk ((chNew 7).cyc : Int) ((chNew 7).lev : Int) 0 := by
    show TurnOk ((0 : Nat) : Int) ((0 : Nat) : Int) 0
    decide
  have y0 : (chNew 7).cyc = 0 := rfl
  generalize chNew 7 = C at *
  have t1 : (C.p.S != 60000) = false := by simp [s0]
  have t2 : (C.p.s 0 != 9000) = false := by simp [h0]
  have t3 : ((C.cyc : Int) != 0) = false := by simp [y0]
  clear s0 h0 y0 hF hB1
  go_wp2_with fail
  refine (pch_supply F cb C _ w1 h1).mono ?_
  rintro e w2 ⟨rfl, hB2⟩
  have h2 := h1.nextB hB2
  have m2 := m1.nextB hB2
  clear h1 m1 hB2
  go_wp2_with fail
  refine (pch_has F cb C ok _ 0 w2 h2).mono ?_
  rintro e w3 ⟨rfl, hB3⟩
  have h3 := h2.nextB hB3
  have m3 := m2.nextB hB3
  clear h2 m2 hB3
  go_wp2_with fail
  refine (pch_cycle F cb C _ w3 h3).mono ?_
  rintro e w4 ⟨rfl, hB4⟩
  have h4 := h3.nextB hB4
  have m4 := m3.nextB hB4
  clear h3 m3 hB4
  go_wp2_with fail
  refine (bakeTurn_yes F cb C ok few 10000 (by omega) 0 tr A w4 (hL.below m4.below) h4).mono ?_
  rintro e w5 ⟨k, rfl, hk, F5, h5, M5⟩
  have m5 := m4.next M5
  have bk := Turn.bk ok hk
  have pk := PY.out k bk
  obtain ⟨q1, _, q3⟩ := BK.out k
  have rw0 := RW.out.1
  rw [← pk] at rw0
  have l1 := RW.out.2
  rw [← pk] at l1
  have sp := ok.pos
  obtain ⟨k0, k3⟩ := bk
  have Q1 := hide q1
  have Q3 := hide q3
  have x1 : ((((C.bake k).lev : Nat) : Int) == 1) = true := by rw [q1]; decide
  have x2 : ((C.bake k).p.S == 60000 + C.bakeN k) = true := by rw [q3]; simp
  clear pk q1 q3 M5 h4 m4 hk t1 t2 t3 tr
  go_wp2_with fail
  refine (pch_level F5 cb _ _ w5 h5).mono ?_
  rintro e w6 ⟨rfl, hB6⟩
  have h6 := h5.nextB hB6
  have m6 := m5.nextB hB6
  clear h5 m5 hB6
  go_wp2_with fail
  refine (pch_supply F5 cb _ _ w6 h6).mono ?_
  rintro e w7 ⟨rfl, hB7⟩
  have m7 := m6.nextB hB7
  clear h6 m6 hB7
  generalize C.bakeN k = bn at *
  go_wp2_with fail
  go_ret
  exact ⟨rfl, m7.below⟩
end Go.Proofs.YtaihcceobnfmhaaDoor

namespace Go.Proofs.YtaihcceobnfmhaaDoor

theorem purse0_own {o : Int} (h : Own o) : 9000 ≤ purse0.s o := by
  have e : o = 0 ∨ o = 1 ∨ o = 2 ∨ o = 3 ∨ o = 4 ∨ o = 5 := by have := h.1; have := h.2; omega
  rcases e with rfl | rfl | rfl | rfl | rfl | rfl <;> decide
theorem stakes0_one {b : Int} (h : Bk b) : stakes0.R b = true ∧ (stakes0.P b).T = 1000 ∧ (stakes0.P b).A = 1000 := by
  have e : b = 0 ∨ b = 1 ∨ b = 2 := by have := h.1; have := h.2; omega
  rcases e with rfl | rfl | rfl <;> decide
theorem chNew_stakeC (seed : Nat) {o b n : Int} (ho : Own o) (hb : Bk b) (n1 : 1 ≤ n) (n5 : n ≤ 5000) : (chNew seed).stakeC o b n = 0 := by
  have p := purse0_own ho
  obtain ⟨r, t, a⟩ := stakes0_one hb
  have c1 : purse0.outC o n = 0 := by
    unfold Pu.outC
    rw [if_neg (not_not_intro ⟨ho, by omega, by omega⟩), if_neg (by omega)]
  have k : (stakes0.P b).joinK n = n := by
    unfold St.joinK
    rw [a, t, if_neg (by decide)]
    omega
  have c2 : stakes0.joinC o b n = 0 := by
    unfold Sk.joinC
    rw [r]
    show St.joinC _ _ _ = 0
    unfold St.joinC
    rw [k, t, a, if_neg (not_not_intro ⟨ho.1, ho.2, n1, by omega⟩), if_neg (by omega), if_neg (by omega), if_neg (by omega)]
  show (if purse0.outC o n ≠ 0 then purse0.outC o n else stakes0.joinC o b n) = 0
  rw [if_neg (not_not_intro c1)]; exact c2

/-- the first three pictures are those of the beginning -/
def Ch.First (C : Ch) : Prop := ∀ j, j < 3 → C.pics.getD j (fun _ => 0) = stakes0.pic
theorem chNew_first (seed : Nat) : (chNew seed).First := fun j hj => by
  have e : j = 0 ∨ j = 1 ∨ j = 2 := by omega
  rcases e with rfl | rfl | rfl <;> rfl
theorem Ch.stake_same (C : Ch) (o b n : Int) : (C.stake o b n).pics = C.pics ∧ (C.stake o b n).seed = C.seed ∧ (C.stake o b n).cyc = C.cyc ∧ (C.stake o b n).lev = C.lev := by
  unfold Ch.stake
  split <;> exact ⟨rfl, rfl, rfl, rfl⟩
theorem Ch.bake_pics (C : Ch) (b : Int) : ((C.bake b).pics = C.pics ∨ ∃ x, (C.bake b).pics = C.pics ++ [x]) ∧ (C.bake b).seed = C.seed := by
  have p : (C.paid b).pics = C.pics ∧ (C.paid b).seed = C.seed := by unfold Ch.paid; split <;> exact ⟨rfl, rfl⟩
  show ((C.paid b).stepped.pics = C.pics ∨ ∃ x, (C.paid b).stepped.pics = C.pics ++ [x]) ∧ (C.paid b).stepped.seed = C.seed
  rw [← p.1, ← p.2]
  generalize C.paid b = D
  unfold Ch.stepped
  split
  · have j := Ch.judge_same D.c.due { D with lev := D.lev + 1, c := D.c.asked }
    refine ⟨.inr ⟨(Ch.judge { D with lev := D.lev + 1, c := D.c.asked } D.c.due).nextPic, ?_⟩, ?_⟩
    · show (Ch.judge { D with lev := D.lev + 1, c := D.c.asked } D.c.due).pics ++ [_] = _
      rw [j.2.2.2.2.2]
    · exact j.2.1
  · exact ⟨.inl rfl, rfl⟩
theorem Ch.First.bake {C : Ch} (h : C.First) (hC : C.Ok) (b : Int) : (C.bake b).First := fun j hj => by
  have l := hC.len
  rcases (C.bake_pics b).1 with e | ⟨x, e⟩
  · rw [e]; exact h j hj
  · rw [e, List.getD_eq_getElem?_getD, List.getElem?_append_left (by omega), ← List.getD_eq_getElem?_getD]; exact h j hj
/-- until then turns are as they were -/
theorem Ch.First.turn {C : Ch} (h : C.First) (hy : C.cyc < 3) : C.pic = stakes0.pic := h C.cyc hy
end Go.Proofs.YtaihcceobnfmhaaDoor
