/-
  The law ChainRewards of package bakehouselaw3, walked: for every seed and every slice of acts it returns true.
-/
import Derived.Test.YtaihcceobnfmhaaGreatDoorChainDoX
import Derived.Test.YtaihcceobnfmhaaGreatDoorProgChainTellsX
namespace Go.Proofs.YtaihcceobnfmhaaGreatDoor
open Go.RowKit

/-- what is staked with the first so many -/
def skTo (S : Sk) : Nat → Int
  | 0 => 0
  | k + 1 => skTo S k + (S.P k).T
theorem skTo_three (S : Sk) : skTo S 3 = (S.P 0).T + (S.P 1).T + (S.P 2).T := by simp [skTo]
theorem skTo_bd {S : Sk} (h : S.Ok) : ∀ k, k ≤ 3 → 0 ≤ skTo S k ∧ skTo S k ≤ 4503599627370496
  | 0, _ => ⟨Int.le_refl _, by simp [skTo]⟩
  | 1, _ => by have := h.P_bd 0; simp [skTo]; omega
  | 2, _ => by have := h.P_bd 0; have := h.P_bd 1; simp [skTo]; omega
  | 3, _ => by have := h.P_bd 0; have := h.P_bd 1; have := h.P_bd 2; simp [skTo]; omega
theorem Ch.Ok.issue {C : Ch} (h : C.Ok) : (ratioN (skTo C.s 3) C.p.S = C.ratio ∧ ratioC (skTo C.s 3) C.p.S = 0) ∧ (rateN C.ratio C.bon = C.rate ∧ rateC C.ratio C.bon = 0) ∧ rewardN C.p.S C.rate = C.rew ∧ rewardC C.p.S C.rate = 0 := by
  have e : skTo C.s 3 = C.staked := skTo_three C.s
  rw [e]
  exact ⟨⟨rfl, if_pos h.ratioOk⟩, ⟨rfl, if_pos h.rateOk⟩, rfl, if_pos h.rewardOk⟩
theorem Mine.chainR {w w1 w2 : World} {F : Nat → Prop} (hB1 : Below w.heap.size w w1) (hF : ∀ k, F k → w1.heap.size ≤ k) (hB2 : Below w1.heap.size w1 w2) : Mine w.heap.size w w2 F := ⟨fun k g => Nat.le_trans hB1.size (hF k g), hB1.trans (hB2.mono hB1.size), Nat.le_trans hB1.size hB2.size⟩
set_option maxRecDepth 100000 in
set_option maxHeartbeats 4000000 in
theorem chainRewards_walk (seed : Nat) (hs : seed < W64) (b off len cap : Nat) (A : Nat → Addr) (w : World) (hL : ChLaid w A) (hI : IssLaid w A) (hb : b < w.heap.size) (h120 : len ≤ 120) (hA : CActs w b off len) :
    Calls Tryz.prog 5 #[.int .u64 seed, .slice (some ⟨b, off, none⟩) len cap] w fun e w' => e = .returned (.bool true) ∧ Below w.heap.size w w' := by
  go_enter Tryz.func5, Tryz.ntmps5
  go_wp2_with fail
  refine (begun_of A w hL).mono ?_
  rintro e w1 ⟨rfl, hB1⟩
  go_wp2_with fail
  refine (pch_new seed hs A w1 (hL.below hB1)).mono ?_
  rintro e w2 ⟨cb, F2, rfl, h2, hF, hB2⟩
  have m2 := Mine.chainR hB1 hF hB2
  clear hB1 hB2 hF
  go_wp2_with fail
  go_loopw [7] (fun i w' => ∃ (k g : Nat) (C : Ch) (F : Nat → Prop), k ≤ len ∧ g ≤ 10000 + 2000 * k ∧ i = .int .i64 k ∧ C.Ok ∧ C.Fit k ∧ C.Low k ∧ PCh F w' cb C g ∧ Mine w.heap.size w w' F) (fun i _ => len - (intOf i).toNat)
  case atStart => exact ⟨0, 10000, chNew seed, F2, Nat.zero_le _, Nat.le_refl _, rfl, chNew_ok seed hs, chNew_fit seed, chNew_low seed, h2, m2⟩
  case round =>
    obtain ⟨k, g, C, F, hk, hg, rfl, hC, hf, hlow, hP, hM⟩ := hrel
    clear h2 m2
    by_cases hlt : k < len
    · obtain ⟨t, a, f⟩ := hA.below hM.below hb k hlt
      have a0 := a.c0
      cases ty : (t.K.toList == [116, 117, 114, 110]) with
      | false =>
        have a1 := a.c1
        have a2 := a.c2
        have a3 := a.c3
        have a4 := a.c4
        have a5 := a.c5
        have a6 := a.c6
        have a7 := a.c7
        have a8 := a.c8
        go_wp2_with fail
        refine (do_of F cb C hC k (by omega) hf g (by omega) t f A wr (hL.below hM.below) hP).mono ?_
        rintro e w5 ⟨n, C5, F5, g5, rfl, went, hg5, hP5, hM5'⟩
        have hM5 := hM.next hM5'
        have LW := hide (hlow.next (by omega) went)
        have WT := hide went
        clear hM5' hM hP a a0 a1 a2 a3 a4 a5 a6 a7 a8 went hC hf hlow
        go_wp2_with fail
        go_roundw
        case rel => exact ⟨k + 1, g5, C5, F5, by omega, by omega, by go_num, WT.out.ok, WT.out.fit, LW.out, hP5, hM5⟩
        case measure => simp [intOf]; omega
      | true =>
        have a5 := a.c5
        have few := hf.few (by omega)
        by_cases hr : TurnOk C.cyc C.lev t.r
        · go_wp2_with fail
          refine (pch_turn F cb C hC few g t.r hr A wr (hL.below hM.below) hP).mono ?_
          rintro e w3 ⟨q, rfl, hq, hB3⟩
          have hP3 := hP.nextB hB3
          have hM3 := hM.nextB hB3
          have bq := Turn.bk hC hq
          have HQ := hide (fun k' (h' : Turn 3 C.pic C.seed C.cyc C.lev t.r k') => h'.one hq)
          have b5 : w3.cell? ⟨b, off + k * 9 + 5, none⟩ = some (.int .i64 t.r) := stk_old hB3 a5
          clear hP hM hB3 a0 a5 a ty hq
          go_wp2_with fail
          go_loopw [10, 11] (fun s i wx => ∃ j : Nat, j ≤ 3 ∧ i = .int .i64 j ∧ s = .int .i64 (skTo C.s j) ∧ PCh F wx cb C g ∧ Mine w.heap.size w wx F ∧ wx.cell? ⟨b, off + k * 9 + 5, none⟩ = some (.int .i64 t.r)) (fun _ i _ => 3 - (intOf i).toNat)
          case atStart => exact ⟨0, by omega, rfl, rfl, hP3, hM3, b5⟩
          case round =>
            obtain ⟨j, hj, rfl, rfl, hPj, hMj, b6⟩ := hrel
            clear hP3 hM3 b5
            by_cases hj3 : j < 3
            · have x0 := (skTo_bd hC.s j (by omega)).1
              have x1 := (skTo_bd hC.s j (by omega)).2
              have y0 := (hC.s.P_bd j).1
              have y1 := (hC.s.P_bd j).2
              have HN : Hid (skTo C.s j + (C.s.P j).T = skTo C.s (j + 1)) := rfl
              go_wp2_with fail
              refine (pch_stakes F cb C g _ hPj).mono ?_
              rintro e wa ⟨sb, Fs, rfl, hsa, _, hBa⟩
              have hPa := hPj.nextB hBa
              have hMa := hMj.nextB hBa
              have ba := stk_old hBa b6
              clear hPj hMj b6 hBa
              go_wp2_with fail
              refine (ps_staked Fs sb C.s hC.s _ j wa hsa).mono ?_
              rintro e wb ⟨rfl, nb, hw⟩
              have hPb : PCh F wb cb C g := by rw [hw]; exact hPa.nextB (below_drewN (Below.refl _ _) nb)
              have hMb : Mine w.heap.size w wb F := by rw [hw]; exact hMa.drewN nb
              have bb : wb.cell? ⟨b, off + k * 9 + 5, none⟩ = some (.int .i64 t.r) := by rw [hw, drew_cell]; exact ba
              clear hw hPa hMa ba hsa
              go_wp2_with fail
              go_roundw
              case rel => exact ⟨j + 1, by omega, by go_num, by rw [HN.out], hPb, hMb, bb⟩
              case measure => simp [intOf]; omega
            · obtain rfl : j = 3 := by omega
              obtain ⟨⟨i1, i2⟩, ⟨i3, i4⟩, i5, i6⟩ := hC.issue
              have I1 := hide i1
              have I2 := hide i2
              have I3 := hide i3
              have I4 := hide i4
              have I5 := hide i5
              have I6 := hide i6
              clear i1 i2 i3 i4 i5 i6
              go_wp2_with fail
              refine (pch_supply F cb C g _ hPj).mono ?_
              rintro e wa ⟨rfl, hBa⟩
              have hPa := hPj.nextB hBa
              have hMa := hMj.nextB hBa
              have ba := stk_old hBa b6
              clear hPj hMj b6 hBa
              have Q := is_ratio (skTo C.s 3) C.p.S A wa (hI.below hMa.below)
              rw [I1.out, I2.out] at Q
              go_wp2_with fail
              refine Q.mono ?_
              rintro e wb ⟨ev, rfl, hE, hBb⟩
              obtain rfl := hE.nil rfl
              have hPb := hPa.nextB hBb
              have hMb := hMa.nextB hBb
              have bb := stk_old hBb ba
              clear hPa hMa ba hBb hE Q
              go_wp2_with fail
              refine (pch_bonus F cb C g wb hPb).mono ?_
              rintro e wc ⟨rfl, hBc⟩
              have hPc := hPb.nextB hBc
              have hMc := hMb.nextB hBc
              have bc := stk_old hBc bb
              clear hPb hMb bb hBc
              have Q := is_rate C.ratio C.bon A wc (hI.below hMc.below)
              rw [I3.out, I4.out] at Q
              go_wp2_with fail
              refine Q.mono ?_
              rintro e wd ⟨ev, rfl, hE, hBd⟩
              obtain rfl := hE.nil rfl
              have hPd := hPc.nextB hBd
              have hMd := hMc.nextB hBd
              have bd := stk_old hBd bc
              clear hPc hMc bc hBd hE Q
              go_wp2_with fail
              refine (pch_supply F cb C g wd hPd).mono ?_
              rintro e we ⟨rfl, hBe⟩
              have hPe := hPd.nextB hBe
              have hMe := hMd.nextB hBe
              have be := stk_old hBe bd
              clear hPd hMd bd hBe
              have Q := is_reward C.p.S C.rate A we (hI.below hMe.below)
              rw [I5.out, I6.out] at Q
              go_wp2_with fail
              refine Q.mono ?_
              rintro e wf ⟨ev, rfl, hE, hBf⟩
              obtain rfl := hE.nil rfl
              have hPf := hPe.nextB hBf
              have hMf := hMe.nextB hBf
              have bf := stk_old hBf be
              clear hPe hMe be hBf hE Q I1 I2 I3 I4 I5 I6
              go_wp2_with fail
              refine (pch_stakes F cb C g wf hPf).mono ?_
              rintro e wg ⟨sb, Fs, rfl, hsg, _, hBg⟩
              have hPg := hPf.nextB hBg
              have hMg := hMf.nextB hBg
              have bg := stk_old hBg bf
              clear hPf hMf bf hBg
              go_wp2_with fail
              refine (ps_staked Fs sb C.s hC.s _ q wg hsg).mono ?_
              rintro e wh ⟨rfl, nh, hw⟩
              have hPh : PCh F wh cb C g := by rw [hw]; exact hPg.nextB (below_drewN (Below.refl _ _) nh)
              have hMh : Mine w.heap.size w wh F := by rw [hw]; exact hMg.drewN nh
              have bh : wh.cell? ⟨b, off + k * 9 + 5, none⟩ = some (.int .i64 t.r) := by rw [hw, drew_cell]; exact bg
              clear hw hPg hMg bg hsg
              go_wp2_with fail
              refine (pch_level F cb C g wh hPh).mono ?_
              rintro e wi ⟨rfl, hBi⟩
              have hPi := hPh.nextB hBi
              have hMi := hMh.nextB hBi
              have bi := stk_old hBi bh
              clear hPh hMh bh hBi
              have lv := hf.v
              have T0 := (hC.s.P_bd q).1
              have T1 := (hC.s.P_bd q).2
              have N0 := (hC.bakeN_bd q).1
              have WT := hide (Ch.Went.bake hC hf q)
              have LW := hide (hlow.next (by omega) WT.out)
              have N1 := WT.out.nS
              have p1 := hC.p.top
              have PAY := hide (fun g => hC.pays (b := q) (hlow.top (by omega)) bq g)
              have ST := hide (fun g => Ch.bake_staked hC (b := q) bq g)
              have q0 := bq.1
              have q3 := bq.2
              go_wp2_with fail
              refine (pch_bake_own F cb C hC few g (by omega) q t.r hr HQ.out A wi (hL.below hMi.below) hPi).mono ?_
              rintro e w9 ⟨ev, F9, rfl, hE, h9, M9⟩
              obtain rfl := hE.nil rfl
              have m9 := hMi.next M9
              have cB : C.Payable q ∨ C.bakeN q = 0 := by by_cases y : C.Payable q; exact .inl y; exact .inr (if_neg y)
              clear hE M9 hMi hPi bi HQ few hr
              have bound : C.bakeN q ≤ 1125899906842624 := by omega
              by_cases hn : C.bakeN q = C.rew
              · have e1 : (C.bakeN q != C.rew) = false := by rw [hn]; simp
                clear hn PAY cB hlow hf hC bq N1
                by_cases hl : (C.lev + 1) % 4 = 0
                · have e3 : (((C.lev : Nat) : Int) % 4 == 3) = true := by rw [beq_iff_eq]; omega
                  clear hl ST
                  go_wp2_with fail
                  go_roundw
                  case rel => exact ⟨k + 1, g + 2000, C.bake q, F9, by omega, by omega, by go_num, WT.out.ok, WT.out.fit, LW.out, h9, m9⟩
                  case measure => simp [intOf]; omega
                · have e3 : (((C.lev : Nat) : Int) % 4 == 3) = false := by rw [beq_eq_false_iff_ne]; omega
                  have e4 : (((C.bake q).s.P q).T != (C.s.P q).T + C.bakeN q) = false := by rw [ST.out hl]; simp
                  clear hl ST
                  go_wp2_with fail
                  refine (pch_stakes F9 cb (C.bake q) _ w9 h9).mono ?_
                  rintro e w10 ⟨sb, Fs, rfl, hs10, _, hB10⟩
                  have h10 := h9.nextB hB10
                  have m10 := m9.nextB hB10
                  clear h9 m9 hB10
                  go_wp2_with fail
                  refine (ps_staked Fs sb (C.bake q).s WT.out.ok.s _ q w10 hs10).mono ?_
                  rintro e w11 ⟨rfl, n11, hw⟩
                  have h11 : PCh F9 w11 cb (C.bake q) (g + 2000) := by rw [hw]; exact h10.nextB (below_drewN (Below.refl _ _) n11)
                  have m11 : Mine w.heap.size w w11 F9 := by rw [hw]; exact m10.drewN n11
                  clear hw h10 m10 hs10
                  go_wp2_with fail
                  go_roundw
                  case rel => exact ⟨k + 1, g + 2000, C.bake q, F9, by omega, by omega, by go_num, WT.out.ok, WT.out.fit, LW.out, h11, m11⟩
                  case measure => simp [intOf]; omega
              · have z : C.bakeN q = 0 := by rcases cB with y | y; exact absurd (if_pos y) hn; exact y
                have e1 : (C.bakeN q != C.rew) = true := by rw [bne_iff_ne]; exact hn
                have e2 : (C.bakeN q != 0) = false := by rw [z]; simp
                have e5 : ¬ 0 < (C.s.P q).T := fun y => hn (if_pos (PAY.out y))
                clear hn PAY cB hlow hf hC bq N1 z
                by_cases hl : (C.lev + 1) % 4 = 0
                · have e3 : (((C.lev : Nat) : Int) % 4 == 3) = true := by rw [beq_iff_eq]; omega
                  clear hl ST
                  go_wp2_with fail
                  go_roundw
                  case rel => exact ⟨k + 1, g + 2000, C.bake q, F9, by omega, by omega, by go_num, WT.out.ok, WT.out.fit, LW.out, h9, m9⟩
                  case measure => simp [intOf]; omega
                · have e3 : (((C.lev : Nat) : Int) % 4 == 3) = false := by rw [beq_eq_false_iff_ne]; omega
                  have e4 : (((C.bake q).s.P q).T != (C.s.P q).T + C.bakeN q) = false := by rw [ST.out hl]; simp
                  clear hl ST
                  go_wp2_with fail
                  refine (pch_stakes F9 cb (C.bake q) _ w9 h9).mono ?_
                  rintro e w10 ⟨sb, Fs, rfl, hs10, _, hB10⟩
                  have h10 := h9.nextB hB10
                  have m10 := m9.nextB hB10
                  clear h9 m9 hB10
                  go_wp2_with fail
                  refine (ps_staked Fs sb (C.bake q).s WT.out.ok.s _ q w10 hs10).mono ?_
                  rintro e w11 ⟨rfl, n11, hw⟩
                  have h11 : PCh F9 w11 cb (C.bake q) (g + 2000) := by rw [hw]; exact h10.nextB (below_drewN (Below.refl _ _) n11)
                  have m11 : Mine w.heap.size w w11 F9 := by rw [hw]; exact m10.drewN n11
                  clear hw h10 m10 hs10
                  go_wp2_with fail
                  go_roundw
                  case rel => exact ⟨k + 1, g + 2000, C.bake q, F9, by omega, by omega, by go_num, WT.out.ok, WT.out.fit, LW.out, h11, m11⟩
                  case measure => simp [intOf]; omega
        · go_wp2_with fail
          refine (pch_turn_bad F cb C hC few g t.r hr A wr (hL.below hM.below) hP).mono ?_
          rintro e w3 ⟨ev, rfl, hE, hB3⟩
          obtain ⟨j, rfl⟩ := hE.err (by decide)
          have hP3 := hP.nextB hB3
          have hM3 := hM.nextB hB3
          have went := Ch.Went.same hC hf
          have LW := hide (hlow.next (by omega) went)
          have WT := hide went
          clear hP hM hB3 hE a0 a5 a ty hr few hC hf hlow went
          go_wp2_with fail
          go_roundw
          case rel => exact ⟨k + 1, g, C, F, by omega, by omega, by go_num, WT.out.ok, WT.out.fit, LW.out, hP3, hM3⟩
          case measure => simp [intOf]; omega
    · obtain rfl : k = len := by omega
      have hB := hM.below
      clear hP hM
      go_wp2_with fail
      go_ret
      exact ⟨rfl, hB⟩
end Go.Proofs.YtaihcceobnfmhaaGreatDoor
