/-
  The document's stakes (bakehouseref2.Stakes) by their contracts: a baker is slashed.
-/
import Derived.Test.YtlhffdmhbplpjabGreatDoorRefStkWait
namespace Go.Proofs.YtlhffdmhbplpjabGreatDoor
open Go.RowKit

def gSlash (b f : Int) : Int → Int → Bool := fun b' c' => decide (b' = b ∧ f ≤ c')
/-- a baker's pool slashed, what waits not yet -/
def Sk.cut (S : Sk) (b p : Int) : Sk := ⟨S.R, set1 S.P b ((S.P b).slash p), S.K, S.W⟩
theorem Sk.Ok.cut {S : Sk} (hS : S.Ok) {b : Int} (hr : S.R b = true) (p : Int) : (S.cut b p).Ok := hS.pool hr ((hS.pok b).slash p)
theorem slash_is (S : Sk) (hS : S.Ok) (b f p : Int) (hr : S.R b = true) (hp : 0 ≤ p ∧ p ≤ 100) :
    S.slash b f p = ⟨S.R, (S.cut b p).P, S.K, partW (S.cut b p) (gSlash b f) (fun x => x.slash p) S.K.length⟩ ∧ S.slashN b f p = (S.P b).slashN p + preG (S.cut b p) (gSlash b f) (fun x => x.slashN p) S.K.length ∧ S.slashC b p = 0 := by
  have hc : S.slashC b p = 0 := (if_pos hr).trans (if_pos hp)
  refine ⟨?_, ?_, hc⟩
  · have := partW_all (S.cut b p) (hS.cut hr p) (gSlash b f) (fun x => x.slash p) (e0_slash p)
    rw [show (S.cut b p).K.length = S.K.length from rfl] at this
    rw [this]
    unfold Sk.slash
    rw [if_pos hc]
    simp only [gSlash, decide_eq_true_eq]
    rfl
  · have := preG_all (S.cut b p) (gSlash b f) (fun x => x.slashN p)
    rw [show (S.cut b p).K.length = S.K.length from rfl] at this
    rw [this]
    unfold Sk.slashN
    rw [if_pos hc]
    simp only [gSlash, decide_eq_true_eq]
    rfl
theorem slashN_bd' (p : Int) (x : St) (h : x.Ok) : 0 ≤ x.slashN p ∧ x.slashN p ≤ x.T := h.slashN_bd p

set_option maxRecDepth 100000 in
set_option maxHeartbeats 1000000 in
theorem rs_slash (F : Nat → Prop) (sb : Nat) (S : Sk) (hS : S.Ok) (hL : S.K.length ≤ 1000) (b f p : Int) (w : World) (h : RSk F w sb S) :
    Calls Tryz.prog 35 #[.pointer (some ⟨sb, 0, none⟩), .int .i64 b, .int .i64 f, .int .i64 p] w fun e w' => e = .returned (.tuple #[.int .i64 (S.slashN b f p), .int .i64 (S.slashC b p)]) ∧ RSk F w' sb (S.slash b f p) ∧ Moved F F w w' := by
  obtain ⟨tag, pb, v, L, hF, h⟩ := h
  have I := rs_is tag sb pb v L S hS b w h
  have c0 := h.c0
  cases hr : S.R b with
  | true =>
    rw [hr] at I
    obtain ⟨kb, rfl⟩ : ∃ k : Nat, b = k := ⟨b.toNat, by have := hS.rin b hr; omega⟩
    have hkb : kb < 3 := by have := hS.rin _ hr; omega
    obtain ⟨x, q, hc, hR, hx, hq⟩ := h.p kb hkb hr
    have J := ref_slash x q _ (hS.pok kb) p w hR
    by_cases hp : 0 ≤ p ∧ p ≤ 100
    · obtain ⟨e1, e2, e3⟩ := slash_is S hS kb f p hr hp
      have E1 := hide e1
      have E2 := hide e2
      have E3 := hide e3
      have hC : (S.P kb).slashC p = 0 := (St.slash_yes hp).1
      have hS1 := hS.cut hr p
      have kl := h.klen
      have l0 : L.length ≤ 1000 := by omega
      have A0 : Hid (∀ w', RefAt w' x q ((S.P kb).slash p) → Kept [x, q] w w' → RSkAt tag w' sb pb v L (S.cut kb p) ∧ Moved F F w w') := fun w' g1 g2 => ⟨h.pool kb hkb hr hx hq hc g1 g2, (h.acted hF kb hkb hr hx hq hc g1 g2).2⟩
      have n0 := slashN_bd' p _ (hS.pok kb)
      have n1 := (hS.pok kb).t1
      obtain ⟨m0, m1⟩ : 0 ≤ (S.P kb).slashN p ∧ (S.P kb).slashN p ≤ 1125899906842624 := by omega
      obtain ⟨a, cap, rfl⟩ := h.shape
      rw [hC] at J
      clear e1 e2 e3 hp hR hr hx hq n0 n1 hC h
      go_enter Tryz.func35, Tryz.ntmps35
      go_wp2_with (first | (go_at_call 12; refine I.mono ?_; rintro e w' ⟨rfl, rfl⟩) | (go_at_call 63; refine J.mono ?_; rintro e w1 ⟨rfl, hR1, hK1⟩))
      obtain ⟨h1, hM1⟩ := A0.out _ hR1 hK1
      clear J I A0 hR1 hK1 hc c0
      go_loopw [11, 13] (fun n i wr => ∃ k : Nat, k ≤ L.length ∧ n = .int .i64 ((S.P kb).slashN p + preG (S.cut kb p) (gSlash kb f) (fun x => x.slashN p) k) ∧ i = .int .i64 k ∧ RSkAt tag wr sb pb (.slice a L.length cap) L ⟨(S.cut kb p).R, (S.cut kb p).P, (S.cut kb p).K, partW (S.cut kb p) (gSlash kb f) (fun x => x.slash p) k⟩ ∧ Moved F F w' wr) (fun _ i _ => L.length - (intOf i).toNat)
      case atStart => exact ⟨0, Nat.zero_le _, by rw [show preG (S.cut kb p) (gSlash kb f) (fun x => x.slashN p) 0 = 0 from rfl, Int.add_zero], rfl, by rw [partW_zero]; exact h1, hM1⟩
      case round =>
        clear h1 hM1
        obtain ⟨k, hk, rfl, rfl, hr, hM⟩ := hrel
        have c1 := hr.c1
        by_cases hlt : k < L.length
        · obtain ⟨g, cap', e, hc, _⟩ := hr.row (by omega)
          obtain ⟨rfl, rfl⟩ : a = some ⟨g, 0, none⟩ ∧ cap = cap' := by cases e; exact ⟨rfl, rfl⟩
          obtain ⟨t, ht⟩ : ∃ t, L[k]? = some t := ⟨L[k], List.getElem?_eq_getElem hlt⟩
          have hkey : (S.cut kb p).K[k]? = some (t.1, t.2.1) := hr.key ht
          obtain ⟨d0, d1, d2⟩ := hc k t ht
          by_cases hg : t.1 = kb ∧ f ≤ t.2.1
          · have hg' : gSlash kb f t.1 t.2.1 = true := decide_eq_true hg
            obtain ⟨q, hR, hx, hq⟩ := hr.wat k t ht
            have eW : (⟨(S.cut kb p).R, (S.cut kb p).P, (S.cut kb p).K, partW (S.cut kb p) (gSlash kb f) (fun x => x.slash p) k⟩ : Sk).W t.1 t.2.1 = S.W t.1 t.2.1 := partW_at (S.cut kb p) hS.knd (gSlash kb f) (fun x => x.slash p) k _ hkey
            rw [eW] at hR
            have J := ref_slash t.2.2 q _ (hS.wok t.1 t.2.1) p wr hR
            have A1 : Hid (∀ w2, RefAt w2 t.2.2 q ((S.W t.1 t.2.1).slash p) → Kept [t.2.2, q] wr w2 → RSkAt tag w2 sb pb (.slice (some ⟨g, 0, none⟩) L.length cap) L ⟨(S.cut kb p).R, (S.cut kb p).P, (S.cut kb p).K, partW (S.cut kb p) (gSlash kb f) (fun x => x.slash p) (k + 1)⟩ ∧ Moved F F w' w2) := fun w2 g1 g2 => by
              have := hr.turned hF hS1 ht hg' hx hq g1 g2
              exact ⟨this.1, hM.trans this.2⟩
            have p0 := preG_bd (S.cut kb p) hS1 (gSlash kb f) (fun x => x.slashN p) (slashN_bd' p) k
            rw [show (S.cut kb p).K.length = S.K.length from rfl] at p0
            have n0 := slashN_bd' p _ (hS.wok t.1 t.2.1)
            have n1 := (hS.wok t.1 t.2.1).t1
            have P1 : Hid ((S.P kb).slashN p + preG (S.cut kb p) (gSlash kb f) (fun x => x.slashN p) (k + 1) = (S.P kb).slashN p + preG (S.cut kb p) (gSlash kb f) (fun x => x.slashN p) k + (S.W t.1 t.2.1).slashN p) := by
              have : preG (S.cut kb p) (gSlash kb f) (fun x => x.slashN p) (k + 1) = preG (S.cut kb p) (gSlash kb f) (fun x => x.slashN p) k + (S.W t.1 t.2.1).slashN p := preG_yes (S.cut kb p) _ _ k _ hkey hg'
              show _ = _
              rw [this, Int.add_assoc]
            obtain ⟨p1, p2⟩ : 0 ≤ (S.P kb).slashN p + preG (S.cut kb p) (gSlash kb f) (fun x => x.slashN p) k ∧ (S.P kb).slashN p + preG (S.cut kb p) (gSlash kb f) (fun x => x.slashN p) k ≤ 1001 * 1125899906842624 := by
              have : (S.K.length : Int) * 1125899906842624 ≤ 1000 * 1125899906842624 := Int.mul_le_mul_of_nonneg_right (by omega) (by decide)
              omega
            obtain ⟨m2, m3⟩ : 0 ≤ (S.W t.1 t.2.1).slashN p ∧ (S.W t.1 t.2.1).slashN p ≤ 1125899906842624 := by omega
            have T1 : (t.1 == (kb : Int)) = true := by simp [hg.1]
            have T2 := hg.2
            clear hg hg' hR hx hq hkey eW hc e ht p0 n0 n1 hr hM m0 m1
            generalize (S.W t.1 t.2.1).slashN p = N at *
            generalize (S.P kb).slashN p + preG (S.cut kb p) (gSlash kb f) (fun x => x.slashN p) k = P at *
            go_wp2_with (go_at_call 63; refine J.mono ?_; rintro e w2 ⟨rfl, hR2, hK2⟩)
            go_roundw
            case rel => exact ⟨k + 1, by omega, by rw [P1.out], by go_num, A1.out _ hR2 hK2⟩
            case measure => simp [intOf]; omega
          · have hg' : gSlash kb f t.1 t.2.1 = false := decide_eq_false hg
            have A1 := hide (hr.stays ht hg')
            have P1 : Hid (preG (S.cut kb p) (gSlash kb f) (fun x => x.slashN p) (k + 1) = preG (S.cut kb p) (gSlash kb f) (fun x => x.slashN p) k) := preG_no (S.cut kb p) _ _ k _ hkey hg'
            by_cases hz : t.1 = kb
            · have T1 : (t.1 == (kb : Int)) = true := by simp [hz]
              have T2 : ¬ f ≤ t.2.1 := fun g => hg ⟨hz, g⟩
              clear hz hg hg' hkey hc e ht hr
              go_wp2
              go_roundw
              case rel => exact ⟨k + 1, by omega, by rw [P1.out], by go_num, A1.out, hM⟩
              case measure => simp [intOf]; omega
            · have T1 : (t.1 == (kb : Int)) = false := by simp [hz]
              clear hz hg hg' hkey hc e ht hr
              go_wp2
              go_roundw
              case rel => exact ⟨k + 1, by omega, by rw [P1.out], by go_num, A1.out, hM⟩
              case measure => simp [intOf]; omega
        · obtain rfl : k = L.length := by omega
          have hr' : Hid (RSk F wr sb (S.slash kb f p) ∧ Moved F F w' wr) := by
            show _ ∧ _
            rw [E1.out, kl]
            exact ⟨⟨tag, pb, _, L, hF, hr⟩, hM⟩
          have E4 : Hid (S.slashN kb f p = (S.P kb).slashN p + preG (S.cut kb p) (gSlash kb f) (fun x => x.slashN p) L.length) := by
            show _ = _
            rw [E2.out, kl]
          clear hr hM
          go_wp2
          go_ret2
          exact ⟨ret_int2 E4.out.symm E3.out.symm, hr'.out⟩
    · have hC : (S.P kb).slashC p = 2 := (St.slash_no hp).1
      have hN : (S.P kb).slashN p = 0 := (St.slash_no hp).2.1
      have E3 : Hid (S.slashC kb p = 2) := (if_pos hr).trans (if_neg hp)
      have E2 : Hid (S.slashN kb f p = 0) := if_neg (by rw [E3.out]; decide)
      have E1 : Hid (S.slash kb f p = S) := if_neg (by rw [E3.out]; decide)
      have A0 : Hid (∀ w', RefAt w' x q ((S.P kb).slash p) → Kept [x, q] w w' → RSk F w' sb S ∧ Moved F F w w') := fun w' g1 g2 => by
        have := h.acted hF kb hkb hr hx hq hc g1 g2
        rw [set1_id S.P kb _ (St.slash_no hp).2.2] at this
        exact this
      rw [hC, hN] at J
      clear hp hR hr hx hq hC hN h
      go_enter Tryz.func35, Tryz.ntmps35
      go_wp2_with (first | (go_at_call 12; refine I.mono ?_; rintro e w' ⟨rfl, rfl⟩) | (go_at_call 63; refine J.mono ?_; rintro e w1 ⟨rfl, hR1, hK1⟩))
      go_ret2
      exact ⟨ret_int2 E2.out.symm E3.out.symm, RSk.as (A0.out _ hR1 hK1) E1.out⟩
  | false =>
    rw [hr] at I
    have E3 : Hid (S.slashC b p = 4) := if_neg (by rw [hr]; decide)
    have E2 : Hid (S.slashN b f p = 0) := if_neg (by rw [E3.out]; decide)
    have E1 : Hid (S.slash b f p = S) := if_neg (by rw [E3.out]; decide)
    clear hr
    go_enter Tryz.func35, Tryz.ntmps35
    go_wp2_with (go_at_call 12; refine I.mono ?_; rintro e w' ⟨rfl, rfl⟩)
    go_ret2
    exact ⟨ret_int2 E2.out.symm E3.out.symm, RSk.as ⟨⟨tag, pb, v, L, hF, h⟩, Moved.refl _ _⟩ E1.out⟩
end Go.Proofs.YtlhffdmhbplpjabGreatDoor
