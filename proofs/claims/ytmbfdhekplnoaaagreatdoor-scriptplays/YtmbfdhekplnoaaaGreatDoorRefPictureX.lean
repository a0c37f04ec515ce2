/-
  The document's stakes (bakehouseref2.Stakes) by their contracts: what has waited is freed; a baker is slashed.
  The document's stakes (bakehouseref2.Stakes) by their contracts: a baker is slashed.
  What is issued, by the document (bakehouseref2), by its contracts.
  The document's chain by its contracts: stakes, what is freed, the ratio.
  bakehouseref2.PictureOf by its contract: the weights of the document's stakes.
-/
import Derived.Test.YtmbfdhekplnoaaaGreatDoorRefStkLeaveX
import Derived.Test.YtmbfdhekplnoaaaGreatDoorIssueMathX
import Derived.Test.YtmbfdhekplnoaaaGreatDoorRefNewX
import Derived.Test.YtmbfdhekplnoaaaGreatDoorTextOwnX
import Derived.Deep.QuietTactic
import Derived.BigQuiet
import Derived.Deep.RegionHeld3
import Derived.Laws.AppendOwn
import Derived.Deep.AppendLies
namespace Go.Proofs.YtmbfdhekplnoaaaGreatDoor
open Go.RowKit

def partW (S : Sk) (g : Int → Int → Bool) (f : St → St) (k : Nat) : Int → Int → St := fun b c => if (b, c) ∈ S.K.take k ∧ g b c = true then f (S.W b c) else S.W b c
theorem partW_zero (S : Sk) (g : Int → Int → Bool) (f : St → St) : partW S g f 0 = S.W := by
  funext b c
  exact if_neg (by simp)
theorem take_succ_mem {K : List (Int × Int)} {k : Nat} {t x : Int × Int} (h : K[k]? = some t) : x ∈ K.take (k + 1) ↔ x ∈ K.take k ∨ x = t := by
  obtain ⟨hl, e⟩ := List.getElem?_eq_some_iff.1 h
  rw [List.take_succ_eq_append_getElem hl, List.mem_append, e, List.mem_singleton]
theorem take_no_mem {K : List (Int × Int)} (hn : K.Nodup) {k : Nat} {t : Int × Int} (h : K[k]? = some t) : t ∉ K.take k := fun g => by
  obtain ⟨j, hj, e⟩ := List.mem_iff_getElem.1 g
  rw [List.length_take] at hj
  rw [List.getElem_take] at e
  have hl : j < K.length := by omega
  have := (List.getElem?_inj hl hn (j := k)).1 (by rw [h, List.getElem?_eq_getElem hl, e])
  omega
theorem partW_at (S : Sk) (hn : S.K.Nodup) (g : Int → Int → Bool) (f : St → St) (k : Nat) (t : Int × Int) (h : S.K[k]? = some t) : partW S g f k t.1 t.2 = S.W t.1 t.2 := if_neg fun e => take_no_mem hn h e.1
theorem partW_yes (S : Sk) (g : Int → Int → Bool) (f : St → St) (k : Nat) (t : Int × Int) (h : S.K[k]? = some t) (hg : g t.1 t.2 = true) : partW S g f (k + 1) = set2 (partW S g f k) t.1 t.2 (f (S.W t.1 t.2)) := by
  funext b c
  by_cases e : (b, c) = t
  · subst e
    rw [set2_same]
    exact if_pos ⟨(take_succ_mem h).2 (.inr rfl), hg⟩
  · rw [set2_other _ _ _ _ _ _ e]
    unfold partW
    by_cases m : (b, c) ∈ S.K.take k ∧ g b c = true
    · rw [if_pos m, if_pos ⟨(take_succ_mem h).2 (.inl m.1), m.2⟩]
    · rw [if_neg m, if_neg fun x => m ⟨((take_succ_mem h).1 x.1).resolve_right e, x.2⟩]
theorem partW_no (S : Sk) (g : Int → Int → Bool) (f : St → St) (k : Nat) (t : Int × Int) (h : S.K[k]? = some t) (hg : g t.1 t.2 = false) : partW S g f (k + 1) = partW S g f k := by
  funext b c
  unfold partW
  by_cases e : (b, c) = t
  · subst e
    have hg' : ¬ g b c = true := fun x => by rw [show g b c = false from hg] at x; cases x
    rw [if_neg fun x => hg' x.2, if_neg fun x => hg' x.2]
  · by_cases m : (b, c) ∈ S.K.take k ∧ g b c = true
    · rw [if_pos m, if_pos ⟨(take_succ_mem h).2 (.inl m.1), m.2⟩]
    · rw [if_neg m, if_neg fun x => m ⟨((take_succ_mem h).1 x.1).resolve_right e, x.2⟩]
theorem partW_all (S : Sk) (hS : S.Ok) (g : Int → Int → Bool) (f : St → St) (h0 : f e0 = e0) : partW S g f S.K.length = fun b c => if g b c = true then f (S.W b c) else S.W b c := by
  funext b c
  unfold partW
  rw [List.take_length]
  by_cases m : (b, c) ∈ S.K
  · by_cases e : g b c = true
    · rw [if_pos ⟨m, e⟩, if_pos e]
    · rw [if_neg fun x => e x.2, if_neg e]
  · rw [if_neg fun x => m x.1, hS.wout b c m, h0]
    split <;> rfl
def preG (S : Sk) (g : Int → Int → Bool) (n : St → Int) (k : Nat) : Int := preW S (fun b c => if g b c = true then n (S.W b c) else 0) k
theorem preG_yes (S : Sk) (g : Int → Int → Bool) (n : St → Int) (k : Nat) (t : Int × Int) (h : S.K[k]? = some t) (hg : g t.1 t.2 = true) : preG S g n (k + 1) = preG S g n k + n (S.W t.1 t.2) := by
  unfold preG
  rw [preW_succ _ _ _ _ h, if_pos hg]
theorem preG_no (S : Sk) (g : Int → Int → Bool) (n : St → Int) (k : Nat) (t : Int × Int) (h : S.K[k]? = some t) (hg : g t.1 t.2 = false) : preG S g n (k + 1) = preG S g n k := by
  unfold preG
  rw [preW_succ _ _ _ _ h, if_neg (by rw [hg]; decide), Int.add_zero]
theorem preG_bd (S : Sk) (hS : S.Ok) (g : Int → Int → Bool) (n : St → Int) (hn : ∀ x : St, x.Ok → 0 ≤ n x ∧ n x ≤ x.T) (k : Nat) : 0 ≤ preG S g n k ∧ preG S g n k ≤ S.K.length * 1125899906842624 := by
  refine preW_bd S _ _ (fun b c => ?_) (fun b c => ?_) (by decide) k
  · split
    · exact (hn _ (hS.wok b c)).1
    · exact Int.le_refl _
  · have := hn _ (hS.wok b c)
    have := (hS.wok b c).t1
    split <;> omega
theorem preG_all (S : Sk) (g : Int → Int → Bool) (n : St → Int) : preG S g n S.K.length = sumK S.K fun b c => if g b c = true then n (S.W b c) else 0 := preW_all _ _
theorem leaveN_bd (o : Int) (x : St) (h : x.Ok) : 0 ≤ x.leaveN o ∧ x.leaveN o ≤ x.T := by
  unfold St.leaveN
  split
  · exact ⟨h.val0 o, h.val1 o⟩
  · exact ⟨Int.le_refl _, h.t0⟩
def gFree (c : Int) : Int → Int → Bool := fun _ c' => decide (c' + 2 < c)
def anyF (S : Sk) (o c : Int) (k : Nat) : Bool := (S.K.take k).any fun t => decide (t.2 + 2 < c) && decide ((S.W t.1 t.2).leaveC o = 0)
theorem anyF_succ (S : Sk) (o c : Int) (k : Nat) (t : Int × Int) (h : S.K[k]? = some t) : anyF S o c (k + 1) = (anyF S o c k || (decide (t.2 + 2 < c) && decide ((S.W t.1 t.2).leaveC o = 0))) := by
  unfold anyF
  obtain ⟨hl, e⟩ := List.getElem?_eq_some_iff.1 h
  rw [List.take_succ_eq_append_getElem hl, List.any_append, e]
  simp
theorem anyF_all (S : Sk) (o c : Int) : anyF S o c S.K.length = S.has o c := by unfold anyF Sk.has; rw [List.take_length]
theorem free_is (S : Sk) (hS : S.Ok) (o c : Int) (hb : Ow o ∧ Cy c) : S.free o c = ⟨S.R, S.P, S.K, partW S (gFree c) (fun x => x.leave o) S.K.length⟩ ∧ S.freeN o c = preG S (gFree c) (fun x => x.leaveN o) S.K.length ∧ S.freeC o c = if S.has o c then 0 else 4 := by
  refine ⟨?_, ?_, if_neg (not_not_intro hb)⟩
  · rw [partW_all S hS _ (fun x => x.leave o) (e0_leave o)]
    unfold Sk.free
    rw [if_neg (not_not_intro hb)]
    simp only [gFree, decide_eq_true_eq]
  · rw [preG_all]
    unfold Sk.freeN
    rw [if_neg (not_not_intro hb)]
    simp only [gFree, decide_eq_true_eq]
theorem RSkAt.turned {tag : Nat → Nat} {w w' : World} {sb pb : Nat} {v : Value} {L : List Wt} {S : Sk} {F : Nat → Prop} (hF : ∀ k, F k ↔ tag k ≠ 0) (hS : S.Ok) {g : Int → Int → Bool} {f : St → St} {k : Nat} {t : Wt} (h : RSkAt tag w sb pb v L ⟨S.R, S.P, S.K, partW S g f k⟩) (ht : L[k]? = some t) (hg : g t.1 t.2.1 = true) {q : Nat} (hx : tag t.2.2 = 5 + k) (hq : tag q = 5 + k)
    (hR : RefAt w' t.2.2 q (f (S.W t.1 t.2.1))) (hK : Kept [t.2.2, q] w w') : RSkAt tag w' sb pb v L ⟨S.R, S.P, S.K, partW S g f (k + 1)⟩ ∧ Moved F F w w' := by
  have hk : S.K[k]? = some (t.1, t.2.1) := h.key ht
  refine ⟨?_, KeptP.of_kept hK fun i gi => ?_, fun _ _ x => x⟩
  · rw [partW_yes S g f k _ hk hg]
    exact h.wait hS.knd k t ht hx hq hR hK
  · rcases List.mem_cons.1 gi with e | e
    · subst e; exact (hF _).2 (by omega)
    · rw [List.mem_singleton.1 e]; exact (hF _).2 (by omega)
theorem RSkAt.stays {tag : Nat → Nat} {w : World} {sb pb : Nat} {v : Value} {L : List Wt} {S : Sk} {g : Int → Int → Bool} {f : St → St} {k : Nat} {t : Wt} (h : RSkAt tag w sb pb v L ⟨S.R, S.P, S.K, partW S g f k⟩) (ht : L[k]? = some t) (hg : g t.1 t.2.1 = false) : RSkAt tag w sb pb v L ⟨S.R, S.P, S.K, partW S g f (k + 1)⟩ := by
  have hk : S.K[k]? = some (t.1, t.2.1) := h.key ht
  rw [partW_no S g f k _ hk hg]; exact h

set_option maxRecDepth 100000 in
set_option maxHeartbeats 1000000 in
theorem rs_free (F : Nat → Prop) (sb : Nat) (S : Sk) (hS : S.Ok) (hL : S.K.length ≤ 1000) (o c : Int) (_wc : (Lit.int .i64 c).wf = true) (w : World) (h : RSk F w sb S) :
    Calls Tryz.prog 108 #[.pointer (some ⟨sb, 0, none⟩), .int .i64 o, .int .i64 c] w fun e w' => e = .returned (.tuple #[.int .i64 (S.freeN o c), .int .i64 (S.freeC o c)]) ∧ RSk F w' sb (S.free o c) ∧ Moved F F w w' := by
  by_cases hb : Ow o ∧ Cy c
  · have I := isOwner_yes o hb.1.1 hb.1.2
    obtain ⟨tag, pb, v, L, hF, h⟩ := h
    obtain ⟨e1, e2, e3⟩ := free_is S hS o c hb
    have E1 := hide e1
    have E2 := hide e2
    have E3 := hide e3
    obtain ⟨a, cap, rfl⟩ := h.shape
    have kl := h.klen
    have l0 : L.length ≤ 1000 := by omega
    obtain ⟨_, y0, y1⟩ := hb
    clear e1 e2 e3
    go_enter Tryz.func108, Tryz.ntmps108
    go_wp2_with (go_at_call 107; refine (I _).mono ?_; rintro e w' ⟨rfl, rfl⟩)
    go_loopw [9, 10, 11] (fun n f i wr => ∃ k : Nat, k ≤ L.length ∧ n = .int .i64 (preG S (gFree c) (fun x => x.leaveN o) k) ∧ f = .bool (anyF S o c k) ∧ i = .int .i64 k ∧ RSkAt tag wr sb pb (.slice a L.length cap) L ⟨S.R, S.P, S.K, partW S (gFree c) (fun x => x.leave o) k⟩ ∧ Moved F F w' wr) (fun _ _ i _ => L.length - (intOf i).toNat)
    case atStart => exact ⟨0, Nat.zero_le _, rfl, rfl, rfl, by rw [partW_zero]; exact h, Moved.refl _ _⟩
    case round =>
      obtain ⟨k, hk, rfl, rfl, rfl, hr, hM⟩ := hrel
      have c1 := hr.c1
      by_cases hlt : k < L.length
      · obtain ⟨g, cap', e, hc, _⟩ := hr.row (by omega)
        obtain ⟨rfl, rfl⟩ : a = some ⟨g, 0, none⟩ ∧ cap = cap' := by cases e; exact ⟨rfl, rfl⟩
        obtain ⟨t, ht⟩ : ∃ t, L[k]? = some t := ⟨L[k], List.getElem?_eq_getElem hlt⟩
        have hkey : S.K[k]? = some (t.1, t.2.1) := hr.key ht
        obtain ⟨d0, d1, d2⟩ := hc k t ht
        have hcy := (hS.kin (t.1, t.2.1) (List.mem_of_getElem? hkey)).2
        have u0 : 0 ≤ t.2.1 := hcy.1
        have u1 : t.2.1 ≤ 1048576 := hcy.2
        by_cases hg : t.2.1 + 2 < c
        · have hg' : gFree c t.1 t.2.1 = true := decide_eq_true hg
          have hge : ¬ c - 2 ≤ t.2.1 := by omega
          obtain ⟨q, hR, hx, hq⟩ := hr.wat k t ht
          have eW : (⟨S.R, S.P, S.K, partW S (gFree c) (fun x => x.leave o) k⟩ : Sk).W t.1 t.2.1 = S.W t.1 t.2.1 := partW_at S hS.knd _ _ k _ hkey
          rw [eW] at hR
          have J := ref_leave t.2.2 q _ (hS.wok t.1 t.2.1) o wr hR
          have A1 : Hid (∀ w2, RefAt w2 t.2.2 q ((S.W t.1 t.2.1).leave o) → Kept [t.2.2, q] wr w2 → RSkAt tag w2 sb pb (.slice (some ⟨g, 0, none⟩) L.length cap) L ⟨S.R, S.P, S.K, partW S (gFree c) (fun x => x.leave o) (k + 1)⟩ ∧ Moved F F w' w2) := fun w2 g1 g2 => by
            have := hr.turned hF hS ht hg' hx hq g1 g2
            exact ⟨this.1, hM.trans this.2⟩
          have p0 := preG_bd S hS (gFree c) (fun x => x.leaveN o) (leaveN_bd o) k
          have n0 := leaveN_bd o _ (hS.wok t.1 t.2.1)
          have n1 := (hS.wok t.1 t.2.1).t1
          have P1 : Hid (preG S (gFree c) (fun x => x.leaveN o) (k + 1) = preG S (gFree c) (fun x => x.leaveN o) k + (S.W t.1 t.2.1).leaveN o) := preG_yes S _ _ k _ hkey hg'
          have Q1 := hide (anyF_succ S o c k _ hkey)
          obtain ⟨p1, p2⟩ : 0 ≤ preG S (gFree c) (fun x => x.leaveN o) k ∧ preG S (gFree c) (fun x => x.leaveN o) k ≤ 1000 * 1125899906842624 := by
            have : (S.K.length : Int) * 1125899906842624 ≤ 1000 * 1125899906842624 := Int.mul_le_mul_of_nonneg_right (by omega) (by decide)
            omega
          obtain ⟨m0, m1⟩ : 0 ≤ (S.W t.1 t.2.1).leaveN o ∧ (S.W t.1 t.2.1).leaveN o ≤ 1125899906842624 := by omega
          by_cases hz : (S.W t.1 t.2.1).leaveC o = 0
          · have T1 : ((S.W t.1 t.2.1).leaveC o == 0) = true := by simp [hz]
            have Q2 : Hid (anyF S o c (k + 1) = true) := by
              show _ = _
              rw [Q1.out, decide_eq_true hz, decide_eq_true hg]
              simp
            clear hz hg hg' hR hx hq hkey hcy eW hc e ht p0 n0 n1 Q1 hr hM h
            generalize (S.W t.1 t.2.1).leaveC o = C at *
            generalize (S.W t.1 t.2.1).leaveN o = N at *
            generalize preG S (gFree c) (fun x => x.leaveN o) k = P at *
            go_wp2_with (go_at_call 156; refine J.mono ?_; rintro e w2 ⟨rfl, hR2, hK2⟩)
            go_roundw
            case rel => exact ⟨k + 1, by omega, by rw [P1.out], by rw [Q2.out], by go_num, A1.out _ hR2 hK2⟩
            case measure => simp [intOf]; omega
          · have T1 : ((S.W t.1 t.2.1).leaveC o == 0) = false := by simp [hz]
            have Q2 : Hid (anyF S o c (k + 1) = anyF S o c k) := by
              show _ = _
              rw [Q1.out, decide_eq_false hz]
              simp
            have N0 : Hid ((S.W t.1 t.2.1).leaveN o = 0) := (St.leave_no rfl hz).2
            clear hz hg hg' hR hx hq hkey hcy eW hc e ht p0 n0 n1 Q1 hr hM h
            generalize (S.W t.1 t.2.1).leaveC o = C at *
            generalize (S.W t.1 t.2.1).leaveN o = N at *
            go_wp2_with (go_at_call 156; refine J.mono ?_; rintro e w2 ⟨rfl, hR2, hK2⟩)
            go_roundw
            case rel => exact ⟨k + 1, by omega, by rw [P1.out, N0.out, Int.add_zero], by rw [Q2.out], by go_num, A1.out _ hR2 hK2⟩
            case measure => simp [intOf]; omega
        · have hg' : gFree c t.1 t.2.1 = false := decide_eq_false hg
          have hge : c - 2 ≤ t.2.1 := by omega
          have A1 := hide (hr.stays ht hg')
          have P1 : Hid (preG S (gFree c) (fun x => x.leaveN o) (k + 1) = preG S (gFree c) (fun x => x.leaveN o) k) := preG_no S _ _ k _ hkey hg'
          have Q2 : Hid (anyF S o c (k + 1) = anyF S o c k) := by
            show _ = _
            rw [anyF_succ S o c k _ hkey, decide_eq_false hg]
            simp
          clear hg hg' hkey hcy hc e ht hr h
          go_wp2
          go_roundw
          case rel => exact ⟨k + 1, by omega, by rw [P1.out], by rw [Q2.out], by go_num, A1.out, hM⟩
          case measure => simp [intOf]; omega
      · obtain rfl : k = L.length := by omega
        have hr' : Hid (RSk F wr sb (S.free o c) ∧ Moved F F w' wr) := by
          show _ ∧ _
          rw [E1.out, kl]
          exact ⟨⟨tag, pb, _, L, hF, hr⟩, hM⟩
        have E4 : Hid (S.freeN o c = preG S (gFree c) (fun x => x.leaveN o) L.length) := by
          show _ = _
          rw [E2.out, kl]
        have Q2 : anyF S o c L.length = S.has o c := by rw [← kl]; exact anyF_all S o c
        rw [Q2]
        cases hh : S.has o c with
        | true =>
          have E5 : Hid (S.freeC o c = 0) := by show _ = _; rw [E3.out, hh]; rfl
          clear hr hM hh Q2 h
          go_wp2
          go_ret2
          exact ⟨ret_int2 E4.out.symm E5.out.symm, hr'.out⟩
        | false =>
          have E5 : Hid (S.freeC o c = 4) := by show _ = _; rw [E3.out, hh]; rfl
          have E6 := hide (freeN_none S o c hh)
          clear hr hM hh Q2 h
          go_wp2
          go_ret2
          exact ⟨ret_int2 E6.out.symm E5.out.symm, hr'.out⟩
  · have E1 : Hid (S.free o c = S) := if_pos hb
    have E2 : Hid (S.freeN o c = 0) := if_pos hb
    have E3 : Hid (S.freeC o c = 2) := if_pos hb
    by_cases ho : Ow o
    · have I := isOwner_yes o ho.1 ho.2
      by_cases h0 : 0 ≤ c
      · have h1 : ¬ c ≤ 1048576 := fun g => hb ⟨ho, h0, g⟩
        clear hb ho
        go_enter Tryz.func108, Tryz.ntmps108
        go_wp2_with (go_at_call 107; refine (I _).mono ?_; rintro e w' ⟨rfl, rfl⟩)
        go_ret2
        exact ⟨ret_int2 E2.out.symm E3.out.symm, RSk.as ⟨h, Moved.refl _ _⟩ E1.out⟩
      · clear hb ho
        go_enter Tryz.func108, Tryz.ntmps108
        go_wp2_with (go_at_call 107; refine (I _).mono ?_; rintro e w' ⟨rfl, rfl⟩)
        go_ret2
        exact ⟨ret_int2 E2.out.symm E3.out.symm, RSk.as ⟨h, Moved.refl _ _⟩ E1.out⟩
    · have I := isOwner_no o ho
      clear hb ho
      go_enter Tryz.func108, Tryz.ntmps108
      go_wp2_with (go_at_call 107; refine (I _).mono ?_; rintro e w' ⟨rfl, rfl⟩)
      go_ret2
      exact ⟨ret_int2 E2.out.symm E3.out.symm, RSk.as ⟨h, Moved.refl _ _⟩ E1.out⟩
end Go.Proofs.YtmbfdhekplnoaaaGreatDoor

namespace Go.Proofs.YtmbfdhekplnoaaaGreatDoor
open Go.RowKit

def gSlash (b f : Int) : Int → Int → Bool := fun b' c' => decide (b' = b ∧ f ≤ c')
def Sk.cut (S : Sk) (b p : Int) : Sk := ⟨S.R, set1 S.P b ((S.P b).slash p), S.K, S.W⟩
theorem Sk.Ok.cut {S : Sk} (hS : S.Ok) {b : Int} (hr : S.R b = true) (p : Int) : (S.cut b p).Ok := hS.pool hr ((hS.pok b).slash p)
theorem slash_is (S : Sk) (hS : S.Ok) (b f p : Int) (hr : S.R b = true) (hp : 0 ≤ p ∧ p ≤ 100) :
    S.slash b f p = ⟨S.R, (S.cut b p).P, S.K, partW (S.cut b p) (gSlash b f) (fun x => x.slash p) S.K.length⟩ ∧ S.slashN b f p = (S.P b).slashN p + preG (S.cut b p) (gSlash b f) (fun x => x.slashN p) S.K.length ∧ S.slashC b p = 0 := by
  have hc : S.slashC b p = 0 := (if_pos hr).trans (if_pos hp)
  refine ⟨?_, ?_, hc⟩
  · have := partW_all (S.cut b p) (hS.cut hr p) (gSlash b f) (fun x => x.slash p) (e0_slash p)
    rw [show (S.cut b p).K.length = S.K.length from rfl] at this
    rw [this]
    unfold Sk.slash
    rw [if_pos hc]
    simp only [gSlash, decide_eq_true_eq]
    rfl
  · have := preG_all (S.cut b p) (gSlash b f) (fun x => x.slashN p)
    rw [show (S.cut b p).K.length = S.K.length from rfl] at this
    rw [this]
    unfold Sk.slashN
    rw [if_pos hc]
    simp only [gSlash, decide_eq_true_eq]
    rfl
theorem slashN_bd' (p : Int) (x : St) (h : x.Ok) : 0 ≤ x.slashN p ∧ x.slashN p ≤ x.T := h.slashN_bd p

set_option maxRecDepth 100000 in
set_option maxHeartbeats 1000000 in
theorem rs_slash (F : Nat → Prop) (sb : Nat) (S : Sk) (hS : S.Ok) (hL : S.K.length ≤ 1000) (b f p : Int) (w : World) (h : RSk F w sb S) :
    Calls Tryz.prog 227 #[.pointer (some ⟨sb, 0, none⟩), .int .i64 b, .int .i64 f, .int .i64 p] w fun e w' => e = .returned (.tuple #[.int .i64 (S.slashN b f p), .int .i64 (S.slashC b p)]) ∧ RSk F w' sb (S.slash b f p) ∧ Moved F F w w' := by
  obtain ⟨tag, pb, v, L, hF, h⟩ := h
  have I := rs_is tag sb pb v L S hS b w h
  have c0 := h.c0
  cases hr : S.R b with
  | true =>
    rw [hr] at I
    obtain ⟨kb, rfl⟩ : ∃ k : Nat, b = k := ⟨b.toNat, by have := hS.rin b hr; omega⟩
    have hkb : kb < 3 := by have := hS.rin _ hr; omega
    obtain ⟨x, q, hc, hR, hx, hq⟩ := h.p kb hkb hr
    have J := ref_slash x q _ (hS.pok kb) p w hR
    by_cases hp : 0 ≤ p ∧ p ≤ 100
    · obtain ⟨e1, e2, e3⟩ := slash_is S hS kb f p hr hp
      have E1 := hide e1
      have E2 := hide e2
      have E3 := hide e3
      have hC : (S.P kb).slashC p = 0 := (St.slash_yes hp).1
      have hS1 := hS.cut hr p
      have kl := h.klen
      have l0 : L.length ≤ 1000 := by omega
      have A0 : Hid (∀ w', RefAt w' x q ((S.P kb).slash p) → Kept [x, q] w w' → RSkAt tag w' sb pb v L (S.cut kb p) ∧ Moved F F w w') := fun w' g1 g2 => ⟨h.pool kb hkb hr hx hq hc g1 g2, (h.acted hF kb hkb hr hx hq hc g1 g2).2⟩
      have n0 := slashN_bd' p _ (hS.pok kb)
      have n1 := (hS.pok kb).t1
      obtain ⟨m0, m1⟩ : 0 ≤ (S.P kb).slashN p ∧ (S.P kb).slashN p ≤ 1125899906842624 := by omega
      obtain ⟨a, cap, rfl⟩ := h.shape
      rw [hC] at J
      clear e1 e2 e3 hp hR hr hx hq n0 n1 hC h
      go_enter Tryz.func227, Tryz.ntmps227
      go_wp2_with (first | (go_at_call 101; refine I.mono ?_; rintro e w' ⟨rfl, rfl⟩) | (go_at_call 266; refine J.mono ?_; rintro e w1 ⟨rfl, hR1, hK1⟩))
      obtain ⟨h1, hM1⟩ := A0.out _ hR1 hK1
      clear J I A0 hR1 hK1 hc c0
      go_loopw [11, 13] (fun n i wr => ∃ k : Nat, k ≤ L.length ∧ n = .int .i64 ((S.P kb).slashN p + preG (S.cut kb p) (gSlash kb f) (fun x => x.slashN p) k) ∧ i = .int .i64 k ∧ RSkAt tag wr sb pb (.slice a L.length cap) L ⟨(S.cut kb p).R, (S.cut kb p).P, (S.cut kb p).K, partW (S.cut kb p) (gSlash kb f) (fun x => x.slash p) k⟩ ∧ Moved F F w' wr) (fun _ i _ => L.length - (intOf i).toNat)
      case atStart => exact ⟨0, Nat.zero_le _, by rw [show preG (S.cut kb p) (gSlash kb f) (fun x => x.slashN p) 0 = 0 from rfl, Int.add_zero], rfl, by rw [partW_zero]; exact h1, hM1⟩
      case round =>
        clear h1 hM1
        obtain ⟨k, hk, rfl, rfl, hr, hM⟩ := hrel
        have c1 := hr.c1
        by_cases hlt : k < L.length
        · obtain ⟨g, cap', e, hc, _⟩ := hr.row (by omega)
          obtain ⟨rfl, rfl⟩ : a = some ⟨g, 0, none⟩ ∧ cap = cap' := by cases e; exact ⟨rfl, rfl⟩
          obtain ⟨t, ht⟩ : ∃ t, L[k]? = some t := ⟨L[k], List.getElem?_eq_getElem hlt⟩
          have hkey : (S.cut kb p).K[k]? = some (t.1, t.2.1) := hr.key ht
          obtain ⟨d0, d1, d2⟩ := hc k t ht
          by_cases hg : t.1 = kb ∧ f ≤ t.2.1
          · have hg' : gSlash kb f t.1 t.2.1 = true := decide_eq_true hg
            obtain ⟨q, hR, hx, hq⟩ := hr.wat k t ht
            have eW : (⟨(S.cut kb p).R, (S.cut kb p).P, (S.cut kb p).K, partW (S.cut kb p) (gSlash kb f) (fun x => x.slash p) k⟩ : Sk).W t.1 t.2.1 = S.W t.1 t.2.1 := partW_at (S.cut kb p) hS.knd (gSlash kb f) (fun x => x.slash p) k _ hkey
            rw [eW] at hR
            have J := ref_slash t.2.2 q _ (hS.wok t.1 t.2.1) p wr hR
            have A1 : Hid (∀ w2, RefAt w2 t.2.2 q ((S.W t.1 t.2.1).slash p) → Kept [t.2.2, q] wr w2 → RSkAt tag w2 sb pb (.slice (some ⟨g, 0, none⟩) L.length cap) L ⟨(S.cut kb p).R, (S.cut kb p).P, (S.cut kb p).K, partW (S.cut kb p) (gSlash kb f) (fun x => x.slash p) (k + 1)⟩ ∧ Moved F F w' w2) := fun w2 g1 g2 => by
              have := hr.turned hF hS1 ht hg' hx hq g1 g2
              exact ⟨this.1, hM.trans this.2⟩
            have p0 := preG_bd (S.cut kb p) hS1 (gSlash kb f) (fun x => x.slashN p) (slashN_bd' p) k
            rw [show (S.cut kb p).K.length = S.K.length from rfl] at p0
            have n0 := slashN_bd' p _ (hS.wok t.1 t.2.1)
            have n1 := (hS.wok t.1 t.2.1).t1
            have P1 : Hid ((S.P kb).slashN p + preG (S.cut kb p) (gSlash kb f) (fun x => x.slashN p) (k + 1) = (S.P kb).slashN p + preG (S.cut kb p) (gSlash kb f) (fun x => x.slashN p) k + (S.W t.1 t.2.1).slashN p) := by
              have : preG (S.cut kb p) (gSlash kb f) (fun x => x.slashN p) (k + 1) = preG (S.cut kb p) (gSlash kb f) (fun x => x.slashN p) k + (S.W t.1 t.2.1).slashN p := preG_yes (S.cut kb p) _ _ k _ hkey hg'
              show _ = _
              rw [this, Int.add_assoc]
            obtain ⟨p1, p2⟩ : 0 ≤ (S.P kb).slashN p + preG (S.cut kb p) (gSlash kb f) (fun x => x.slashN p) k ∧ (S.P kb).slashN p + preG (S.cut kb p) (gSlash kb f) (fun x => x.slashN p) k ≤ 1001 * 1125899906842624 := by
              have : (S.K.length : Int) * 1125899906842624 ≤ 1000 * 1125899906842624 := Int.mul_le_mul_of_nonneg_right (by omega) (by decide)
              omega
            obtain ⟨m2, m3⟩ : 0 ≤ (S.W t.1 t.2.1).slashN p ∧ (S.W t.1 t.2.1).slashN p ≤ 1125899906842624 := by omega
            have T1 : (t.1 == (kb : Int)) = true := by simp [hg.1]
            have T2 := hg.2
            clear hg hg' hR hx hq hkey eW hc e ht p0 n0 n1 hr hM m0 m1
            generalize (S.W t.1 t.2.1).slashN p = N at *
            generalize (S.P kb).slashN p + preG (S.cut kb p) (gSlash kb f) (fun x => x.slashN p) k = P at *
            go_wp2_with (go_at_call 266; refine J.mono ?_; rintro e w2 ⟨rfl, hR2, hK2⟩)
            go_roundw
            case rel => exact ⟨k + 1, by omega, by rw [P1.out], by go_num, A1.out _ hR2 hK2⟩
            case measure => simp [intOf]; omega
          · have hg' : gSlash kb f t.1 t.2.1 = false := decide_eq_false hg
            have A1 := hide (hr.stays ht hg')
            have P1 : Hid (preG (S.cut kb p) (gSlash kb f) (fun x => x.slashN p) (k + 1) = preG (S.cut kb p) (gSlash kb f) (fun x => x.slashN p) k) := preG_no (S.cut kb p) _ _ k _ hkey hg'
            by_cases hz : t.1 = kb
            · have T1 : (t.1 == (kb : Int)) = true := by simp [hz]
              have T2 : ¬ f ≤ t.2.1 := fun g => hg ⟨hz, g⟩
              clear hz hg hg' hkey hc e ht hr
              go_wp2
              go_roundw
              case rel => exact ⟨k + 1, by omega, by rw [P1.out], by go_num, A1.out, hM⟩
              case measure => simp [intOf]; omega
            · have T1 : (t.1 == (kb : Int)) = false := by simp [hz]
              clear hz hg hg' hkey hc e ht hr
              go_wp2
              go_roundw
              case rel => exact ⟨k + 1, by omega, by rw [P1.out], by go_num, A1.out, hM⟩
              case measure => simp [intOf]; omega
        · obtain rfl : k = L.length := by omega
          have hr' : Hid (RSk F wr sb (S.slash kb f p) ∧ Moved F F w' wr) := by
            show _ ∧ _
            rw [E1.out, kl]
            exact ⟨⟨tag, pb, _, L, hF, hr⟩, hM⟩
          have E4 : Hid (S.slashN kb f p = (S.P kb).slashN p + preG (S.cut kb p) (gSlash kb f) (fun x => x.slashN p) L.length) := by
            show _ = _
            rw [E2.out, kl]
          clear hr hM
          go_wp2
          go_ret2
          exact ⟨ret_int2 E4.out.symm E3.out.symm, hr'.out⟩
    · have hC : (S.P kb).slashC p = 2 := (St.slash_no hp).1
      have hN : (S.P kb).slashN p = 0 := (St.slash_no hp).2.1
      have E3 : Hid (S.slashC kb p = 2) := (if_pos hr).trans (if_neg hp)
      have E2 : Hid (S.slashN kb f p = 0) := if_neg (by rw [E3.out]; decide)
      have E1 : Hid (S.slash kb f p = S) := if_neg (by rw [E3.out]; decide)
      have A0 : Hid (∀ w', RefAt w' x q ((S.P kb).slash p) → Kept [x, q] w w' → RSk F w' sb S ∧ Moved F F w w') := fun w' g1 g2 => by
        have := h.acted hF kb hkb hr hx hq hc g1 g2
        rw [set1_id S.P kb _ (St.slash_no hp).2.2] at this
        exact this
      rw [hC, hN] at J
      clear hp hR hr hx hq hC hN h
      go_enter Tryz.func227, Tryz.ntmps227
      go_wp2_with (first | (go_at_call 101; refine I.mono ?_; rintro e w' ⟨rfl, rfl⟩) | (go_at_call 266; refine J.mono ?_; rintro e w1 ⟨rfl, hR1, hK1⟩))
      go_ret2
      exact ⟨ret_int2 E2.out.symm E3.out.symm, RSk.as (A0.out _ hR1 hK1) E1.out⟩
  | false =>
    rw [hr] at I
    have E3 : Hid (S.slashC b p = 4) := if_neg (by rw [hr]; decide)
    have E2 : Hid (S.slashN b f p = 0) := if_neg (by rw [E3.out]; decide)
    have E1 : Hid (S.slash b f p = S) := if_neg (by rw [E3.out]; decide)
    clear hr
    go_enter Tryz.func227, Tryz.ntmps227
    go_wp2_with (go_at_call 101; refine I.mono ?_; rintro e w' ⟨rfl, rfl⟩)
    go_ret2
    exact ⟨ret_int2 E2.out.symm E3.out.symm, RSk.as ⟨⟨tag, pb, v, L, hF, h⟩, Moved.refl _ _⟩ E1.out⟩
end Go.Proofs.YtmbfdhekplnoaaaGreatDoor

namespace Go.Proofs.YtmbfdhekplnoaaaGreatDoor
open Go.RowKit

theorem ref_ratio (s t : Int) (w : World) :
    Calls Tryz.prog 224 #[.int .i64 s, .int .i64 t] w fun e w' => e = .returned (.tuple #[.int .i64 (ratioN s t), .int .i64 (ratioC s t)]) ∧ Below w.heap.size w w' := by
  have I := isAmount_ref s
  have J := isAmount_ref t
  by_cases h : RatioOk s t
  · have e1 : Hid (ratioC s t = 0) := if_pos h
    have e2 : Hid (ratioN s t = s * 1000000 / t) := if_pos h
    have b := ratio_bd h
    obtain ⟨⟨s0, s1⟩, t0, t1, st⟩ := h
    have P := product_yes s 1000000 t ⟨s0, s1, by omega, by omega, by omega, t1⟩ (by omega)
    rw [decide_eq_true (p := 0 ≤ s ∧ s ≤ 1125899906842624) ⟨s0, s1⟩] at I
    rw [decide_eq_true (p := 0 ≤ t ∧ t ≤ 1125899906842624) ⟨by omega, t1⟩] at J
    have z : (t == 0) = false := by simp; omega
    clear b
    go_enter Tryz.func224, Tryz.ntmps224
    go_wp2_with fail
    refine (I _).mono ?_
    rintro e w1 ⟨rfl, rfl⟩
    go_wp2_with fail
    refine (J _).mono ?_
    rintro e w2 ⟨rfl, rfl⟩
    go_wp2_with (go_at_call 155; refine (P _).mono ?_; rintro e w3 ⟨rfl, rfl⟩)
    go_ret2
    exact ⟨ret_int2 e2.out.symm e1.out.symm, Below.refl _ _⟩
  · have e1 : Hid (ratioC s t = 2) := if_neg h
    have e2 : Hid (ratioN s t = 0) := if_neg h
    by_cases hs : 0 ≤ s ∧ s ≤ 1125899906842624
    · rw [decide_eq_true hs] at I
      by_cases ht : 0 ≤ t ∧ t ≤ 1125899906842624
      · rw [decide_eq_true ht] at J
        by_cases hz : t = 0
        · have z : (t == 0) = true := by simp [hz]
          clear h hz hs ht
          go_enter Tryz.func224, Tryz.ntmps224
          go_wp2_with fail
          refine (I _).mono ?_
          rintro e w1 ⟨rfl, rfl⟩
          go_wp2_with fail
          refine (J _).mono ?_
          rintro e w2 ⟨rfl, rfl⟩
          go_wp2_with fail
          go_ret2
          exact ⟨ret_int2 e2.out.symm e1.out.symm, Below.refl _ _⟩
        · have z : (t == 0) = false := by simp [hz]
          have st : ¬ s ≤ t := fun g => h ⟨hs, by omega, ht.2, g⟩
          clear h hz hs ht
          go_enter Tryz.func224, Tryz.ntmps224
          go_wp2_with fail
          refine (I _).mono ?_
          rintro e w1 ⟨rfl, rfl⟩
          go_wp2_with fail
          refine (J _).mono ?_
          rintro e w2 ⟨rfl, rfl⟩
          go_wp2_with fail
          go_ret2
          exact ⟨ret_int2 e2.out.symm e1.out.symm, Below.refl _ _⟩
      · rw [decide_eq_false ht] at J
        clear h hs ht
        go_enter Tryz.func224, Tryz.ntmps224
        go_wp2_with fail
        refine (I _).mono ?_
        rintro e w1 ⟨rfl, rfl⟩
        go_wp2_with fail
        refine (J _).mono ?_
        rintro e w2 ⟨rfl, rfl⟩
        go_wp2_with fail
        go_ret2
        exact ⟨ret_int2 e2.out.symm e1.out.symm, Below.refl _ _⟩
    · rw [decide_eq_false hs] at I
      clear h hs J
      go_enter Tryz.func224, Tryz.ntmps224
      go_wp2_with fail
      refine (I _).mono ?_
      rintro e w1 ⟨rfl, rfl⟩
      go_wp2_with fail
      go_ret2
      exact ⟨ret_int2 e2.out.symm e1.out.symm, Below.refl _ _⟩

theorem ref_reward (s r : Int) (w : World) :
    Calls Tryz.prog 162 #[.int .i64 s, .int .i64 r] w fun e w' => e = .returned (.tuple #[.int .i64 (rewardN s r), .int .i64 (rewardC s r)]) ∧ Below w.heap.size w w' := by
  have I := isAmount_ref s
  by_cases h : RewardOk s r
  · have e1 : Hid (rewardC s r = 0) := if_pos h
    have e2 : Hid (rewardN s r = s * r / 1000000 / 4) := if_pos h
    obtain ⟨b0, b1⟩ := reward_bd h
    obtain ⟨⟨s0, s1⟩, r0, r1⟩ := h
    have P := product_yes s r 1000000 ⟨s0, s1, by omega, by omega, by omega, by omega⟩ (by omega)
    rw [decide_eq_true (p := 0 ≤ s ∧ s ≤ 1125899906842624) ⟨s0, s1⟩] at I
    generalize s * r / 1000000 = q at *
    go_enter Tryz.func162, Tryz.ntmps162
    go_wp2_with (first | (go_at_call 153; refine (I _).mono ?_; rintro e w1 ⟨rfl, rfl⟩) | (go_at_call 155; refine (P _).mono ?_; rintro e w3 ⟨rfl, rfl⟩))
    go_ret2
    exact ⟨ret_int2 e2.out.symm e1.out.symm, Below.refl _ _⟩
  · have e1 : Hid (rewardC s r = 2) := if_neg h
    have e2 : Hid (rewardN s r = 0) := if_neg h
    by_cases hs : 0 ≤ s ∧ s ≤ 1125899906842624
    · rw [decide_eq_true hs] at I
      by_cases r0 : 0 ≤ r
      · have r1 : ¬ r ≤ 1000000 := fun g => h ⟨hs, r0, g⟩
        clear h hs
        go_enter Tryz.func162, Tryz.ntmps162
        go_wp2_with (go_at_call 153; refine (I _).mono ?_; rintro e w1 ⟨rfl, rfl⟩)
        go_ret2
        exact ⟨ret_int2 e2.out.symm e1.out.symm, Below.refl _ _⟩
      · clear h hs
        go_enter Tryz.func162, Tryz.ntmps162
        go_wp2_with (go_at_call 153; refine (I _).mono ?_; rintro e w1 ⟨rfl, rfl⟩)
        go_ret2
        exact ⟨ret_int2 e2.out.symm e1.out.symm, Below.refl _ _⟩
    · rw [decide_eq_false hs] at I
      clear h hs
      go_enter Tryz.func162, Tryz.ntmps162
      go_wp2_with (go_at_call 153; refine (I _).mono ?_; rintro e w1 ⟨rfl, rfl⟩)
      go_ret2
      exact ⟨ret_int2 e2.out.symm e1.out.symm, Below.refl _ _⟩

theorem ref_bonus (b r : Int) (h : RateOk r b) (w : World) :
    Calls Tryz.prog 229 #[.int .i64 b, .int .i64 r] w fun e w' => e = .returned (.int .i64 (bonusV b r)) ∧ w' = w := by
  obtain ⟨⟨r0, r1⟩, b0, b1⟩ := h
  by_cases h1 : r < 480000
  · have h2 : ¬ 520000 < r := by omega
    by_cases h3 : b + 100 ≤ 5000
    · have e : Hid (bonusV b r = b + 100) := by
        show _ = _
        unfold bonusV
        rw [if_pos h1]
        split <;> omega
      go_enter Tryz.func229, Tryz.ntmps229
      go_wp2
      go_ret
      exact ⟨ret_int e.out.symm, rfl⟩
    · have e : Hid (bonusV b r = 5000) := by
        show _ = _
        unfold bonusV
        rw [if_pos h1, if_neg (by omega)]
      go_enter Tryz.func229, Tryz.ntmps229
      go_wp2
      go_ret
      exact ⟨ret_int e.out.symm, rfl⟩
  · by_cases h2 : 520000 < r
    · by_cases h3 : 0 ≤ b - 100
      · have h4 : b - 100 ≤ 5000 := by omega
        have e : Hid (bonusV b r = b - 100) := by
          show _ = _
          unfold bonusV
          rw [if_neg h1, if_pos h2]
          split <;> omega
        go_enter Tryz.func229, Tryz.ntmps229
        go_wp2
        go_ret
        exact ⟨ret_int e.out.symm, rfl⟩
      · have h4 : b - 100 ≤ 5000 := by omega
        have e : Hid (bonusV b r = 0) := by
          show _ = _
          unfold bonusV
          rw [if_neg h1, if_pos h2, if_neg (by omega)]
        go_enter Tryz.func229, Tryz.ntmps229
        go_wp2
        go_ret
        exact ⟨ret_int e.out.symm, rfl⟩
    · have e : Hid (bonusV b r = b) := by
        show _ = _
        unfold bonusV
        rw [if_neg h1, if_neg h2]
      go_enter Tryz.func229, Tryz.ntmps229
      go_wp2
      go_ret
      exact ⟨ret_int e.out.symm, rfl⟩
end Go.Proofs.YtmbfdhekplnoaaaGreatDoor

namespace Go.Proofs.YtmbfdhekplnoaaaGreatDoor
open Go.RowKit

theorem RChAt.movedP {tag : Nat → Nat} {w w' : World} {cb pb pq sb kb : Nat} {v : Value} {M : List (Nat × Nat)} {C : Ch} {F : Nat → Prop} (h : RChAt tag w cb pb pq sb kb v M C) (hF : ∀ k, F k ↔ tag k ≠ 0) (hK : Kept [pb, pq] w w') : Moved F F w w' :=
  ⟨KeptP.of_kept hK fun k hk => (hF k).2 (by
    rcases List.mem_cons.1 hk with e | e
    · rw [e, h.tp]; decide
    · rw [List.mem_singleton.1 e, h.tq]; decide), fun _ _ g => g⟩
theorem St.joinC_nn (x : St) (o n : Int) : 0 ≤ x.joinC o n := by unfold St.joinC; repeat' split <;> omega
theorem Sk.joinC_nn (S : Sk) (o b n : Int) : 0 ≤ S.joinC o b n := by
  unfold Sk.joinC
  split
  · exact St.joinC_nn _ _ _
  · omega
theorem Pu.outC_nn (x : Pu) (o n : Int) : 0 ≤ x.outC o n := by unfold Pu.outC; repeat' split <;> omega
set_option maxRecDepth 100000 in
set_option maxHeartbeats 1000000 in
theorem rch_stake (F : Nat → Prop) (cb : Nat) (C : Ch) (hC : C.Ok) (o b n : Int) (w : World) (h : RCh F w cb C) :
    Calls Tryz.prog 39 #[.pointer (some ⟨cb, 0, none⟩), .int .i64 o, .int .i64 b, .int .i64 n] w fun e w' => e = .returned (.int .i64 (C.stakeC o b n)) ∧ ∃ F', RCh F' w' cb (C.stake o b n) ∧ Moved F F' w w' := by
  obtain ⟨tag, pb, pq, sb, kb, v, M, hF, h⟩ := h
  have c0 := h.c0
  have P := rp_out pb pq C.p hC.p o n w h.p
  by_cases k1 : C.p.outC o n = 0
  · rw [k1] at P
    by_cases k2 : C.s.joinC o b n = 0
    · have e1 : C.stakeC o b n = 0 := by unfold Ch.stakeC; rw [if_neg (not_not_intro k1)]; exact k2
      have e2 : C.stake o b n = { C with p := C.p.out o n, s := C.s.join o b n } := if_pos e1
      rw [e1, e2]
      have K2 := hide k2
      clear e1 e2 k2
      go_enter Tryz.func39, Tryz.ntmps39
      go_wp2_with fail
      refine P.mono ?_
      rintro e w1 ⟨rfl, hp1, hK1⟩
      have h1 := h.purse hp1 hK1
      have M1 := h.movedP hF hK1
      have d1 := h1.c1
      have J := rs_join _ sb C.s hC.s o b n w1 h1.s
      rw [K2.out] at J
      clear P c0 hp1 hK1 h
      go_wp2_with fail
      refine J.mono ?_
      rintro e w2 ⟨rfl, hs2, hM2⟩
      have h2 := h1.stakes hs2 hM2
      have M2 := retag_moved hF hM2 (by decide)
      clear J d1 h1
      go_wp2_with fail
      go_ret
      exact ⟨rfl, _, ⟨_, pb, pq, sb, kb, v, M, fun _ => Iff.rfl, h2⟩, M1.trans M2⟩
    · have nn := C.s.joinC_nn o b n
      have e1 : C.stakeC o b n = C.s.joinC o b n := by unfold Ch.stakeC; rw [if_neg (not_not_intro k1)]
      have e2 : C.stake o b n = C := if_neg (by rw [e1]; exact k2)
      rw [e1, e2]
      have K2 := hide k2
      have K1 := hide k1
      have pos : 0 < C.s.joinC o b n := by omega
      clear e1 e2 k2 k1
      go_enter Tryz.func39, Tryz.ntmps39
      go_wp2_with fail
      refine P.mono ?_
      rintro e w1 ⟨rfl, hp1, hK1⟩
      have h1 := h.purse hp1 hK1
      have M1 := h.movedP hF hK1
      have d1 := h1.c1
      have J := rs_join _ sb C.s hC.s o b n w1 h1.s
      clear P c0 hp1 hK1 h
      go_wp2_with fail
      refine J.mono ?_
      rintro e w2 ⟨rfl, hs2, hM2⟩
      rw [Sk.join_same K2.out] at hs2
      have h2 := h1.stakes hs2 hM2
      have M2 := retag_moved hF hM2 (by decide)
      have d0 := h2.c0
      have I := rp_in pb pq (C.p.out o n) (hC.p.out' o n) o n w2 h2.p
      rw [Pu.out_in hC.p K1.out] at I
      clear J d1 h1
      go_wp2_with fail
      refine I.mono ?_
      rintro e w3 ⟨rfl, hp3, hK3⟩
      have h3 := h2.purse hp3 hK3
      have M3 := h2.movedP (fun _ => Iff.rfl) hK3
      clear I d0 h2
      go_wp2_with fail
      go_ret
      exact ⟨rfl, _, ⟨_, pb, pq, sb, kb, v, M, fun _ => Iff.rfl, h3⟩, (M1.trans M2).trans M3⟩
  · have nn := C.p.outC_nn o n
    have e1 : C.stakeC o b n = C.p.outC o n := if_pos k1
    have e2 : C.stake o b n = C := if_neg (by rw [e1]; exact k1)
    have e3 : C.p.out o n = C.p := if_neg k1
    rw [e1, e2]
    rw [e3] at P
    have pos : 0 < C.p.outC o n := by omega
    clear e1 e2 e3 k1
    go_enter Tryz.func39, Tryz.ntmps39
    go_wp2_with fail
    refine P.mono ?_
    rintro e w1 ⟨rfl, hp1, hK1⟩
    have h1 := h.purse hp1 hK1
    have M1 := h.movedP hF hK1
    clear P c0 hp1 hK1 h
    go_wp2_with fail
    go_ret
    exact ⟨rfl, F, ⟨tag, pb, pq, sb, kb, v, M, hF, h1⟩, M1⟩
theorem RChAt.drewN {tag : Nat → Nat} {w : World} {cb pb pq sb kb : Nat} {v : Value} {M : List (Nat × Nat)} {C : Ch} (h : RChAt tag w cb pb pq sb kb v M C) (n : Nat) : RChAt tag (w.drewN n) cb pb pq sb kb v M C := h.keptP (G := fun _ => False) ((KeptP.refl _ _).drewN n) fun _ g => g.elim
theorem RChAt.nextB {tag : Nat → Nat} {w w' : World} {cb pb pq sb kb : Nat} {v : Value} {M : List (Nat × Nat)} {C : Ch} (h : RChAt tag w cb pb pq sb kb v M C) (k : Below w.heap.size w w') : RChAt tag w' cb pb pq sb kb v M C := h.keptP (KeptP.of_below (F := fun _ => False) k) fun _ g => g.elim
theorem RCh.drewN {F : Nat → Prop} {w : World} {cb : Nat} {C : Ch} (h : RCh F w cb C) (n : Nat) : RCh F (w.drewN n) cb C := h.keptP (G := fun _ => False) ((KeptP.refl _ _).drewN n) fun _ g => g.elim
theorem RCh.nextB {F : Nat → Prop} {w w' : World} {cb : Nat} {C : Ch} (h : RCh F w cb C) (k : Below w.heap.size w w') : RCh F w' cb C := h.keptP (KeptP.of_below (F := fun _ => False) k) fun _ g => g.elim
theorem cyc_wf {n : Nat} (h : n ≤ 1000) : (Lit.int .i64 (n : Int)).wf = true := WalkArith.wf_i64 (by omega)
set_option maxRecDepth 100000 in
set_option maxHeartbeats 1000000 in
theorem rch_free (F : Nat → Prop) (cb : Nat) (C : Ch) (hC : C.Ok) (hl : C.s.K.length ≤ 1000) (hy : C.cyc ≤ 1000) (o : Int) (w : World) (h : RCh F w cb C) :
    Calls Tryz.prog 42 #[.pointer (some ⟨cb, 0, none⟩), .int .i64 o] w fun e w' => e = .returned (.tuple #[.int .i64 (C.s.freeN o C.cyc), .int .i64 (C.s.freeC o C.cyc)]) ∧ ∃ F', RCh F' w' cb (C.free o) ∧ Moved F F' w w' := by
  obtain ⟨tag, pb, pq, sb, kb, v, M, hF, h⟩ := h
  have c1 := h.c1
  have c4 := h.c4
  have nc : ¬ tag cb = 3 := by rw [h.tc]; decide
  by_cases k : C.s.freeC o C.cyc = 0
  · have e2 : C.free o = { C with p := C.p.in' o (C.s.freeN o C.cyc), s := C.s.free o C.cyc } := if_pos k
    have ki := h.p
    have KI := hide (hC.freeIn k)
    rw [k, e2]
    have K := hide k
    clear e2 k ki
    go_enter Tryz.func42, Tryz.ntmps42
    go_wp2_with fail
    go_region_held3 (fun w' => w'.cell? ⟨cb, 1, none⟩ = some (.pointer (some ⟨sb, 0, none⟩)) ∧ w'.cell? ⟨cb, 4, none⟩ = some (.int .i64 C.cyc)) (exact ⟨by assumption, by assumption⟩)
      (first | (go_at_call 108; refine (rs_free _ sb C.s hC.s hl o C.cyc (cyc_wf hy) _ (by first | exact h.s | exact h.s.drewN _)).mono ?_; rintro e w1 ⟨rfl, hs1, hM1⟩; have d1 := hM1.kept.old (p := ⟨cb, 1, none⟩) c1 nc; have d4 := hM1.kept.old (p := ⟨cb, 4, none⟩) c4 nc; obtain ⟨wq, hq, hMq, hB⟩ := (by first | exact ⟨_, h, hM1, Below.refl _ _⟩ | exact ⟨_, h.drewN _, hM1, below_drewN (Below.refl _ _) _⟩ : ∃ wq, RChAt tag wq cb pb pq sb kb v M C ∧ Moved (fun k => tag k = 3) (fun k => tag k = 3) wq w1 ∧ Below w.heap.size w wq); rw [K.out]))
    have h1 := hq.stakes hs1 hMq
    have M1 : Moved F _ w w1 := (⟨KeptP.of_below hB, fun _ _ g => g⟩ : Moved F F w wq).trans (retag_moved hF hMq (by decide))
    have e0 := h1.c0
    have I := rp_in pb pq C.p hC.p o (C.s.freeN o C.cyc) w1 h1.p
    rw [KI.out] at I
    clear c1 c4 d1 d4 h hq hMq hB hM1 hs1
    go_wp2_with fail
    refine I.mono ?_
    rintro e w2 ⟨rfl, hp2, hK2⟩
    have h2 := h1.purse hp2 hK2
    have M2 := h1.movedP (fun _ => Iff.rfl) hK2
    clear I e0 h1
    go_wp2_with fail
    go_ret2
    exact ⟨rfl, _, ⟨_, pb, pq, sb, kb, v, M, fun _ => Iff.rfl, h2⟩, M1.trans M2⟩
  · have e2 : C.free o = C := if_neg k
    have kb' : (C.s.freeC o C.cyc == 0) = false := by rw [beq_eq_false_iff_ne]; exact k
    have K := hide (hC.s.free_same k)
    rw [e2]
    clear e2 k
    go_enter Tryz.func42, Tryz.ntmps42
    go_wp2_with fail
    go_region_held3 (fun w' => w'.cell? ⟨cb, 1, none⟩ = some (.pointer (some ⟨sb, 0, none⟩)) ∧ w'.cell? ⟨cb, 4, none⟩ = some (.int .i64 C.cyc)) (exact ⟨by assumption, by assumption⟩)
      (first | (go_at_call 108; refine (rs_free _ sb C.s hC.s hl o C.cyc (cyc_wf hy) _ (by first | exact h.s | exact h.s.drewN _)).mono ?_; rintro e w1 ⟨rfl, hs1, hM1⟩; have d1 := hM1.kept.old (p := ⟨cb, 1, none⟩) c1 nc; have d4 := hM1.kept.old (p := ⟨cb, 4, none⟩) c4 nc; obtain ⟨wq, hq, hMq, hB⟩ := (by first | exact ⟨_, h, hM1, Below.refl _ _⟩ | exact ⟨_, h.drewN _, hM1, below_drewN (Below.refl _ _) _⟩ : ∃ wq, RChAt tag wq cb pb pq sb kb v M C ∧ Moved (fun k => tag k = 3) (fun k => tag k = 3) wq w1 ∧ Below w.heap.size w wq)))
    rw [K.out] at hs1
    have h1 := hq.stakes hs1 hMq
    have M1 : Moved F _ w w1 := (⟨KeptP.of_below hB, fun _ _ g => g⟩ : Moved F F w wq).trans (retag_moved hF hMq (by decide))
    clear c1 c4 d1 d4 h hq hMq hB hM1 hs1
    go_wp2_with fail
    go_ret2
    exact ⟨rfl, _, ⟨_, pb, pq, sb, kb, v, M, fun _ => Iff.rfl, h1⟩, M1⟩
def stTo (S : Sk) : Nat → Int
  | 0 => 0
  | k + 1 => stTo S k + (S.P k).T
theorem stTo_three (S : Sk) : stTo S 3 = (S.P 0).T + (S.P 1).T + (S.P 2).T := by simp [stTo]
theorem stTo_bd {S : Sk} (h : S.Ok) : ∀ k, 0 ≤ stTo S k ∧ stTo S k ≤ k * 1125899906842624
  | 0 => ⟨Int.le_refl _, by simp [stTo]⟩
  | k + 1 => by
    have a := stTo_bd h k
    have b := h.P_bd k
    have e : stTo S (k + 1) = stTo S k + (S.P k).T := rfl
    rw [e, Int.natCast_add, Int.add_mul]
    omega
set_option maxRecDepth 100000 in
set_option maxHeartbeats 1000000 in
theorem rch_ratio (F : Nat → Prop) (cb : Nat) (C : Ch) (hC : C.Ok) (w : World) (h : RCh F w cb C) :
    Calls Tryz.prog 164 #[.pointer (some ⟨cb, 0, none⟩)] w fun e w' => e = .returned (.int .i64 C.ratio) ∧ Below w.heap.size w w' := by
  obtain ⟨tag, pb, pq, sb, kb, v, M, hF, h⟩ := h
  have c0 := h.c0
  have c1 := h.c1
  have p1 := h.p.c1
  have bd := fun k => stTo_bd hC.s k
  go_enter Tryz.func164, Tryz.ntmps164
  go_wp2_with fail
  go_loop [3, 4] (fun n i => ∃ k : Nat, k ≤ 3 ∧ i = .int .i64 k ∧ n = .int .i64 (stTo C.s k)) (fun _ i => 3 - (intOf i).toNat)
  case atStart => exact ⟨0, by omega, rfl, rfl⟩
  case round =>
    obtain ⟨k, hk, rfl, rfl⟩ := hrel
    by_cases hlt : k < 3
    · obtain ⟨tg, qb, qv, L, _, hs⟩ := h.s
      have Q := rs_staked tg sb qb qv L C.s hC.s k w hs
      have a := bd k
      have b := hC.s.P_bd k
      have hN : stTo C.s (k + 1) = stTo C.s k + (C.s.P k).T := rfl
      have HN := hide hN
      have kk : (k : Int) ≤ 2 := by omega
      have a2 : stTo C.s k ≤ 3377699720527872 := by
        have := a.2
        have : (k : Int) * 1125899906842624 ≤ 2 * 1125899906842624 := Int.mul_le_mul_of_nonneg_right kk (by omega)
        omega
      have a1 := a.1
      obtain ⟨b1, b2⟩ := b
      clear hN a bd kk
      go_wp2_with fail
      refine Q.mono ?_
      rintro e w1 ⟨rfl, hw⟩
      subst hw
      go_wp2_with fail
      go_round
      case rel => exact ⟨k + 1, by omega, by go_num, by rw [HN.out]⟩
      case measure => simp [intOf]; omega
    · obtain rfl : k = 3 := by omega
      have e3 := stTo_three C.s
      have R := ref_ratio (stTo C.s 3) C.p.S w
      rw [e3] at R ⊢
      clear e3 bd
      go_wp2_with fail
      refine R.mono ?_
      rintro e w1 ⟨rfl, hB⟩
      go_wp2_with fail
      go_ret
      exact ⟨rfl, hB⟩
end Go.Proofs.YtmbfdhekplnoaaaGreatDoor

namespace Go.Proofs.YtmbfdhekplnoaaaGreatDoor
open Go.RowKit

def picRow (S : Sk) : Nat → List Value
  | 0 => []
  | k + 1 => picRow S k ++ [.int .i64 (S.pic k)]
theorem picRow_len (S : Sk) : ∀ k, (picRow S k).length = k
  | 0 => rfl
  | k + 1 => by simp [picRow, picRow_len S k]
theorem picRow_at (S : Sk) (k i : Nat) (h : i < k) : (picRow S k)[i]? = some (.int .i64 (S.pic i)) := by
  induction k with
  | zero => omega
  | succ k ih =>
    rcases Nat.lt_or_eq_of_le (Nat.le_of_lt_succ h) with l | l
    · rw [picRow, List.getElem?_append_left (by rw [picRow_len]; exact l)]; exact ih l
    · subst l; rw [picRow, List.getElem?_append_right (by rw [picRow_len]; omega), picRow_len]; simp
theorem row_shape3 {w : World} {B size n : Nat} {e : TypeId} {v : Value} {xs : List Value} (h : w.ownsRow B e size v n xs) : ∃ a cap, v = .slice a n cap := by
  rcases h.2 with ⟨e, h0⟩ | ⟨g, cap, cur, e, _⟩
  · exact ⟨none, 0, by rw [e, h0]⟩
  · exact ⟨_, _, e⟩
theorem grown_pic {w w' : World} {v : Value} {B : Nat} (h : w.grownBy w' v.ownBlock) (hv : ∀ q, v.ownBlock = some q → B ≤ q) (hB : B ≤ w.heap.size) : Below B w w' :=
  ⟨h.os, h.tape, h.output, h.size, fun k hk => h.block k (by omega) fun e => by have := hv k e.symm; omega⟩
theorem Tryz.infoIntR : (Tryz.prog.info? 3).map (fun i => (i.zero, i.size, i.bytes)) = some (some (.int .i64 0), 1, 8) := by kernel_rfl
set_option maxRecDepth 100000 in
set_option maxHeartbeats 2000000 in
theorem rk_picture (G : Nat → Prop) (rb : Nat) (S : Sk) (hS : S.Ok) (w : World) (h : RSk G w rb S) :
    Calls Tryz.prog 36 #[.pointer (some ⟨rb, 0, none⟩)] w fun e w' => ∃ m cap, e = .returned (.slice (some ⟨m, 0, none⟩) 3 cap) ∧ (w.heap.size ≤ m ∧ m < w'.heap.size) ∧ Ints w' m 0 3 S.pic ∧ Below w.heap.size w w' := by
  obtain ⟨tag, pb, v, L, hG, h⟩ := h
  go_enter Tryz.func36, Tryz.ntmps36
  go_wp2_with fail
  go_loopw [3, 4] (fun r i wr => ∃ k : Nat, k ≤ 3 ∧ i = .int .i64 k ∧ wr.ownsRow w.heap.size 3 1 r k (picRow S k) ∧ Below w.heap.size w wr) (fun _ i _ => 3 - (intOf i).toNat)
  case atStart => exact ⟨0, Nat.zero_le _, rfl, World.ownsRow_nil _ _ _ _, Below.refl _ _⟩
  case round =>
    obtain ⟨k, hk, rfl, own, hB⟩ := hrel
    by_cases hlt : k < 3
    · have h5 := h.keptP (KeptP.of_below (F := fun _ => False) hB) (fun _ g => g.elim)
      have C := rs_staked tag rb pb v L S hS k wr h5
      have eW : S.pic k = wtOf (S.P k).T := rfl
      unfold wtOf at eW
      obtain ⟨i0, hi, hz0, hz1, hz2⟩ := info_parts Tryz.infoIntR
      have hc : ((S.P k).T < 100 ∧ S.pic k = 0) ∨ (100 ≤ (S.P k).T ∧ 1073741824 < (S.P k).T ∧ S.pic k = 1073741824) ∨ (100 ≤ (S.P k).T ∧ (S.P k).T ≤ 1073741824 ∧ S.pic k = (S.P k).T) := by
        rw [eW]
        by_cases g1 : (S.P k).T < 100
        · exact .inl ⟨g1, if_pos g1⟩
        · rw [if_neg g1]
          by_cases g2 : 1073741824 < (S.P k).T
          · exact .inr (.inl ⟨by omega, g2, if_pos g2⟩)
          · exact .inr (.inr ⟨by omega, by omega, if_neg g2⟩)
      have eR : picRow S (k + 1) = picRow S k ++ [.int .i64 (S.pic k)] := rfl
      have szB := hB.size
      obtain ⟨aR, cR, rfl⟩ := row_shape3 own
      have l63 : k + 1 ≤ maxLen := by simp only [maxLen]; omega
      have l64 : (k + 1) * 8 ≤ 140737488355328 := by omega
      clear h h5 eW
      rcases hc with ⟨g1, e⟩ | ⟨g0, g1, e⟩ | ⟨g0, g1, e⟩ <;> rw [e] at eR <;> have ER := hide eR <;> clear e eR
      · have N6 : ∀ j u, [Value.int .i64 0][j]? = some u → (wr.alloc (.cells #[.int .i64 0] 3)).cell? ((⟨wr.heap.size, 0, none⟩ : Addr).add j) = some u := World.news_of_block (heap_alloc_new wr _)
        have ow : (wr.alloc (.cells #[.int .i64 0] 3)).ownsRow w.heap.size 3 1 (.slice aR k cR) k (picRow S k) := own.alloc _
        have one : ∀ u ∈ [Value.int .i64 0], u.oneCell' = true := by simp [Value.oneCell']
        have lB : w.heap.size ≤ (wr.alloc (.cells #[.int .i64 0] 3)).heap.size := by simp; omega
        go_wp2_with fail
        refine C.mono ?_
        rintro e wr ⟨rfl, rfl⟩
        go_wp2_with (at_builtin; refine wpList_append_lies _ rfl (.tmp 17) (.tmp 19) 35 rfl w.heap.size 3 i0 (.int .i64 0) 1 8 Tryz.underlying35 hi hz0 hz1 hz2 rfl (by decide) _ k (picRow S k) rfl ow ⟨wr.heap.size, 0, none⟩ 1 1 [.int .i64 0] rfl rfl N6 one (by decide) l63 l64 lB _ rfl ?_; intro gN capN w6 hown hgrow hat hltN)
        have hB6 : Below w.heap.size w w6 := (hB.alloc szB _).trans (grown_pic hgrow (fun q e => (own.lt q e).1) lB)
        rw [← ER.out] at hown
        clear own hgrow C ow N6
        go_roundw
        case rel => exact ⟨k + 1, by omega, by go_num, hown, hB6⟩
        case measure => simp [intOf]; omega
      · have N6 : ∀ j u, [Value.int .i64 1073741824][j]? = some u → (wr.alloc (.cells #[.int .i64 1073741824] 3)).cell? ((⟨wr.heap.size, 0, none⟩ : Addr).add j) = some u := World.news_of_block (heap_alloc_new wr _)
        have ow : (wr.alloc (.cells #[.int .i64 1073741824] 3)).ownsRow w.heap.size 3 1 (.slice aR k cR) k (picRow S k) := own.alloc _
        have one : ∀ u ∈ [Value.int .i64 1073741824], u.oneCell' = true := by simp [Value.oneCell']
        have lB : w.heap.size ≤ (wr.alloc (.cells #[.int .i64 1073741824] 3)).heap.size := by simp; omega
        go_wp2_with fail
        refine C.mono ?_
        rintro e wr ⟨rfl, rfl⟩
        go_wp2_with (at_builtin; refine wpList_append_lies _ rfl (.tmp 17) (.tmp 19) 35 rfl w.heap.size 3 i0 (.int .i64 0) 1 8 Tryz.underlying35 hi hz0 hz1 hz2 rfl (by decide) _ k (picRow S k) rfl ow ⟨wr.heap.size, 0, none⟩ 1 1 [.int .i64 1073741824] rfl rfl N6 one (by decide) l63 l64 lB _ rfl ?_; intro gN capN w6 hown hgrow hat hltN)
        have hB6 : Below w.heap.size w w6 := (hB.alloc szB _).trans (grown_pic hgrow (fun q e => (own.lt q e).1) lB)
        rw [← ER.out] at hown
        clear own hgrow C ow N6
        go_roundw
        case rel => exact ⟨k + 1, by omega, by go_num, hown, hB6⟩
        case measure => simp [intOf]; omega
      · have N6 : ∀ j u, [Value.int .i64 (S.P k).T][j]? = some u → (wr.alloc (.cells #[.int .i64 (S.P k).T] 3)).cell? ((⟨wr.heap.size, 0, none⟩ : Addr).add j) = some u := World.news_of_block (heap_alloc_new wr _)
        have ow : (wr.alloc (.cells #[.int .i64 (S.P k).T] 3)).ownsRow w.heap.size 3 1 (.slice aR k cR) k (picRow S k) := own.alloc _
        have one : ∀ u ∈ [Value.int .i64 (S.P k).T], u.oneCell' = true := by simp [Value.oneCell']
        have lB : w.heap.size ≤ (wr.alloc (.cells #[.int .i64 (S.P k).T] 3)).heap.size := by simp; omega
        go_wp2_with fail
        refine C.mono ?_
        rintro e wr ⟨rfl, rfl⟩
        go_wp2_with (at_builtin; refine wpList_append_lies _ rfl (.tmp 17) (.tmp 19) 35 rfl w.heap.size 3 i0 (.int .i64 0) 1 8 Tryz.underlying35 hi hz0 hz1 hz2 rfl (by decide) _ k (picRow S k) rfl ow ⟨wr.heap.size, 0, none⟩ 1 1 [.int .i64 (S.P k).T] rfl rfl N6 one (by decide) l63 l64 lB _ rfl ?_; intro gN capN w6 hown hgrow hat hltN)
        have hB6 : Below w.heap.size w w6 := (hB.alloc szB _).trans (grown_pic hgrow (fun q e => (own.lt q e).1) lB)
        rw [← ER.out] at hown
        clear own hgrow C ow N6
        go_roundw
        case rel => exact ⟨k + 1, by omega, by go_num, hown, hB6⟩
        case measure => simp [intOf]; omega
    · obtain rfl : k = 3 := by omega
      rcases own.2 with ⟨_, h0⟩ | ⟨m, cap', cur, e, hb, _, hcap, hmax, _⟩
      · omega
      · cases e
        have lt := (own.lt m rfl).2
        have I : Ints wr m 0 3 S.pic := fun i hi => by
          rw [Nat.zero_add]
          exact (own.cellAt i (by omega)).trans (picRow_at S 3 i hi)
        clear own
        go_wp2_with fail
        go_ret
        exact ⟨m, _, rfl, ⟨hb, lt⟩, I, hB⟩
end Go.Proofs.YtmbfdhekplnoaaaGreatDoor
