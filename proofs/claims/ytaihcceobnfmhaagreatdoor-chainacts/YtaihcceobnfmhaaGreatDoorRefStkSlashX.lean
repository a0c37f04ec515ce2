/-
  The document's stakes (bakehouseref2.Stakes) by their contracts: what has waited is freed; a baker is slashed.
  The document's stakes (bakehouseref2.Stakes) by their contracts: a baker is slashed.
-/
import Derived.Test.YtaihcceobnfmhaaGreatDoorRefStkSumsX
namespace Go.Proofs.YtaihcceobnfmhaaGreatDoor
open Go.RowKit

/-- some of the first so many pools that wait are turned -/
def partW (S : Sk) (g : Int → Int → Bool) (f : St → St) (k : Nat) : Int → Int → St := fun b c => if (b, c) ∈ S.K.take k ∧ g b c = true then f (S.W b c) else S.W b c
theorem partW_zero (S : Sk) (g : Int → Int → Bool) (f : St → St) : partW S g f 0 = S.W := by
  funext b c
  exact if_neg (by simp)
theorem take_succ_mem {K : List (Int × Int)} {k : Nat} {t x : Int × Int} (h : K[k]? = some t) : x ∈ K.take (k + 1) ↔ x ∈ K.take k ∨ x = t := by
  obtain ⟨hl, e⟩ := List.getElem?_eq_some_iff.1 h
  rw [List.take_succ_eq_append_getElem hl, List.mem_append, e, List.mem_singleton]
theorem take_no_mem {K : List (Int × Int)} (hn : K.Nodup) {k : Nat} {t : Int × Int} (h : K[k]? = some t) : t ∉ K.take k := fun g => by
  obtain ⟨j, hj, e⟩ := List.mem_iff_getElem.1 g
  rw [List.length_take] at hj
  rw [List.getElem_take] at e
  have hl : j < K.length := by omega
  have := (List.getElem?_inj hl hn (j := k)).1 (by rw [h, List.getElem?_eq_getElem hl, e])
  omega
theorem partW_at (S : Sk) (hn : S.K.Nodup) (g : Int → Int → Bool) (f : St → St) (k : Nat) (t : Int × Int) (h : S.K[k]? = some t) : partW S g f k t.1 t.2 = S.W t.1 t.2 := if_neg fun e => take_no_mem hn h e.1
theorem partW_yes (S : Sk) (g : Int → Int → Bool) (f : St → St) (k : Nat) (t : Int × Int) (h : S.K[k]? = some t) (hg : g t.1 t.2 = true) : partW S g f (k + 1) = set2 (partW S g f k) t.1 t.2 (f (S.W t.1 t.2)) := by
  funext b c
  by_cases e : (b, c) = t
  · subst e
    rw [set2_same]
    exact if_pos ⟨(take_succ_mem h).2 (.inr rfl), hg⟩
  · rw [set2_other _ _ _ _ _ _ e]
    unfold partW
    by_cases m : (b, c) ∈ S.K.take k ∧ g b c = true
    · rw [if_pos m, if_pos ⟨(take_succ_mem h).2 (.inl m.1), m.2⟩]
    · rw [if_neg m, if_neg fun x => m ⟨((take_succ_mem h).1 x.1).resolve_right e, x.2⟩]
theorem partW_no (S : Sk) (g : Int → Int → Bool) (f : St → St) (k : Nat) (t : Int × Int) (h : S.K[k]? = some t) (hg : g t.1 t.2 = false) : partW S g f (k + 1) = partW S g f k := by
  funext b c
  unfold partW
  by_cases e : (b, c) = t
  · subst e
    have hg' : ¬ g b c = true := fun x => by rw [show g b c = false from hg] at x; cases x
    rw [if_neg fun x => hg' x.2, if_neg fun x => hg' x.2]
  · by_cases m : (b, c) ∈ S.K.take k ∧ g b c = true
    · rw [if_pos m, if_pos ⟨(take_succ_mem h).2 (.inl m.1), m.2⟩]
    · rw [if_neg m, if_neg fun x => m ⟨((take_succ_mem h).1 x.1).resolve_right e, x.2⟩]
theorem partW_all (S : Sk) (hS : S.Ok) (g : Int → Int → Bool) (f : St → St) (h0 : f e0 = e0) : partW S g f S.K.length = fun b c => if g b c = true then f (S.W b c) else S.W b c := by
  funext b c
  unfold partW
  rw [List.take_length]
  by_cases m : (b, c) ∈ S.K
  · by_cases e : g b c = true
    · rw [if_pos ⟨m, e⟩, if_pos e]
    · rw [if_neg fun x => e x.2, if_neg e]
  · rw [if_neg fun x => m x.1, hS.wout b c m, h0]
    split <;> rfl
theorem Sk.Ok.part {S : Sk} (hS : S.Ok) (g : Int → Int → Bool) (f : St → St) (h0 : f e0 = e0) (hf : ∀ x : St, x.Ok → (f x).Ok) (k : Nat) : (⟨S.R, S.P, S.K, partW S g f k⟩ : Sk).Ok := by
  refine hS.waits (fun b c => ?_) (fun b c e => ?_)
  · unfold partW
    split
    · exact hf _ (hS.wok b c)
    · exact hS.wok b c
  · unfold partW
    split
    · rw [e]; exact h0
    · exact e
/-- what of the first so many it is -/
def preG (S : Sk) (g : Int → Int → Bool) (n : St → Int) (k : Nat) : Int := preW S (fun b c => if g b c = true then n (S.W b c) else 0) k
theorem preG_yes (S : Sk) (g : Int → Int → Bool) (n : St → Int) (k : Nat) (t : Int × Int) (h : S.K[k]? = some t) (hg : g t.1 t.2 = true) : preG S g n (k + 1) = preG S g n k + n (S.W t.1 t.2) := by
  unfold preG
  rw [preW_succ _ _ _ _ h, if_pos hg]
theorem preG_no (S : Sk) (g : Int → Int → Bool) (n : St → Int) (k : Nat) (t : Int × Int) (h : S.K[k]? = some t) (hg : g t.1 t.2 = false) : preG S g n (k + 1) = preG S g n k := by
  unfold preG
  rw [preW_succ _ _ _ _ h, if_neg (by rw [hg]; decide), Int.add_zero]
theorem preG_bd (S : Sk) (hS : S.Ok) (g : Int → Int → Bool) (n : St → Int) (hn : ∀ x : St, x.Ok → 0 ≤ n x ∧ n x ≤ x.T) (k : Nat) : 0 ≤ preG S g n k ∧ preG S g n k ≤ S.K.length * 1125899906842624 := by
  refine preW_bd S _ _ (fun b c => ?_) (fun b c => ?_) (by decide) k
  · split
    · exact (hn _ (hS.wok b c)).1
    · exact Int.le_refl _
  · have := hn _ (hS.wok b c)
    have := (hS.wok b c).t1
    split <;> omega
theorem preG_all (S : Sk) (g : Int → Int → Bool) (n : St → Int) : preG S g n S.K.length = sumK S.K fun b c => if g b c = true then n (S.W b c) else 0 := preW_all _ _
theorem leaveN_bd (o : Int) (x : St) (h : x.Ok) : 0 ≤ x.leaveN o ∧ x.leaveN o ≤ x.T := by
  unfold St.leaveN
  split
  · exact ⟨h.val0 o, h.val1 o⟩
  · exact ⟨Int.le_refl _, h.t0⟩
/-- the pools that may be freed -/
def gFree (c : Int) : Int → Int → Bool := fun _ c' => decide (c' + 2 < c)
def anyF (S : Sk) (o c : Int) (k : Nat) : Bool := (S.K.take k).any fun t => decide (t.2 + 2 < c) && decide ((S.W t.1 t.2).leaveC o = 0)
theorem anyF_succ (S : Sk) (o c : Int) (k : Nat) (t : Int × Int) (h : S.K[k]? = some t) : anyF S o c (k + 1) = (anyF S o c k || (decide (t.2 + 2 < c) && decide ((S.W t.1 t.2).leaveC o = 0))) := by
  unfold anyF
  obtain ⟨hl, e⟩ := List.getElem?_eq_some_iff.1 h
  rw [List.take_succ_eq_append_getElem hl, List.any_append, e]
  simp
theorem anyF_all (S : Sk) (o c : Int) : anyF S o c S.K.length = S.has o c := by unfold anyF Sk.has; rw [List.take_length]
theorem free_is (S : Sk) (hS : S.Ok) (o c : Int) (hb : Ow o ∧ Cy c) : S.free o c = ⟨S.R, S.P, S.K, partW S (gFree c) (fun x => x.leave o) S.K.length⟩ ∧ S.freeN o c = preG S (gFree c) (fun x => x.leaveN o) S.K.length ∧ S.freeC o c = if S.has o c then 0 else 4 := by
  refine ⟨?_, ?_, if_neg (not_not_intro hb)⟩
  · rw [partW_all S hS _ (fun x => x.leave o) (e0_leave o)]
    unfold Sk.free
    rw [if_neg (not_not_intro hb)]
    simp only [gFree, decide_eq_true_eq]
  · rw [preG_all]
    unfold Sk.freeN
    rw [if_neg (not_not_intro hb)]
    simp only [gFree, decide_eq_true_eq]
/-- what a pool that waits became -/
theorem RSkAt.turned {tag : Nat → Nat} {w w' : World} {sb pb : Nat} {v : Value} {L : List Wt} {S : Sk} {F : Nat → Prop} (hF : ∀ k, F k ↔ tag k ≠ 0) (hS : S.Ok) {g : Int → Int → Bool} {f : St → St} {k : Nat} {t : Wt} (h : RSkAt tag w sb pb v L ⟨S.R, S.P, S.K, partW S g f k⟩) (ht : L[k]? = some t) (hg : g t.1 t.2.1 = true) {q : Nat} (hx : tag t.2.2 = 5 + k) (hq : tag q = 5 + k)
    (hR : RefAt w' t.2.2 q (f (S.W t.1 t.2.1))) (hK : Kept [t.2.2, q] w w') : RSkAt tag w' sb pb v L ⟨S.R, S.P, S.K, partW S g f (k + 1)⟩ ∧ Moved F F w w' := by
  have hk : S.K[k]? = some (t.1, t.2.1) := h.key ht
  refine ⟨?_, KeptP.of_kept hK fun i gi => ?_, fun _ _ x => x⟩
  · rw [partW_yes S g f k _ hk hg]
    exact h.wait hS.knd k t ht hx hq hR hK
  · rcases List.mem_cons.1 gi with e | e
    · subst e; exact (hF _).2 (by omega)
    · rw [List.mem_singleton.1 e]; exact (hF _).2 (by omega)
theorem RSkAt.stays {tag : Nat → Nat} {w : World} {sb pb : Nat} {v : Value} {L : List Wt} {S : Sk} {g : Int → Int → Bool} {f : St → St} {k : Nat} {t : Wt} (h : RSkAt tag w sb pb v L ⟨S.R, S.P, S.K, partW S g f k⟩) (ht : L[k]? = some t) (hg : g t.1 t.2.1 = false) : RSkAt tag w sb pb v L ⟨S.R, S.P, S.K, partW S g f (k + 1)⟩ := by
  have hk : S.K[k]? = some (t.1, t.2.1) := h.key ht
  rw [partW_no S g f k _ hk hg]; exact h

set_option maxRecDepth 100000 in
set_option maxHeartbeats 1000000 in
theorem rs_free (F : Nat → Prop) (sb : Nat) (S : Sk) (hS : S.Ok) (hL : S.K.length ≤ 1000) (o c : Int) (_wc : (Lit.int .i64 c).wf = true) (w : World) (h : RSk F w sb S) :
    Calls Tryz.prog 129 #[.pointer (some ⟨sb, 0, none⟩), .int .i64 o, .int .i64 c] w fun e w' => e = .returned (.tuple #[.int .i64 (S.freeN o c), .int .i64 (S.freeC o c)]) ∧ RSk F w' sb (S.free o c) ∧ Moved F F w w' := by
  by_cases hb : Ow o ∧ Cy c
  · have I := isOwner_yes o hb.1.1 hb.1.2
    obtain ⟨tag, pb, v, L, hF, h⟩ := h
    obtain ⟨e1, e2, e3⟩ := free_is S hS o c hb
    have E1 := hide e1
    have E2 := hide e2
    have E3 := hide e3
    obtain ⟨a, cap, rfl⟩ := h.shape
    have kl := h.klen
    have l0 : L.length ≤ 1000 := by omega
    obtain ⟨_, y0, y1⟩ := hb
    clear e1 e2 e3
    go_enter Tryz.func129, Tryz.ntmps129
    go_wp2_with (go_at_call 130; refine (I _).mono ?_; rintro e w' ⟨rfl, rfl⟩)
    go_loopw [9, 10, 11] (fun n f i wr => ∃ k : Nat, k ≤ L.length ∧ n = .int .i64 (preG S (gFree c) (fun x => x.leaveN o) k) ∧ f = .bool (anyF S o c k) ∧ i = .int .i64 k ∧ RSkAt tag wr sb pb (.slice a L.length cap) L ⟨S.R, S.P, S.K, partW S (gFree c) (fun x => x.leave o) k⟩ ∧ Moved F F w' wr) (fun _ _ i _ => L.length - (intOf i).toNat)
    case atStart => exact ⟨0, Nat.zero_le _, rfl, rfl, rfl, by rw [partW_zero]; exact h, Moved.refl _ _⟩
    case round =>
      obtain ⟨k, hk, rfl, rfl, rfl, hr, hM⟩ := hrel
      have c1 := hr.c1
      by_cases hlt : k < L.length
      · obtain ⟨g, cap', e, hc, _⟩ := hr.row (by omega)
        obtain ⟨rfl, rfl⟩ : a = some ⟨g, 0, none⟩ ∧ cap = cap' := by cases e; exact ⟨rfl, rfl⟩
        obtain ⟨t, ht⟩ : ∃ t, L[k]? = some t := ⟨L[k], List.getElem?_eq_getElem hlt⟩
        have hkey : S.K[k]? = some (t.1, t.2.1) := hr.key ht
        obtain ⟨d0, d1, d2⟩ := hc k t ht
        have hcy := (hS.kin (t.1, t.2.1) (List.mem_of_getElem? hkey)).2
        have u0 : 0 ≤ t.2.1 := hcy.1
        have u1 : t.2.1 ≤ 1048576 := hcy.2
        by_cases hg : t.2.1 + 2 < c
        · have hg' : gFree c t.1 t.2.1 = true := decide_eq_true hg
          have hge : ¬ c - 2 ≤ t.2.1 := by omega
          obtain ⟨q, hR, hx, hq⟩ := hr.wat k t ht
          have eW : (⟨S.R, S.P, S.K, partW S (gFree c) (fun x => x.leave o) k⟩ : Sk).W t.1 t.2.1 = S.W t.1 t.2.1 := partW_at S hS.knd _ _ k _ hkey
          rw [eW] at hR
          have J := ref_leave t.2.2 q _ (hS.wok t.1 t.2.1) o wr hR
          have A1 : Hid (∀ w2, RefAt w2 t.2.2 q ((S.W t.1 t.2.1).leave o) → Kept [t.2.2, q] wr w2 → RSkAt tag w2 sb pb (.slice (some ⟨g, 0, none⟩) L.length cap) L ⟨S.R, S.P, S.K, partW S (gFree c) (fun x => x.leave o) (k + 1)⟩ ∧ Moved F F w' w2) := fun w2 g1 g2 => by
            have := hr.turned hF hS ht hg' hx hq g1 g2
            exact ⟨this.1, hM.trans this.2⟩
          have p0 := preG_bd S hS (gFree c) (fun x => x.leaveN o) (leaveN_bd o) k
          have n0 := leaveN_bd o _ (hS.wok t.1 t.2.1)
          have n1 := (hS.wok t.1 t.2.1).t1
          have P1 : Hid (preG S (gFree c) (fun x => x.leaveN o) (k + 1) = preG S (gFree c) (fun x => x.leaveN o) k + (S.W t.1 t.2.1).leaveN o) := preG_yes S _ _ k _ hkey hg'
          have Q1 := hide (anyF_succ S o c k _ hkey)
          obtain ⟨p1, p2⟩ : 0 ≤ preG S (gFree c) (fun x => x.leaveN o) k ∧ preG S (gFree c) (fun x => x.leaveN o) k ≤ 1000 * 1125899906842624 := by
            have : (S.K.length : Int) * 1125899906842624 ≤ 1000 * 1125899906842624 := Int.mul_le_mul_of_nonneg_right (by omega) (by decide)
            omega
          obtain ⟨m0, m1⟩ : 0 ≤ (S.W t.1 t.2.1).leaveN o ∧ (S.W t.1 t.2.1).leaveN o ≤ 1125899906842624 := by omega
          by_cases hz : (S.W t.1 t.2.1).leaveC o = 0
          · have T1 : ((S.W t.1 t.2.1).leaveC o == 0) = true := by simp [hz]
            have Q2 : Hid (anyF S o c (k + 1) = true) := by
              show _ = _
              rw [Q1.out, decide_eq_true hz, decide_eq_true hg]
              simp
            clear hz hg hg' hR hx hq hkey hcy eW hc e ht p0 n0 n1 Q1 hr hM h
            generalize (S.W t.1 t.2.1).leaveC o = C at *
            generalize (S.W t.1 t.2.1).leaveN o = N at *
            generalize preG S (gFree c) (fun x => x.leaveN o) k = P at *
            go_wp2_with (go_at_call 173; refine J.mono ?_; rintro e w2 ⟨rfl, hR2, hK2⟩)
            go_roundw
            case rel => exact ⟨k + 1, by omega, by rw [P1.out], by rw [Q2.out], by go_num, A1.out _ hR2 hK2⟩
            case measure => simp [intOf]; omega
          · have T1 : ((S.W t.1 t.2.1).leaveC o == 0) = false := by simp [hz]
            have Q2 : Hid (anyF S o c (k + 1) = anyF S o c k) := by
              show _ = _
              rw [Q1.out, decide_eq_false hz]
              simp
            have N0 : Hid ((S.W t.1 t.2.1).leaveN o = 0) := (St.leave_no rfl hz).2
            clear hz hg hg' hR hx hq hkey hcy eW hc e ht p0 n0 n1 Q1 hr hM h
            generalize (S.W t.1 t.2.1).leaveC o = C at *
            generalize (S.W t.1 t.2.1).leaveN o = N at *
            go_wp2_with (go_at_call 173; refine J.mono ?_; rintro e w2 ⟨rfl, hR2, hK2⟩)
            go_roundw
            case rel => exact ⟨k + 1, by omega, by rw [P1.out, N0.out, Int.add_zero], by rw [Q2.out], by go_num, A1.out _ hR2 hK2⟩
            case measure => simp [intOf]; omega
        · have hg' : gFree c t.1 t.2.1 = false := decide_eq_false hg
          have hge : c - 2 ≤ t.2.1 := by omega
          have A1 := hide (hr.stays ht hg')
          have P1 : Hid (preG S (gFree c) (fun x => x.leaveN o) (k + 1) = preG S (gFree c) (fun x => x.leaveN o) k) := preG_no S _ _ k _ hkey hg'
          have Q2 : Hid (anyF S o c (k + 1) = anyF S o c k) := by
            show _ = _
            rw [anyF_succ S o c k _ hkey, decide_eq_false hg]
            simp
          clear hg hg' hkey hcy hc e ht hr h
          go_wp2
          go_roundw
          case rel => exact ⟨k + 1, by omega, by rw [P1.out], by rw [Q2.out], by go_num, A1.out, hM⟩
          case measure => simp [intOf]; omega
      · obtain rfl : k = L.length := by omega
        have hr' : Hid (RSk F wr sb (S.free o c) ∧ Moved F F w' wr) := by
          show _ ∧ _
          rw [E1.out, kl]
          exact ⟨⟨tag, pb, _, L, hF, hr⟩, hM⟩
        have E4 : Hid (S.freeN o c = preG S (gFree c) (fun x => x.leaveN o) L.length) := by
          show _ = _
          rw [E2.out, kl]
        have Q2 : anyF S o c L.length = S.has o c := by rw [← kl]; exact anyF_all S o c
        rw [Q2]
        cases hh : S.has o c with
        | true =>
          have E5 : Hid (S.freeC o c = 0) := by show _ = _; rw [E3.out, hh]; rfl
          clear hr hM hh Q2 h
          go_wp2
          go_ret2
          exact ⟨ret_int2 E4.out.symm E5.out.symm, hr'.out⟩
        | false =>
          have E5 : Hid (S.freeC o c = 4) := by show _ = _; rw [E3.out, hh]; rfl
          have E6 := hide (freeN_none S o c hh)
          clear hr hM hh Q2 h
          go_wp2
          go_ret2
          exact ⟨ret_int2 E6.out.symm E5.out.symm, hr'.out⟩
  · have E1 : Hid (S.free o c = S) := if_pos hb
    have E2 : Hid (S.freeN o c = 0) := if_pos hb
    have E3 : Hid (S.freeC o c = 2) := if_pos hb
    by_cases ho : Ow o
    · have I := isOwner_yes o ho.1 ho.2
      by_cases h0 : 0 ≤ c
      · have h1 : ¬ c ≤ 1048576 := fun g => hb ⟨ho, h0, g⟩
        clear hb ho
        go_enter Tryz.func129, Tryz.ntmps129
        go_wp2_with (go_at_call 130; refine (I _).mono ?_; rintro e w' ⟨rfl, rfl⟩)
        go_ret2
        exact ⟨ret_int2 E2.out.symm E3.out.symm, RSk.as ⟨h, Moved.refl _ _⟩ E1.out⟩
      · clear hb ho
        go_enter Tryz.func129, Tryz.ntmps129
        go_wp2_with (go_at_call 130; refine (I _).mono ?_; rintro e w' ⟨rfl, rfl⟩)
        go_ret2
        exact ⟨ret_int2 E2.out.symm E3.out.symm, RSk.as ⟨h, Moved.refl _ _⟩ E1.out⟩
    · have I := isOwner_no o ho
      clear hb ho
      go_enter Tryz.func129, Tryz.ntmps129
      go_wp2_with (go_at_call 130; refine (I _).mono ?_; rintro e w' ⟨rfl, rfl⟩)
      go_ret2
      exact ⟨ret_int2 E2.out.symm E3.out.symm, RSk.as ⟨h, Moved.refl _ _⟩ E1.out⟩
end Go.Proofs.YtaihcceobnfmhaaGreatDoor

namespace Go.Proofs.YtaihcceobnfmhaaGreatDoor
open Go.RowKit

def gSlash (b f : Int) : Int → Int → Bool := fun b' c' => decide (b' = b ∧ f ≤ c')
/-- a baker's pool slashed, what waits not yet -/
def Sk.cut (S : Sk) (b p : Int) : Sk := ⟨S.R, set1 S.P b ((S.P b).slash p), S.K, S.W⟩
theorem Sk.Ok.cut {S : Sk} (hS : S.Ok) {b : Int} (hr : S.R b = true) (p : Int) : (S.cut b p).Ok := hS.pool hr ((hS.pok b).slash p)
theorem slash_is (S : Sk) (hS : S.Ok) (b f p : Int) (hr : S.R b = true) (hp : 0 ≤ p ∧ p ≤ 100) :
    S.slash b f p = ⟨S.R, (S.cut b p).P, S.K, partW (S.cut b p) (gSlash b f) (fun x => x.slash p) S.K.length⟩ ∧ S.slashN b f p = (S.P b).slashN p + preG (S.cut b p) (gSlash b f) (fun x => x.slashN p) S.K.length ∧ S.slashC b p = 0 := by
  have hc : S.slashC b p = 0 := (if_pos hr).trans (if_pos hp)
  refine ⟨?_, ?_, hc⟩
  · have := partW_all (S.cut b p) (hS.cut hr p) (gSlash b f) (fun x => x.slash p) (e0_slash p)
    rw [show (S.cut b p).K.length = S.K.length from rfl] at this
    rw [this]
    unfold Sk.slash
    rw [if_pos hc]
    simp only [gSlash, decide_eq_true_eq]
    rfl
  · have := preG_all (S.cut b p) (gSlash b f) (fun x => x.slashN p)
    rw [show (S.cut b p).K.length = S.K.length from rfl] at this
    rw [this]
    unfold Sk.slashN
    rw [if_pos hc]
    simp only [gSlash, decide_eq_true_eq]
    rfl
theorem slashN_bd' (p : Int) (x : St) (h : x.Ok) : 0 ≤ x.slashN p ∧ x.slashN p ≤ x.T := h.slashN_bd p

set_option maxRecDepth 100000 in
set_option maxHeartbeats 1000000 in
theorem rs_slash (F : Nat → Prop) (sb : Nat) (S : Sk) (hS : S.Ok) (hL : S.K.length ≤ 1000) (b f p : Int) (w : World) (h : RSk F w sb S) :
    Calls Tryz.prog 178 #[.pointer (some ⟨sb, 0, none⟩), .int .i64 b, .int .i64 f, .int .i64 p] w fun e w' => e = .returned (.tuple #[.int .i64 (S.slashN b f p), .int .i64 (S.slashC b p)]) ∧ RSk F w' sb (S.slash b f p) ∧ Moved F F w w' := by
  obtain ⟨tag, pb, v, L, hF, h⟩ := h
  have I := rs_is tag sb pb v L S hS b w h
  have c0 := h.c0
  cases hr : S.R b with
  | true =>
    rw [hr] at I
    obtain ⟨kb, rfl⟩ : ∃ k : Nat, b = k := ⟨b.toNat, by have := hS.rin b hr; omega⟩
    have hkb : kb < 3 := by have := hS.rin _ hr; omega
    obtain ⟨x, q, hc, hR, hx, hq⟩ := h.p kb hkb hr
    have J := ref_slash x q _ (hS.pok kb) p w hR
    by_cases hp : 0 ≤ p ∧ p ≤ 100
    · obtain ⟨e1, e2, e3⟩ := slash_is S hS kb f p hr hp
      have E1 := hide e1
      have E2 := hide e2
      have E3 := hide e3
      have hC : (S.P kb).slashC p = 0 := (St.slash_yes hp).1
      have hS1 := hS.cut hr p
      have kl := h.klen
      have l0 : L.length ≤ 1000 := by omega
      have A0 : Hid (∀ w', RefAt w' x q ((S.P kb).slash p) → Kept [x, q] w w' → RSkAt tag w' sb pb v L (S.cut kb p) ∧ Moved F F w w') := fun w' g1 g2 => ⟨h.pool kb hkb hr hx hq hc g1 g2, (h.acted hF kb hkb hr hx hq hc g1 g2).2⟩
      have n0 := slashN_bd' p _ (hS.pok kb)
      have n1 := (hS.pok kb).t1
      obtain ⟨m0, m1⟩ : 0 ≤ (S.P kb).slashN p ∧ (S.P kb).slashN p ≤ 1125899906842624 := by omega
      obtain ⟨a, cap, rfl⟩ := h.shape
      rw [hC] at J
      clear e1 e2 e3 hp hR hr hx hq n0 n1 hC h
      go_enter Tryz.func178, Tryz.ntmps178
      go_wp2_with (first | (go_at_call 123; refine I.mono ?_; rintro e w' ⟨rfl, rfl⟩) | (go_at_call 199; refine J.mono ?_; rintro e w1 ⟨rfl, hR1, hK1⟩))
      obtain ⟨h1, hM1⟩ := A0.out _ hR1 hK1
      clear J I A0 hR1 hK1 hc c0
      go_loopw [11, 13] (fun n i wr => ∃ k : Nat, k ≤ L.length ∧ n = .int .i64 ((S.P kb).slashN p + preG (S.cut kb p) (gSlash kb f) (fun x => x.slashN p) k) ∧ i = .int .i64 k ∧ RSkAt tag wr sb pb (.slice a L.length cap) L ⟨(S.cut kb p).R, (S.cut kb p).P, (S.cut kb p).K, partW (S.cut kb p) (gSlash kb f) (fun x => x.slash p) k⟩ ∧ Moved F F w' wr) (fun _ i _ => L.length - (intOf i).toNat)
      case atStart => exact ⟨0, Nat.zero_le _, by rw [show preG (S.cut kb p) (gSlash kb f) (fun x => x.slashN p) 0 = 0 from rfl, Int.add_zero], rfl, by rw [partW_zero]; exact h1, hM1⟩
      case round =>
        clear h1 hM1
        obtain ⟨k, hk, rfl, rfl, hr, hM⟩ := hrel
        have c1 := hr.c1
        by_cases hlt : k < L.length
        · obtain ⟨g, cap', e, hc, _⟩ := hr.row (by omega)
          obtain ⟨rfl, rfl⟩ : a = some ⟨g, 0, none⟩ ∧ cap = cap' := by cases e; exact ⟨rfl, rfl⟩
          obtain ⟨t, ht⟩ : ∃ t, L[k]? = some t := ⟨L[k], List.getElem?_eq_getElem hlt⟩
          have hkey : (S.cut kb p).K[k]? = some (t.1, t.2.1) := hr.key ht
          obtain ⟨d0, d1, d2⟩ := hc k t ht
          by_cases hg : t.1 = kb ∧ f ≤ t.2.1
          · have hg' : gSlash kb f t.1 t.2.1 = true := decide_eq_true hg
            obtain ⟨q, hR, hx, hq⟩ := hr.wat k t ht
            have eW : (⟨(S.cut kb p).R, (S.cut kb p).P, (S.cut kb p).K, partW (S.cut kb p) (gSlash kb f) (fun x => x.slash p) k⟩ : Sk).W t.1 t.2.1 = S.W t.1 t.2.1 := partW_at (S.cut kb p) hS.knd (gSlash kb f) (fun x => x.slash p) k _ hkey
            rw [eW] at hR
            have J := ref_slash t.2.2 q _ (hS.wok t.1 t.2.1) p wr hR
            have A1 : Hid (∀ w2, RefAt w2 t.2.2 q ((S.W t.1 t.2.1).slash p) → Kept [t.2.2, q] wr w2 → RSkAt tag w2 sb pb (.slice (some ⟨g, 0, none⟩) L.length cap) L ⟨(S.cut kb p).R, (S.cut kb p).P, (S.cut kb p).K, partW (S.cut kb p) (gSlash kb f) (fun x => x.slash p) (k + 1)⟩ ∧ Moved F F w' w2) := fun w2 g1 g2 => by
              have := hr.turned hF hS1 ht hg' hx hq g1 g2
              exact ⟨this.1, hM.trans this.2⟩
            have p0 := preG_bd (S.cut kb p) hS1 (gSlash kb f) (fun x => x.slashN p) (slashN_bd' p) k
            rw [show (S.cut kb p).K.length = S.K.length from rfl] at p0
            have n0 := slashN_bd' p _ (hS.wok t.1 t.2.1)
            have n1 := (hS.wok t.1 t.2.1).t1
            have P1 : Hid ((S.P kb).slashN p + preG (S.cut kb p) (gSlash kb f) (fun x => x.slashN p) (k + 1) = (S.P kb).slashN p + preG (S.cut kb p) (gSlash kb f) (fun x => x.slashN p) k + (S.W t.1 t.2.1).slashN p) := by
              have : preG (S.cut kb p) (gSlash kb f) (fun x => x.slashN p) (k + 1) = preG (S.cut kb p) (gSlash kb f) (fun x => x.slashN p) k + (S.W t.1 t.2.1).slashN p := preG_yes (S.cut kb p) _ _ k _ hkey hg'
              show _ = _
              rw [this, Int.add_assoc]
            obtain ⟨p1, p2⟩ : 0 ≤ (S.P kb).slashN p + preG (S.cut kb p) (gSlash kb f) (fun x => x.slashN p) k ∧ (S.P kb).slashN p + preG (S.cut kb p) (gSlash kb f) (fun x => x.slashN p) k ≤ 1001 * 1125899906842624 := by
              have : (S.K.length : Int) * 1125899906842624 ≤ 1000 * 1125899906842624 := Int.mul_le_mul_of_nonneg_right (by omega) (by decide)
              omega
            obtain ⟨m2, m3⟩ : 0 ≤ (S.W t.1 t.2.1).slashN p ∧ (S.W t.1 t.2.1).slashN p ≤ 1125899906842624 := by omega
            have T1 : (t.1 == (kb : Int)) = true := by simp [hg.1]
            have T2 := hg.2
            clear hg hg' hR hx hq hkey eW hc e ht p0 n0 n1 hr hM m0 m1
            generalize (S.W t.1 t.2.1).slashN p = N at *
            generalize (S.P kb).slashN p + preG (S.cut kb p) (gSlash kb f) (fun x => x.slashN p) k = P at *
            go_wp2_with (go_at_call 199; refine J.mono ?_; rintro e w2 ⟨rfl, hR2, hK2⟩)
            go_roundw
            case rel => exact ⟨k + 1, by omega, by rw [P1.out], by go_num, A1.out _ hR2 hK2⟩
            case measure => simp [intOf]; omega
          · have hg' : gSlash kb f t.1 t.2.1 = false := decide_eq_false hg
            have A1 := hide (hr.stays ht hg')
            have P1 : Hid (preG (S.cut kb p) (gSlash kb f) (fun x => x.slashN p) (k + 1) = preG (S.cut kb p) (gSlash kb f) (fun x => x.slashN p) k) := preG_no (S.cut kb p) _ _ k _ hkey hg'
            by_cases hz : t.1 = kb
            · have T1 : (t.1 == (kb : Int)) = true := by simp [hz]
              have T2 : ¬ f ≤ t.2.1 := fun g => hg ⟨hz, g⟩
              clear hz hg hg' hkey hc e ht hr
              go_wp2
              go_roundw
              case rel => exact ⟨k + 1, by omega, by rw [P1.out], by go_num, A1.out, hM⟩
              case measure => simp [intOf]; omega
            · have T1 : (t.1 == (kb : Int)) = false := by simp [hz]
              clear hz hg hg' hkey hc e ht hr
              go_wp2
              go_roundw
              case rel => exact ⟨k + 1, by omega, by rw [P1.out], by go_num, A1.out, hM⟩
              case measure => simp [intOf]; omega
        · obtain rfl : k = L.length := by omega
          have hr' : Hid (RSk F wr sb (S.slash kb f p) ∧ Moved F F w' wr) := by
            show _ ∧ _
            rw [E1.out, kl]
            exact ⟨⟨tag, pb, _, L, hF, hr⟩, hM⟩
          have E4 : Hid (S.slashN kb f p = (S.P kb).slashN p + preG (S.cut kb p) (gSlash kb f) (fun x => x.slashN p) L.length) := by
            show _ = _
            rw [E2.out, kl]
          clear hr hM
          go_wp2
          go_ret2
          exact ⟨ret_int2 E4.out.symm E3.out.symm, hr'.out⟩
    · have hC : (S.P kb).slashC p = 2 := (St.slash_no hp).1
      have hN : (S.P kb).slashN p = 0 := (St.slash_no hp).2.1
      have E3 : Hid (S.slashC kb p = 2) := (if_pos hr).trans (if_neg hp)
      have E2 : Hid (S.slashN kb f p = 0) := if_neg (by rw [E3.out]; decide)
      have E1 : Hid (S.slash kb f p = S) := if_neg (by rw [E3.out]; decide)
      have A0 : Hid (∀ w', RefAt w' x q ((S.P kb).slash p) → Kept [x, q] w w' → RSk F w' sb S ∧ Moved F F w w') := fun w' g1 g2 => by
        have := h.acted hF kb hkb hr hx hq hc g1 g2
        rw [set1_id S.P kb _ (St.slash_no hp).2.2] at this
        exact this
      rw [hC, hN] at J
      clear hp hR hr hx hq hC hN h
      go_enter Tryz.func178, Tryz.ntmps178
      go_wp2_with (first | (go_at_call 123; refine I.mono ?_; rintro e w' ⟨rfl, rfl⟩) | (go_at_call 199; refine J.mono ?_; rintro e w1 ⟨rfl, hR1, hK1⟩))
      go_ret2
      exact ⟨ret_int2 E2.out.symm E3.out.symm, RSk.as (A0.out _ hR1 hK1) E1.out⟩
  | false =>
    rw [hr] at I
    have E3 : Hid (S.slashC b p = 4) := if_neg (by rw [hr]; decide)
    have E2 : Hid (S.slashN b f p = 0) := if_neg (by rw [E3.out]; decide)
    have E1 : Hid (S.slash b f p = S) := if_neg (by rw [E3.out]; decide)
    clear hr
    go_enter Tryz.func178, Tryz.ntmps178
    go_wp2_with (go_at_call 123; refine I.mono ?_; rintro e w' ⟨rfl, rfl⟩)
    go_ret2
    exact ⟨ret_int2 E2.out.symm E3.out.symm, RSk.as ⟨⟨tag, pb, v, L, hF, h⟩, Moved.refl _ _⟩ E1.out⟩
end Go.Proofs.YtaihcceobnfmhaaGreatDoor
