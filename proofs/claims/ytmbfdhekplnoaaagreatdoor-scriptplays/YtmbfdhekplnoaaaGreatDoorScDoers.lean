/-
  Each command of a script, as the map holds it: what it tells, and what the chain becomes.
-/
import Derived.Test.YtmbfdhekplnoaaaGreatDoorScActs2X
namespace Go.Proofs.YtmbfdhekplnoaaaGreatDoor
open Go.RowKit

structure ScLaid (w : World) (A : Nat → Addr) : Prop where
  v0 : w.cell? ⟨1, 0, none⟩ = some (sent (A 0))
  v1 : w.cell? ⟨0, 0, none⟩ = some (sent (A 1))
  v2 : w.cell? ⟨2, 0, none⟩ = some (sent (A 2))
  v3 : w.cell? ⟨3, 0, none⟩ = some (sent (A 3))
  v4 : w.cell? ⟨4, 0, none⟩ = some (sent (A 4))
  v5 : w.cell? ⟨5, 0, none⟩ = some (sent (A 5))
  v6 : w.cell? ⟨6, 0, none⟩ = some (sent (A 6))
  v7 : w.cell? ⟨7, 0, none⟩ = some (sent (A 7))
  v8 : w.cell? ⟨8, 0, none⟩ = some (sent (A 8))
  v9 : w.cell? ⟨9, 0, none⟩ = some (sent (A 9))
  t : ∀ i : Nat, i < 10 → w.cell? (A i) = some (.string (bs (errT (i + 1))))
  ten : Tens w
theorem ScLaid.below {w w' : World} {A : Nat → Addr} (h : ScLaid w A) (hB : Below w.heap.size w w') : ScLaid w' A :=
  ⟨stk_old hB h.v0, stk_old hB h.v1, stk_old hB h.v2, stk_old hB h.v3, stk_old hB h.v4, stk_old hB h.v5, stk_old hB h.v6, stk_old hB h.v7, stk_old hB h.v8, stk_old hB h.v9, fun i hi => by rw [hB.cell (cell_lt (h.t i hi))]; exact h.t i hi, h.ten.below hB⟩
theorem ScLaid.ch {w : World} {A : Nat → Addr} (h : ScLaid w A) : ChLaid w A := ⟨⟨h.v1, h.v2, h.v3, h.v4, h.v5, h.v6, h.v7, h.v8⟩, h.v9⟩
structure Ctx (w0 w : World) (sb cb pl ss : Nat) (F : Nat → Prop) (C : Ch) (j g : Nat) (A : Nat → Addr) : Prop where
  ok : C.Ok
  fit : C.Fit j
  hj : j ≤ 396
  hg : g ≤ 840000
  laid : ScLaid w0 A
  mi : Mine w0.heap.size w0 w F
  h : PCb sb F w cb C g
  hpl : w.cell? ⟨pl, 0, none⟩ = some (.pointer (some ⟨cb, 0, none⟩))
  npl : ¬ F pl
  hss : w.cell? ⟨ss, 0, none⟩ = some (.pointer (some ⟨sb, 0, none⟩))
  nss : ¬ F ss
section
variable {w0 w : World} {sb cb pl ss : Nat} {F : Nat → Prop} {C : Ch} {j g : Nat} {A : Nat → Addr}
theorem Ctx.L (X : Ctx w0 w sb cb pl ss F C j g A) : ChLaid w A := (X.laid.below X.mi.below).ch
theorem Ctx.few (X : Ctx w0 w sb cb pl ss F C j g A) : C.Few := X.fit.fewS (by have := X.hj; omega)
theorem Ctx.g5 (X : Ctx w0 w sb cb pl ss F C j g A) : g ≤ 850000 := by have := X.hg; omega
theorem Ctx.j4 (X : Ctx w0 w sb cb pl ss F C j g A) : j ≤ 400 := by have := X.hj; omega
theorem Ctx.ten (X : Ctx w0 w sb cb pl ss F C j g A) {F' : Nat → Prop} {w' : World} (hM : Moved F F' w w') : Tens w' := X.laid.ten.below (X.mi.next hM).below
def DoEnd (sb : Nat) (F : Nat → Prop) (cb g : Nat) (C : Ch) (wd : List UInt8) (ns : List Nat) (A : Nat → Addr) (w : World) (e : Ending) (w' : World) : Prop :=
  ∃ (t : List UInt8) (c : Int) (ev : Value) (C' : Ch) (F' : Nat → Prop), e = .returned (.tuple #[.string (bs t), ev]) ∧ ErrIs A ev c ∧ Ans C wd ns (orT c t) C' ∧ PCb sb F' w' cb C' (g + 8000) ∧ Moved F F' w w'
theorem orT_no (t : List UInt8) : orT 0 t = t := if_neg (by omega)
theorem orT_two (t : List UInt8) : orT 2 t = errT 2 := if_pos (by omega)

set_option maxRecDepth 100000 in
set_option maxHeartbeats 1000000 in
theorem d_pay (X : Ctx w0 w sb cb pl ss F C j g A) (q : Nat) (hq : w.cell? ⟨q, 0, none⟩ = some (.func (.func 60) #[] #[.pointer (some ⟨pl, 0, none⟩)])) (b : Nat) (N : Nat → Nat) (hN : ∀ i, i < 3 → N i ≤ 9999999) (R : NumRow w b 3 N) (nb : ¬ F b) :
    Calls Tryz.prog 127 #[.slice (some ⟨b, 0, none⟩) 3 3, .pointer (some ⟨q, 0, none⟩)] w (DoEnd sb F cb g C wPay [N 0, N 1, N 2] A w) := by
  have P := hide (c_pay F cb C X.ok X.few g X.g5 pl b N hN A w X.L X.h X.hpl X.npl R nb)
  clear X R hN
  go_enter Tryz.func127, Tryz.ntmps127
  go_wp2_with fail
  refine P.out.mono ?_
  rintro e w1 ⟨ev, F1, rfl, hE, hP, hM⟩
  go_wp2_with fail
  go_ret2
  exact ⟨okT, _, ev, _, F1, rfl, hE, Ans.pay _ _ _, hP.more (by omega), hM⟩
set_option maxRecDepth 100000 in
set_option maxHeartbeats 1000000 in
theorem d_stake (X : Ctx w0 w sb cb pl ss F C j g A) (q : Nat) (hq : w.cell? ⟨q, 0, none⟩ = some (.func (.func 62) #[] #[.pointer (some ⟨pl, 0, none⟩)])) (b : Nat) (N : Nat → Nat) (hN : ∀ i, i < 3 → N i ≤ 9999999) (R : NumRow w b 3 N) (nb : ¬ F b) :
    Calls Tryz.prog 127 #[.slice (some ⟨b, 0, none⟩) 3 3, .pointer (some ⟨q, 0, none⟩)] w (DoEnd sb F cb g C wStake [N 0, N 1, N 2] A w) := by
  have P := hide (c_stake F cb C X.ok X.few g X.g5 pl b N hN A w X.L X.h X.hpl X.npl R nb)
  clear X R hN
  go_enter Tryz.func127, Tryz.ntmps127
  go_wp2_with fail
  refine P.out.mono ?_
  rintro e w1 ⟨ev, F1, rfl, hE, hP, hM⟩
  go_wp2_with fail
  go_ret2
  exact ⟨okT, _, ev, _, F1, rfl, hE, Ans.stake _ _ _, hP.more (by omega), hM⟩
set_option maxRecDepth 100000 in
set_option maxHeartbeats 1000000 in
theorem d_unstake (X : Ctx w0 w sb cb pl ss F C j g A) (q : Nat) (hq : w.cell? ⟨q, 0, none⟩ = some (.func (.func 64) #[] #[.pointer (some ⟨pl, 0, none⟩)])) (b : Nat) (N : Nat → Nat) (hN : ∀ i, i < 3 → N i ≤ 9999999) (R : NumRow w b 3 N) (nb : ¬ F b) :
    Calls Tryz.prog 127 #[.slice (some ⟨b, 0, none⟩) 3 3, .pointer (some ⟨q, 0, none⟩)] w (DoEnd sb F cb g C wUnstake [N 0, N 1, N 2] A w) := by
  have P := hide (c_unstake F cb C X.ok X.few g X.g5 pl b N hN A w X.L X.h X.hpl X.npl R nb)
  clear X R hN
  go_enter Tryz.func127, Tryz.ntmps127
  go_wp2_with fail
  refine P.out.mono ?_
  rintro e w1 ⟨ev, F1, rfl, hE, hP, hM⟩
  go_wp2_with fail
  go_ret2
  exact ⟨okT, _, ev, _, F1, rfl, hE, Ans.unstake _ _ _, hP.more (by omega), hM⟩
set_option maxRecDepth 100000 in
set_option maxHeartbeats 1000000 in
theorem d_accuse (X : Ctx w0 w sb cb pl ss F C j g A) (q : Nat) (hq : w.cell? ⟨q, 0, none⟩ = some (.func (.func 66) #[] #[.pointer (some ⟨pl, 0, none⟩)])) (b : Nat) (N : Nat → Nat) (hN : ∀ i, i < 4 → N i ≤ 9999999) (R : NumRow w b 4 N) (nb : ¬ F b) :
    Calls Tryz.prog 127 #[.slice (some ⟨b, 0, none⟩) 4 4, .pointer (some ⟨q, 0, none⟩)] w (DoEnd sb F cb g C wAccuse [N 0, N 1, N 2, N 3] A w) := by
  have P := hide (c_accuse F cb C X.ok X.few g X.g5 pl b N hN A w X.L X.h X.hpl X.npl R nb)
  clear X R hN
  go_enter Tryz.func127, Tryz.ntmps127
  go_wp2_with fail
  refine P.out.mono ?_
  rintro e w1 ⟨ev, F1, rfl, hE, hP, hM⟩
  go_wp2_with fail
  go_ret2
  exact ⟨okT, _, ev, _, F1, rfl, hE, Ans.accuse _ _ _ _, hP.more (by omega), hM⟩
set_option maxRecDepth 100000 in
set_option maxHeartbeats 1000000 in
theorem d_free (X : Ctx w0 w sb cb pl ss F C j g A) (q : Nat) (hq : w.cell? ⟨q, 0, none⟩ = some (.func (.func 70) #[] #[.pointer (some ⟨pl, 0, none⟩)])) (b : Nat) (N : Nat → Nat) (hN : ∀ i, i < 1 → N i ≤ 9999999) (R : NumRow w b 1 N) (nb : ¬ F b) :
    Calls Tryz.prog 132 #[.slice (some ⟨b, 0, none⟩) 1 1, .pointer (some ⟨q, 0, none⟩)] w (DoEnd sb F cb g C wFree [N 0] A w) := by
  have P := hide (c_free F cb C X.ok X.few g X.g5 pl b N hN A w X.L X.h X.hpl X.npl R nb)
  have fb := X.ok.freeN_bd (N 0) C.cyc
  have ft : C.s.freeN (N 0) C.cyc ≤ 9223372036854775807 := by have := X.ok.sum; have := X.ok.p.top; have := X.ok.p.sum0; omega
  have XX := hide X
  clear X R hN
  go_enter Tryz.func132, Tryz.ntmps132
  go_wp2_with fail
  refine P.out.mono ?_
  rintro e w1 ⟨ev, F1, rfl, hE, hP, hM⟩
  have T1 := XX.out.ten hM
  go_wp2_with fail
  refine (sc_itoa _ fb.1 ft w1 T1).mono ?_
  rintro e w2 ⟨rfl, hB2⟩
  have h2 := hP.below hB2
  have M2 := hM.trans (hP.stays hB2)
  clear P hM hP
  go_wp2_with fail
  go_ret2
  exact ⟨_, _, ev, _, F1, rfl, hE, Ans.free _, h2.more (by omega), M2⟩
set_option maxRecDepth 100000 in
set_option maxHeartbeats 1000000 in
theorem d_turn (X : Ctx w0 w sb cb pl ss F C j g A) (q : Nat) (hq : w.cell? ⟨q, 0, none⟩ = some (.func (.func 77) #[] #[.pointer (some ⟨pl, 0, none⟩)])) (b : Nat) (N : Nat → Nat) (hN : ∀ i, i < 1 → N i ≤ 9999999) (R : NumRow w b 1 N) (_nb : ¬ F b) :
    Calls Tryz.prog 132 #[.slice (some ⟨b, 0, none⟩) 1 1, .pointer (some ⟨q, 0, none⟩)] w (DoEnd sb F cb g C wTurn [N 0] A w) := by
  have P := hide (c_turn F cb C X.ok j X.j4 X.fit g pl b N hN A w X.L X.h X.hpl R)
  have XX := hide X
  clear X R hN _nb
  go_enter Tryz.func132, Tryz.ntmps132
  go_wp2_with fail
  refine P.out.mono ?_
  rintro e w1 ⟨k, c, ev, rfl, hE, hW, hk, hB1⟩
  have hM := XX.out.h.stays hB1
  have h1 := XX.out.h.below hB1
  have T1 := XX.out.ten hM
  have HW := hide hW
  clear hW
  go_wp2_with fail
  refine (sc_itoa k hk.1 hk.2 w1 T1).mono ?_
  rintro e w2 ⟨rfl, hB2⟩
  have h2 := h1.below hB2
  have M2 := hM.trans (h1.stays hB2)
  clear P hM h1
  go_wp2_with fail
  go_ret2
  refine ⟨_, c, ev, C, F, rfl, hE, ?_, h2.more (by omega), M2⟩
  rcases HW.out with ⟨rfl, z, T⟩ | ⟨rfl, z⟩
  · rw [orT_no]; exact Ans.turn _ z k T
  · rw [orT_two]; exact Ans.turnNo _ z
set_option maxRecDepth 100000 in
set_option maxHeartbeats 1000000 in
theorem d_has (X : Ctx w0 w sb cb pl ss F C j g A) (q : Nat) (hq : w.cell? ⟨q, 0, none⟩ = some (.func (.func 80) #[] #[.pointer (some ⟨pl, 0, none⟩)])) (b : Nat) (N : Nat → Nat) (hN : ∀ i, i < 1 → N i ≤ 9999999) (R : NumRow w b 1 N) (_nb : ¬ F b) :
    Calls Tryz.prog 137 #[.slice (some ⟨b, 0, none⟩) 1 1, .pointer (some ⟨q, 0, none⟩)] w (DoEnd sb F cb g C wHas [N 0] A w) := by
  have P := hide (c_has F cb C X.ok g pl b N hN w X.h X.hpl R)
  have k0 := X.ok.p.pos (N 0)
  have k9 : C.p.s (N 0) ≤ 9223372036854775807 := by have := X.ok.p.one (N 0); have := X.ok.p.le; have := X.ok.p.top; omega
  have XX := hide X
  clear X R hN _nb
  go_enter Tryz.func137, Tryz.ntmps137
  go_wp2_with fail
  refine P.out.mono ?_
  rintro e w1 ⟨rfl, hB1⟩
  have hM := XX.out.h.stays hB1
  have h1 := XX.out.h.below hB1
  have T1 := XX.out.ten hM
  go_wp2_with fail
  refine (sc_itoa _ k0 k9 w1 T1).mono ?_
  rintro e w2 ⟨rfl, hB2⟩
  have h2 := h1.below hB2
  have M2 := hM.trans (h1.stays hB2)
  clear P hM h1
  go_wp2_with fail
  go_ret2
  exact ⟨_, 0, _, C, F, rfl, .inl ⟨rfl, rfl⟩, by rw [orT_no]; exact Ans.has _, h2.more (by omega), M2⟩
set_option maxRecDepth 100000 in
set_option maxHeartbeats 1000000 in
theorem d_staked (X : Ctx w0 w sb cb pl ss F C j g A) (q : Nat) (hq : w.cell? ⟨q, 0, none⟩ = some (.func (.func 82) #[] #[.pointer (some ⟨ss, 0, none⟩)])) (b : Nat) (N : Nat → Nat) (hN : ∀ i, i < 1 → N i ≤ 9999999) (R : NumRow w b 1 N) (_nb : ¬ F b) :
    Calls Tryz.prog 137 #[.slice (some ⟨b, 0, none⟩) 1 1, .pointer (some ⟨q, 0, none⟩)] w (DoEnd sb F cb g C wStaked [N 0] A w) := by
  have P := hide (c_staked F cb C X.ok g ss b N hN w X.h X.hss R)
  have k0 := (X.ok.s.P_bd (N 0)).1
  have k9 : (C.s.P (N 0)).T ≤ 9223372036854775807 := by have := (X.ok.s.P_bd (N 0)).2; omega
  have XX := hide X
  clear X R hN _nb
  go_enter Tryz.func137, Tryz.ntmps137
  go_wp2_with fail
  refine P.out.mono ?_
  rintro e w1 ⟨rfl, hB1⟩
  have hM := XX.out.h.stays hB1
  have h1 := XX.out.h.below hB1
  have T1 := XX.out.ten hM
  go_wp2_with fail
  refine (sc_itoa _ k0 k9 w1 T1).mono ?_
  rintro e w2 ⟨rfl, hB2⟩
  have h2 := h1.below hB2
  have M2 := hM.trans (h1.stays hB2)
  clear P hM h1
  go_wp2_with fail
  go_ret2
  exact ⟨_, 0, _, C, F, rfl, .inl ⟨rfl, rfl⟩, by rw [orT_no]; exact Ans.staked _, h2.more (by omega), M2⟩
set_option maxRecDepth 100000 in
set_option maxHeartbeats 1000000 in
theorem d_value (X : Ctx w0 w sb cb pl ss F C j g A) (q : Nat) (hq : w.cell? ⟨q, 0, none⟩ = some (.func (.func 84) #[] #[.pointer (some ⟨ss, 0, none⟩)])) (b : Nat) (N : Nat → Nat) (hN : ∀ i, i < 2 → N i ≤ 9999999) (R : NumRow w b 2 N) (_nb : ¬ F b) :
    Calls Tryz.prog 137 #[.slice (some ⟨b, 0, none⟩) 2 2, .pointer (some ⟨q, 0, none⟩)] w (DoEnd sb F cb g C wValue [N 0, N 1] A w) := by
  have P := hide (c_value F cb C X.ok g ss b N hN w X.h X.hss R)
  have k0 := (X.ok.s.pok (N 1)).val0 (N 0)
  have k9 : (C.s.P (N 1)).val (N 0) ≤ 9223372036854775807 := by have := (X.ok.s.pok (N 1)).val1 (N 0); have := (X.ok.s.P_bd (N 1)).2; omega
  have XX := hide X
  clear X R hN _nb
  go_enter Tryz.func137, Tryz.ntmps137
  go_wp2_with fail
  refine P.out.mono ?_
  rintro e w1 ⟨rfl, hB1⟩
  have hM := XX.out.h.stays hB1
  have h1 := XX.out.h.below hB1
  have T1 := XX.out.ten hM
  go_wp2_with fail
  refine (sc_itoa _ k0 k9 w1 T1).mono ?_
  rintro e w2 ⟨rfl, hB2⟩
  have h2 := h1.below hB2
  have M2 := hM.trans (h1.stays hB2)
  clear P hM h1
  go_wp2_with fail
  go_ret2
  exact ⟨_, 0, _, C, F, rfl, .inl ⟨rfl, rfl⟩, by rw [orT_no]; exact Ans.value _ _, h2.more (by omega), M2⟩
set_option maxRecDepth 100000 in
set_option maxHeartbeats 1000000 in
theorem d_waits (X : Ctx w0 w sb cb pl ss F C j g A) (q : Nat) (hq : w.cell? ⟨q, 0, none⟩ = some (.func (.func 86) #[] #[.pointer (some ⟨ss, 0, none⟩)])) (b : Nat) (N : Nat → Nat) (hN : ∀ i, i < 3 → N i ≤ 9999999) (R : NumRow w b 3 N) (_nb : ¬ F b) :
    Calls Tryz.prog 137 #[.slice (some ⟨b, 0, none⟩) 3 3, .pointer (some ⟨q, 0, none⟩)] w (DoEnd sb F cb g C wWaits [N 0, N 1, N 2] A w) := by
  have P := hide (c_waits F cb C X.ok g ss b N hN w X.h X.hss R)
  have k0 := (X.ok.s.wok (N 1) (N 2)).val0 (N 0)
  have k9 : (C.s.W (N 1) (N 2)).val (N 0) ≤ 9223372036854775807 := by have := (X.ok.s.wok (N 1) (N 2)).val1 (N 0); have := (X.ok.s.wok (N 1) (N 2)).t1; omega
  have XX := hide X
  clear X R hN _nb
  go_enter Tryz.func137, Tryz.ntmps137
  go_wp2_with fail
  refine P.out.mono ?_
  rintro e w1 ⟨rfl, hB1⟩
  have hM := XX.out.h.stays hB1
  have h1 := XX.out.h.below hB1
  have T1 := XX.out.ten hM
  go_wp2_with fail
  refine (sc_itoa _ k0 k9 w1 T1).mono ?_
  rintro e w2 ⟨rfl, hB2⟩
  have h2 := h1.below hB2
  have M2 := hM.trans (h1.stays hB2)
  clear P hM h1
  go_wp2_with fail
  go_ret2
  exact ⟨_, 0, _, C, F, rfl, .inl ⟨rfl, rfl⟩, by rw [orT_no]; exact Ans.waits _ _ _, h2.more (by omega), M2⟩
set_option maxRecDepth 100000 in
set_option maxHeartbeats 1000000 in
theorem d_supply (X : Ctx w0 w sb cb pl ss F C j g A) (q : Nat) (hq : w.cell? ⟨q, 0, none⟩ = some (.func (.func 88) #[] #[.pointer (some ⟨pl, 0, none⟩)])) (v : Value) :
    Calls Tryz.prog 137 #[v, .pointer (some ⟨q, 0, none⟩)] w (DoEnd sb F cb g C wSupply [] A w) := by
  have P := hide (c_supply F cb C X.ok g pl v w X.h X.hpl)
  have k0 := (show 0 ≤ C.p.S from by have := X.ok.pos; omega)
  have k9 : C.p.S ≤ 9223372036854775807 := by have := X.ok.p.top; omega
  have XX := hide X
  clear X
  go_enter Tryz.func137, Tryz.ntmps137
  go_wp2_with fail
  refine P.out.mono ?_
  rintro e w1 ⟨rfl, hB1⟩
  have hM := XX.out.h.stays hB1
  have h1 := XX.out.h.below hB1
  have T1 := XX.out.ten hM
  go_wp2_with fail
  refine (sc_itoa _ k0 k9 w1 T1).mono ?_
  rintro e w2 ⟨rfl, hB2⟩
  have h2 := h1.below hB2
  have M2 := hM.trans (h1.stays hB2)
  clear P hM h1
  go_wp2_with fail
  go_ret2
  exact ⟨_, 0, _, C, F, rfl, .inl ⟨rfl, rfl⟩, by rw [orT_no]; exact Ans.supply, h2.more (by omega), M2⟩
set_option maxRecDepth 100000 in
set_option maxHeartbeats 1000000 in
theorem d_bonus (X : Ctx w0 w sb cb pl ss F C j g A) (q : Nat) (hq : w.cell? ⟨q, 0, none⟩ = some (.func (.func 90) #[] #[.pointer (some ⟨pl, 0, none⟩)])) (v : Value) :
    Calls Tryz.prog 137 #[v, .pointer (some ⟨q, 0, none⟩)] w (DoEnd sb F cb g C wBonus [] A w) := by
  have P := hide (c_bonus F cb C X.ok g pl v w X.h X.hpl)
  have k0 := X.ok.bon.1
  have k9 : C.bon ≤ 9223372036854775807 := by have := X.ok.bon.2; omega
  have XX := hide X
  clear X
  go_enter Tryz.func137, Tryz.ntmps137
  go_wp2_with fail
  refine P.out.mono ?_
  rintro e w1 ⟨rfl, hB1⟩
  have hM := XX.out.h.stays hB1
  have h1 := XX.out.h.below hB1
  have T1 := XX.out.ten hM
  go_wp2_with fail
  refine (sc_itoa _ k0 k9 w1 T1).mono ?_
  rintro e w2 ⟨rfl, hB2⟩
  have h2 := h1.below hB2
  have M2 := hM.trans (h1.stays hB2)
  clear P hM h1
  go_wp2_with fail
  go_ret2
  exact ⟨_, 0, _, C, F, rfl, .inl ⟨rfl, rfl⟩, by rw [orT_no]; exact Ans.bonus, h2.more (by omega), M2⟩
set_option maxRecDepth 100000 in
theorem c_cycle (X : Ctx w0 w sb cb pl ss F C j g A) (v : Value) :
    Calls Tryz.prog 75 #[v, .pointer (some ⟨pl, 0, none⟩)] w fun e w' => e = .returned .nilIface ∧ ∃ C' F', CycTo C.cyc C C' ∧ PCb sb F' w' cb C' (g + 8000) ∧ Moved F F' w w' := by
  have P := hide (finish_of F cb C X.ok j X.hj X.fit g X.hg A w X.L.e X.h)
  have hpl := X.hpl
  clear X
  go_enter Tryz.func75, Tryz.ntmps75
  go_wp2_with fail
  refine P.out.mono ?_
  rintro e w1 ⟨rfl, C', F', hY, hP, hM⟩
  go_wp2_with fail
  go_ret
  exact ⟨rfl, C', F', hY, hP, hM⟩
set_option maxRecDepth 100000 in
set_option maxHeartbeats 1000000 in
theorem d_cycle (X : Ctx w0 w sb cb pl ss F C j g A) (q : Nat) (hq : w.cell? ⟨q, 0, none⟩ = some (.func (.func 75) #[] #[.pointer (some ⟨pl, 0, none⟩)])) (v : Value) :
    Calls Tryz.prog 127 #[v, .pointer (some ⟨q, 0, none⟩)] w (DoEnd sb F cb g C wCycle [] A w) := by
  have P := hide (c_cycle X v)
  clear X
  go_enter Tryz.func127, Tryz.ntmps127
  go_wp2_with fail
  refine P.out.mono ?_
  rintro e w1 ⟨rfl, C', F', hY, hP, hM⟩
  go_wp2_with fail
  go_ret2
  exact ⟨okT, 0, _, C', F', rfl, .inl ⟨rfl, rfl⟩, by rw [orT_no]; exact Ans.cycle C' hY, hP, hM⟩
set_option maxRecDepth 100000 in
set_option maxHeartbeats 1000000 in
theorem d_bake (X : Ctx w0 w sb cb pl ss F C j g A) (b : Nat) (N : Nat → Nat) (hN : ∀ i, i < 1 → N i ≤ 9999999) (R : NumRow w b 1 N) (nb : ¬ F b) :
    Calls Tryz.prog 72 #[.slice (some ⟨b, 0, none⟩) 1 1, .pointer (some ⟨pl, 0, none⟩)] w (DoEnd sb F cb g C wBake [N 0] A w) := by
  have c0 : w.cell? ⟨b, 0, none⟩ = some (.int .i64 (N 0 : Int)) := R.cell (i := 0) (by omega)
  have n0 := hN 0 (by omega)
  have P := player_bake F cb C X.ok j X.j4 X.fit g X.g5 (N 0) A w.drew (X.L.e.below (drew_b w)) (X.h.below (drew_b w))
  have hpl := X.hpl
  have npl := X.npl
  have XX := hide X
  clear X R hN
  go_enter Tryz.func72, Tryz.ntmps72
  go_wp2_with fail
  go_region_held3 (fun w' => w'.cell? ⟨pl, 0, none⟩ = some (.pointer (some ⟨cb, 0, none⟩)) ∧ w'.cell? ⟨b, 0, none⟩ = some (.int .i64 (N 0 : Int))) (exact ⟨by assumption, by assumption⟩)
    (first
      | (go_at_call 74; refine P.mono ?_; rintro e w5 ⟨k, n, c, ev, C', F5, rfl, hE, hW, hk, hn, hP, hM⟩; replace hM := moved_drew hM; have dp : w5.cell? ⟨pl, 0, none⟩ = some (.pointer (some ⟨cb, 0, none⟩)) := hM.kept.old hpl npl; have d0 : w5.cell? ⟨b, 0, none⟩ = some (.int .i64 (N 0 : Int)) := hM.kept.old c0 nb; have P6 := pair_of k n hk.1 hk.2 hn.1 hn.2 ev w5 (XX.out.ten hM); replace hW := hide hW; clear hk hn)
      | (go_at_call 73; refine P6.mono ?_; rintro e w6 ⟨rfl, hB6⟩; have dp6 : w6.cell? ⟨pl, 0, none⟩ = some (.pointer (some ⟨cb, 0, none⟩)) := was_cellP hB6 dp; have d06 : w6.cell? ⟨b, 0, none⟩ = some (.int .i64 (N 0 : Int)) := was_cellP hB6 d0))
  have h6 := hP.below hB6
  have M6 := hM.trans (hP.stays hB6)
  clear P P6 hP hM
  go_wp2_with fail
  go_ret2
  refine ⟨_, c, ev, C', F5, rfl, hE, ?_, h6.more (by omega), M6⟩
  rcases hW.out with ⟨rfl, z, T, rfl, rfl⟩ | ⟨rfl, z, rfl⟩
  · rw [orT_no]; exact Ans.bake _ z k T
  · rw [orT_two]; exact Ans.bakeNo _ z
set_option maxRecDepth 100000 in
set_option maxHeartbeats 1000000 in
theorem d_at (X : Ctx w0 w sb cb pl ss F C j g A) (v : Value) :
    Calls Tryz.prog 92 #[v, .pointer (some ⟨pl, 0, none⟩)] w (DoEnd sb F cb g C wAt [] A w) := by
  have hd := X.h.below (drew_b w)
  have hpl := X.hpl
  have XX := hide X
  have y9 : (C.cyc : Int) ≤ 9223372036854775807 := by have := X.few.y; omega
  have l9 : (C.lev : Int) ≤ 9223372036854775807 := by have := X.few.v; omega
  clear X
  go_enter Tryz.func92, Tryz.ntmps92
  go_wp2_with fail
  go_region_held3 (fun w' => w'.cell? ⟨pl, 0, none⟩ = some (.pointer (some ⟨cb, 0, none⟩))) (assumption)
    (first
      | (go_at_call 93; have _t := h5; refine (pcb_cycle F cb C g w5 h5).mono ?_; rintro e w6 ⟨rfl, hB6⟩; have B6 : Below w.heap.size w w6 := B5.trans (hB6.mono B5.size); have dp6 : w6.cell? ⟨pl, 0, none⟩ = some (.pointer (some ⟨cb, 0, none⟩)) := was_cellP hB6 dp; have P7 := pair_of (C.cyc : Int) (C.lev : Int) (by omega) y9 (by omega) l9 .nilIface w6 (XX.out.ten (XX.out.h.stays B6)))
      | (go_at_call 94; have _t := h5; refine (pcb_level F cb C g w5 h5).mono ?_; rintro e w6 ⟨rfl, hB6⟩; have B6 : Below w.heap.size w w6 := B5.trans (hB6.mono B5.size); have dp6 : w6.cell? ⟨pl, 0, none⟩ = some (.pointer (some ⟨cb, 0, none⟩)) := was_cellP hB6 dp; have P7 := pair_of (C.cyc : Int) (C.lev : Int) (by omega) y9 (by omega) l9 .nilIface w6 (XX.out.ten (XX.out.h.stays B6)))
      | (go_at_call 93; refine (pcb_cycle F cb C g w.drew hd).mono ?_; rintro e w5 ⟨rfl, hB5⟩; have h5 := hd.below hB5; have B5 : Below w.heap.size w w5 := (drew_b w).trans (hB5.mono (Nat.le_refl _)); have dp : w5.cell? ⟨pl, 0, none⟩ = some (.pointer (some ⟨cb, 0, none⟩)) := was_cellP hB5 hpl)
      | (go_at_call 94; refine (pcb_level F cb C g w.drew hd).mono ?_; rintro e w5 ⟨rfl, hB5⟩; have h5 := hd.below hB5; have B5 : Below w.heap.size w w5 := (drew_b w).trans (hB5.mono (Nat.le_refl _)); have dp : w5.cell? ⟨pl, 0, none⟩ = some (.pointer (some ⟨cb, 0, none⟩)) := was_cellP hB5 hpl)
      | (go_at_call 73; refine P7.mono ?_; rintro e w7 ⟨rfl, hB7⟩; have dp7 : w7.cell? ⟨pl, 0, none⟩ = some (.pointer (some ⟨cb, 0, none⟩)) := was_cellP hB7 dp6))
  all_goals
    have B7 : Below w.heap.size w w7 := B6.trans (hB7.mono B6.size)
    have h7 := XX.out.h.below B7
    have M7 := XX.out.h.stays B7
    clear hd h5 P7
    go_wp2_with fail
    go_ret2
    exact ⟨_, 0, _, C, F, rfl, .inl ⟨rfl, rfl⟩, by rw [orT_no]; exact Ans.at, h7.more (by omega), M7⟩
end
end Go.Proofs.YtmbfdhekplnoaaaGreatDoor
