/-
  The document's chain by its contracts: stakes, what is freed, the ratio.
  The document's columns under way, as they lie in memory: what each thing that a round does makes of them.
  The document's draw (bakehouseref1) by its contracts: the weights' fault; picks.
  The document's columns made (bakehouseref1.NewDraw) by its contract.
  The document's lots by their contracts.
-/
import Derived.Test.YtjodnacodlhamacGreatDoorRefCopyX
import Derived.Test.YtjodnacodlhamacGreatDoorRefStkWaitX
import Derived.Test.YtjodnacodlhamacGreatDoorRefIssueX
import Derived.Test.YtjodnacodlhamacGreatDoorAidX
import Derived.Deep.QuietTactic
import Derived.BigQuiet
import Derived.Deep.RegionHeld3
import Derived.Test.YtjodnacodlhamacGreatDoorProgRightX
import Derived.Deep.CutRange
namespace Go.Proofs.YtjodnacodlhamacGreatDoor
open Go.RowKit

theorem RChAt.movedP {tag : Nat → Nat} {w w' : World} {cb pb pq sb kb : Nat} {v : Value} {M : List (Nat × Nat)} {C : Ch} {F : Nat → Prop} (h : RChAt tag w cb pb pq sb kb v M C) (hF : ∀ k, F k ↔ tag k ≠ 0) (hK : Kept [pb, pq] w w') : Moved F F w w' :=
  ⟨KeptP.of_kept hK fun k hk => (hF k).2 (by
    rcases List.mem_cons.1 hk with e | e
    · rw [e, h.tp]; decide
    · rw [List.mem_singleton.1 e, h.tq]; decide), fun _ _ g => g⟩
theorem St.joinC_nn (x : St) (o n : Int) : 0 ≤ x.joinC o n := by unfold St.joinC; repeat' split <;> omega
theorem Sk.joinC_nn (S : Sk) (o b n : Int) : 0 ≤ S.joinC o b n := by
  unfold Sk.joinC
  split
  · exact St.joinC_nn _ _ _
  · omega
theorem Pu.outC_nn (x : Pu) (o n : Int) : 0 ≤ x.outC o n := by unfold Pu.outC; repeat' split <;> omega
set_option maxRecDepth 100000 in
set_option maxHeartbeats 1000000 in
theorem rch_stake (F : Nat → Prop) (cb : Nat) (C : Ch) (hC : C.Ok) (o b n : Int) (w : World) (h : RCh F w cb C) :
    Calls Tryz.prog 63 #[.pointer (some ⟨cb, 0, none⟩), .int .i64 o, .int .i64 b, .int .i64 n] w fun e w' => e = .returned (.int .i64 (C.stakeC o b n)) ∧ ∃ F', RCh F' w' cb (C.stake o b n) ∧ Moved F F' w w' := by
  obtain ⟨tag, pb, pq, sb, kb, v, M, hF, h⟩ := h
  have c0 := h.c0
  have P := rp_out pb pq C.p hC.p o n w h.p
  by_cases k1 : C.p.outC o n = 0
  · rw [k1] at P
    by_cases k2 : C.s.joinC o b n = 0
    · have e1 : C.stakeC o b n = 0 := by unfold Ch.stakeC; rw [if_neg (not_not_intro k1)]; exact k2
      have e2 : C.stake o b n = { C with p := C.p.out o n, s := C.s.join o b n } := if_pos e1
      rw [e1, e2]
      have K2 := hide k2
      clear e1 e2 k2
      go_enter Tryz.func63, Tryz.ntmps63
      go_wp2_with fail
      refine P.mono ?_
      rintro e w1 ⟨rfl, hp1, hK1⟩
      have h1 := h.purse hp1 hK1
      have M1 := h.movedP hF hK1
      have d1 := h1.c1
      have J := rs_join _ sb C.s hC.s o b n w1 h1.s
      rw [K2.out] at J
      clear P c0 hp1 hK1 h
      go_wp2_with fail
      refine J.mono ?_
      rintro e w2 ⟨rfl, hs2, hM2⟩
      have h2 := h1.stakes hs2 hM2
      have M2 := retag_moved hF hM2 (by decide)
      clear J d1 h1
      go_wp2_with fail
      go_ret
      exact ⟨rfl, _, ⟨_, pb, pq, sb, kb, v, M, fun _ => Iff.rfl, h2⟩, M1.trans M2⟩
    · have nn := C.s.joinC_nn o b n
      have e1 : C.stakeC o b n = C.s.joinC o b n := by unfold Ch.stakeC; rw [if_neg (not_not_intro k1)]
      have e2 : C.stake o b n = C := if_neg (by rw [e1]; exact k2)
      rw [e1, e2]
      have K2 := hide k2
      have K1 := hide k1
      have pos : 0 < C.s.joinC o b n := by omega
      clear e1 e2 k2 k1
      go_enter Tryz.func63, Tryz.ntmps63
      go_wp2_with fail
      refine P.mono ?_
      rintro e w1 ⟨rfl, hp1, hK1⟩
      have h1 := h.purse hp1 hK1
      have M1 := h.movedP hF hK1
      have d1 := h1.c1
      have J := rs_join _ sb C.s hC.s o b n w1 h1.s
      clear P c0 hp1 hK1 h
      go_wp2_with fail
      refine J.mono ?_
      rintro e w2 ⟨rfl, hs2, hM2⟩
      rw [Sk.join_same K2.out] at hs2
      have h2 := h1.stakes hs2 hM2
      have M2 := retag_moved hF hM2 (by decide)
      have d0 := h2.c0
      have I := rp_in pb pq (C.p.out o n) (hC.p.out' o n) o n w2 h2.p
      rw [Pu.out_in hC.p K1.out] at I
      clear J d1 h1
      go_wp2_with fail
      refine I.mono ?_
      rintro e w3 ⟨rfl, hp3, hK3⟩
      have h3 := h2.purse hp3 hK3
      have M3 := h2.movedP (fun _ => Iff.rfl) hK3
      clear I d0 h2
      go_wp2_with fail
      go_ret
      exact ⟨rfl, _, ⟨_, pb, pq, sb, kb, v, M, fun _ => Iff.rfl, h3⟩, (M1.trans M2).trans M3⟩
  · have nn := C.p.outC_nn o n
    have e1 : C.stakeC o b n = C.p.outC o n := if_pos k1
    have e2 : C.stake o b n = C := if_neg (by rw [e1]; exact k1)
    have e3 : C.p.out o n = C.p := if_neg k1
    rw [e1, e2]
    rw [e3] at P
    have pos : 0 < C.p.outC o n := by omega
    clear e1 e2 e3 k1
    go_enter Tryz.func63, Tryz.ntmps63
    go_wp2_with fail
    refine P.mono ?_
    rintro e w1 ⟨rfl, hp1, hK1⟩
    have h1 := h.purse hp1 hK1
    have M1 := h.movedP hF hK1
    clear P c0 hp1 hK1 h
    go_wp2_with fail
    go_ret
    exact ⟨rfl, F, ⟨tag, pb, pq, sb, kb, v, M, hF, h1⟩, M1⟩
theorem RChAt.drewN {tag : Nat → Nat} {w : World} {cb pb pq sb kb : Nat} {v : Value} {M : List (Nat × Nat)} {C : Ch} (h : RChAt tag w cb pb pq sb kb v M C) (n : Nat) : RChAt tag (w.drewN n) cb pb pq sb kb v M C := h.keptP (G := fun _ => False) ((KeptP.refl _ _).drewN n) fun _ g => g.elim
theorem RChAt.nextB {tag : Nat → Nat} {w w' : World} {cb pb pq sb kb : Nat} {v : Value} {M : List (Nat × Nat)} {C : Ch} (h : RChAt tag w cb pb pq sb kb v M C) (k : Below w.heap.size w w') : RChAt tag w' cb pb pq sb kb v M C := h.keptP (KeptP.of_below (F := fun _ => False) k) fun _ g => g.elim
theorem RCh.drewN {F : Nat → Prop} {w : World} {cb : Nat} {C : Ch} (h : RCh F w cb C) (n : Nat) : RCh F (w.drewN n) cb C := h.keptP (G := fun _ => False) ((KeptP.refl _ _).drewN n) fun _ g => g.elim
theorem RCh.nextB {F : Nat → Prop} {w w' : World} {cb : Nat} {C : Ch} (h : RCh F w cb C) (k : Below w.heap.size w w') : RCh F w' cb C := h.keptP (KeptP.of_below (F := fun _ => False) k) fun _ g => g.elim
theorem cyc_wf {n : Nat} (h : n ≤ 1000) : (Lit.int .i64 (n : Int)).wf = true := WalkArith.wf_i64 (by omega)
set_option maxRecDepth 100000 in
set_option maxHeartbeats 1000000 in
theorem rch_free (F : Nat → Prop) (cb : Nat) (C : Ch) (hC : C.Ok) (hl : C.s.K.length ≤ 1000) (hy : C.cyc ≤ 1000) (o : Int) (w : World) (h : RCh F w cb C) :
    Calls Tryz.prog 65 #[.pointer (some ⟨cb, 0, none⟩), .int .i64 o] w fun e w' => e = .returned (.tuple #[.int .i64 (C.s.freeN o C.cyc), .int .i64 (C.s.freeC o C.cyc)]) ∧ ∃ F', RCh F' w' cb (C.free o) ∧ Moved F F' w w' := by
  obtain ⟨tag, pb, pq, sb, kb, v, M, hF, h⟩ := h
  have c1 := h.c1
  have c4 := h.c4
  have nc : ¬ tag cb = 3 := by rw [h.tc]; decide
  by_cases k : C.s.freeC o C.cyc = 0
  · have e2 : C.free o = { C with p := C.p.in' o (C.s.freeN o C.cyc), s := C.s.free o C.cyc } := if_pos k
    have ki := h.p
    have KI := hide (hC.freeIn k)
    rw [k, e2]
    have K := hide k
    clear e2 k ki
    go_enter Tryz.func65, Tryz.ntmps65
    go_wp2_with fail
    go_region_held3 (fun w' => w'.cell? ⟨cb, 1, none⟩ = some (.pointer (some ⟨sb, 0, none⟩)) ∧ w'.cell? ⟨cb, 4, none⟩ = some (.int .i64 C.cyc)) (exact ⟨by assumption, by assumption⟩)
      (first | (go_at_call 118; refine (rs_free _ sb C.s hC.s hl o C.cyc (cyc_wf hy) _ (by first | exact h.s | exact h.s.drewN _)).mono ?_; rintro e w1 ⟨rfl, hs1, hM1⟩; have d1 := hM1.kept.old (p := ⟨cb, 1, none⟩) c1 nc; have d4 := hM1.kept.old (p := ⟨cb, 4, none⟩) c4 nc; obtain ⟨wq, hq, hMq, hB⟩ := (by first | exact ⟨_, h, hM1, Below.refl _ _⟩ | exact ⟨_, h.drewN _, hM1, below_drewN (Below.refl _ _) _⟩ : ∃ wq, RChAt tag wq cb pb pq sb kb v M C ∧ Moved (fun k => tag k = 3) (fun k => tag k = 3) wq w1 ∧ Below w.heap.size w wq); rw [K.out]))
    have h1 := hq.stakes hs1 hMq
    have M1 : Moved F _ w w1 := (⟨KeptP.of_below hB, fun _ _ g => g⟩ : Moved F F w wq).trans (retag_moved hF hMq (by decide))
    have e0 := h1.c0
    have I := rp_in pb pq C.p hC.p o (C.s.freeN o C.cyc) w1 h1.p
    rw [KI.out] at I
    clear c1 c4 d1 d4 h hq hMq hB hM1 hs1
    go_wp2_with fail
    refine I.mono ?_
    rintro e w2 ⟨rfl, hp2, hK2⟩
    have h2 := h1.purse hp2 hK2
    have M2 := h1.movedP (fun _ => Iff.rfl) hK2
    clear I e0 h1
    go_wp2_with fail
    go_ret2
    exact ⟨rfl, _, ⟨_, pb, pq, sb, kb, v, M, fun _ => Iff.rfl, h2⟩, M1.trans M2⟩
  · have e2 : C.free o = C := if_neg k
    have kb' : (C.s.freeC o C.cyc == 0) = false := by rw [beq_eq_false_iff_ne]; exact k
    have K := hide (hC.s.free_same k)
    rw [e2]
    clear e2 k
    go_enter Tryz.func65, Tryz.ntmps65
    go_wp2_with fail
    go_region_held3 (fun w' => w'.cell? ⟨cb, 1, none⟩ = some (.pointer (some ⟨sb, 0, none⟩)) ∧ w'.cell? ⟨cb, 4, none⟩ = some (.int .i64 C.cyc)) (exact ⟨by assumption, by assumption⟩)
      (first | (go_at_call 118; refine (rs_free _ sb C.s hC.s hl o C.cyc (cyc_wf hy) _ (by first | exact h.s | exact h.s.drewN _)).mono ?_; rintro e w1 ⟨rfl, hs1, hM1⟩; have d1 := hM1.kept.old (p := ⟨cb, 1, none⟩) c1 nc; have d4 := hM1.kept.old (p := ⟨cb, 4, none⟩) c4 nc; obtain ⟨wq, hq, hMq, hB⟩ := (by first | exact ⟨_, h, hM1, Below.refl _ _⟩ | exact ⟨_, h.drewN _, hM1, below_drewN (Below.refl _ _) _⟩ : ∃ wq, RChAt tag wq cb pb pq sb kb v M C ∧ Moved (fun k => tag k = 3) (fun k => tag k = 3) wq w1 ∧ Below w.heap.size w wq)))
    rw [K.out] at hs1
    have h1 := hq.stakes hs1 hMq
    have M1 : Moved F _ w w1 := (⟨KeptP.of_below hB, fun _ _ g => g⟩ : Moved F F w wq).trans (retag_moved hF hMq (by decide))
    clear c1 c4 d1 d4 h hq hMq hB hM1 hs1
    go_wp2_with fail
    go_ret2
    exact ⟨rfl, _, ⟨_, pb, pq, sb, kb, v, M, fun _ => Iff.rfl, h1⟩, M1⟩
/-- what is staked with the first so many -/
def stTo (S : Sk) : Nat → Int
  | 0 => 0
  | k + 1 => stTo S k + (S.P k).T
theorem stTo_three (S : Sk) : stTo S 3 = (S.P 0).T + (S.P 1).T + (S.P 2).T := by simp [stTo]
theorem stTo_bd {S : Sk} (h : S.Ok) : ∀ k, 0 ≤ stTo S k ∧ stTo S k ≤ k * 1125899906842624
  | 0 => ⟨Int.le_refl _, by simp [stTo]⟩
  | k + 1 => by
    have a := stTo_bd h k
    have b := h.P_bd k
    have e : stTo S (k + 1) = stTo S k + (S.P k).T := rfl
    rw [e, Int.natCast_add, Int.add_mul]
    omega
set_option maxRecDepth 100000 in
set_option maxHeartbeats 1000000 in
theorem rch_ratio (F : Nat → Prop) (cb : Nat) (C : Ch) (hC : C.Ok) (w : World) (h : RCh F w cb C) :
    Calls Tryz.prog 122 #[.pointer (some ⟨cb, 0, none⟩)] w fun e w' => e = .returned (.int .i64 C.ratio) ∧ Below w.heap.size w w' := by
  obtain ⟨tag, pb, pq, sb, kb, v, M, hF, h⟩ := h
  have c0 := h.c0
  have c1 := h.c1
  have p1 := h.p.c1
  have bd := fun k => stTo_bd hC.s k
  go_enter Tryz.func122, Tryz.ntmps122
  go_wp2_with fail
  go_loop [3, 4] (fun n i => ∃ k : Nat, k ≤ 3 ∧ i = .int .i64 k ∧ n = .int .i64 (stTo C.s k)) (fun _ i => 3 - (intOf i).toNat)
  case atStart => exact ⟨0, by omega, rfl, rfl⟩
  case round =>
    obtain ⟨k, hk, rfl, rfl⟩ := hrel
    by_cases hlt : k < 3
    · obtain ⟨tg, qb, qv, L, _, hs⟩ := h.s
      have Q := rs_staked tg sb qb qv L C.s hC.s k w hs
      have a := bd k
      have b := hC.s.P_bd k
      have hN : stTo C.s (k + 1) = stTo C.s k + (C.s.P k).T := rfl
      have HN := hide hN
      have kk : (k : Int) ≤ 2 := by omega
      have a2 : stTo C.s k ≤ 3377699720527872 := by
        have := a.2
        have : (k : Int) * 1125899906842624 ≤ 2 * 1125899906842624 := Int.mul_le_mul_of_nonneg_right kk (by omega)
        omega
      have a1 := a.1
      obtain ⟨b1, b2⟩ := b
      clear hN a bd kk
      go_wp2_with fail
      refine Q.mono ?_
      rintro e w1 ⟨rfl, hw⟩
      subst hw
      go_wp2_with fail
      go_round
      case rel => exact ⟨k + 1, by omega, by go_num, by rw [HN.out]⟩
      case measure => simp [intOf]; omega
    · obtain rfl : k = 3 := by omega
      have e3 := stTo_three C.s
      have R := ref_ratio (stTo C.s 3) C.p.S w
      rw [e3] at R ⊢
      clear e3 bd
      go_wp2_with fail
      refine R.mono ?_
      rintro e w1 ⟨rfl, hB⟩
      go_wp2_with fail
      go_ret
      exact ⟨rfl, hB⟩
end Go.Proofs.YtjodnacodlhamacGreatDoor

namespace Go.Proofs.YtjodnacodlhamacGreatDoor
open Go.RowKit Go.Deep

/-- the draw's own three cells -/
def ownv (H : Int) (L O n j : Nat) : Value := if j = 0 then .int .i64 H else if j = 1 then .slice (some ⟨L, 0, none⟩) n n else .slice (some ⟨O, 0, none⟩) n n
/-- blocks of which each is another -/
structure Apart (D L O R base : Nat) : Prop where
  dl : D ≠ L
  d' : D ≠ O
  dr : D ≠ R
  lo : L ≠ O
  lr : L ≠ R
  or' : O ≠ R
  bd : D < base ∧ L < base ∧ O < base ∧ R < base
structure RefFill (w : World) (D L O R base n : Nat) (H : Int) (rest line : Nat → Int) (other : Nat → Nat) (sv gv : Value) (small great : List Nat) : Prop where
  h : w.rowIs D 207 3 (ownv H L O n)
  l : w.rowIs L 3 n (fun j => .int .i64 (line j))
  o : w.rowIs O 3 n (fun j => .int .i64 (other j))
  r : w.rowIs R 3 n (fun j => .int .i64 (rest j))
  s : Que w 3 base sv (ints small)
  g : Que w 3 base gv (ints great)
  ne : ∀ k, sv.ownBlock = some k → gv.ownBlock ≠ some k

section
variable {w : World} {D L O R base n : Nat} {H : Int} {rest line : Nat → Int} {other : Nat → Nat} {sv gv : Value} {small great : List Nat}
theorem RefFill.cH (h : RefFill w D L O R base n H rest line other sv gv small great) : w.cell? ⟨D, 0, none⟩ = some (.int .i64 H) := h.h.cell (by omega)
theorem RefFill.cL (h : RefFill w D L O R base n H rest line other sv gv small great) : w.cell? ⟨D, 1, none⟩ = some (.slice (some ⟨L, 0, none⟩) n n) := h.h.cell (by omega)
theorem RefFill.cO (h : RefFill w D L O R base n H rest line other sv gv small great) : w.cell? ⟨D, 2, none⟩ = some (.slice (some ⟨O, 0, none⟩) n n) := h.h.cell (by omega)
theorem RefFill.drewN (h : RefFill w D L O R base n H rest line other sv gv small great) (m : Nat) : RefFill (w.drewN m) D L O R base n H rest line other sv gv small great := ⟨h.h, h.l, h.o, h.r, h.s, h.g, h.ne⟩
theorem RefFill.drew (h : RefFill w D L O R base n H rest line other sv gv small great) : RefFill w.drew D L O R base n H rest line other sv gv small great := ⟨h.h, h.l, h.o, h.r, h.s, h.g, h.ne⟩
theorem RefFill.setH (h : RefFill w D L O R base n H rest line other sv gv small great) (a : Apart D L O R base) (x : Int) : RefFill (w.setCell ⟨D, 0, none⟩ (.int .i64 x)) D L O R base n x rest line other sv gv small great where
  h := (h.h.set 0 _).congr (fun i _ => by
    show (if i = 0 then Value.int .i64 x else ownv H L O n i) = ownv x L O n i
    unfold ownv; split <;> rfl)
  l := h.l.setOther (fun e => a.dl e.symm) _
  o := h.o.setOther (fun e => a.d' e.symm) _
  r := h.r.setOther (fun e => a.dr e.symm) _
  s := h.s.setCell _ _ (que_off h.s a.bd.1)
  g := h.g.setCell _ _ (que_off h.g a.bd.1)
  ne := h.ne
theorem RefFill.setR (h : RefFill w D L O R base n H rest line other sv gv small great) (a : Apart D L O R base) (k : Nat) (x : Int) : RefFill (w.setCell ⟨R, k, none⟩ (.int .i64 x)) D L O R base n H (upd rest k x) line other sv gv small great where
  h := h.h.setOther a.dr _
  l := h.l.setOther a.lr _
  o := h.o.setOther a.or' _
  r := (h.r.set k _).congr (fun i _ => by
    show (if i = k then Value.int .i64 x else .int .i64 (rest i)) = .int .i64 (upd rest k x i)
    unfold upd; split <;> rfl)
  s := h.s.setCell _ _ (que_off h.s a.bd.2.2.2)
  g := h.g.setCell _ _ (que_off h.g a.bd.2.2.2)
  ne := h.ne
theorem RefFill.setL (h : RefFill w D L O R base n H rest line other sv gv small great) (a : Apart D L O R base) (k : Nat) (x : Int) : RefFill (w.setCell ⟨L, k, none⟩ (.int .i64 x)) D L O R base n H rest (upd line k x) other sv gv small great where
  h := h.h.setOther a.dl _
  l := (h.l.set k _).congr (fun i _ => by
    show (if i = k then Value.int .i64 x else .int .i64 (line i)) = .int .i64 (upd line k x i)
    unfold upd; split <;> rfl)
  o := h.o.setOther (fun e => a.lo e.symm) _
  r := h.r.setOther (fun e => a.lr e.symm) _
  s := h.s.setCell _ _ (que_off h.s a.bd.2.1)
  g := h.g.setCell _ _ (que_off h.g a.bd.2.1)
  ne := h.ne
theorem RefFill.setO (h : RefFill w D L O R base n H rest line other sv gv small great) (a : Apart D L O R base) (k x : Nat) : RefFill (w.setCell ⟨O, k, none⟩ (.int .i64 x)) D L O R base n H rest line (upd other k x) sv gv small great where
  h := h.h.setOther a.d' _
  l := h.l.setOther a.lo _
  o := (h.o.set k _).congr (fun i _ => by
    show (if i = k then Value.int .i64 (x : Int) else .int .i64 (other i)) = .int .i64 ((upd other k x i : Nat) : Int)
    unfold upd; split <;> rfl)
  r := h.r.setOther (fun e => a.or' e.symm) _
  s := h.s.setCell _ _ (que_off h.s a.bd.2.2.1)
  g := h.g.setCell _ _ (que_off h.g a.bd.2.2.1)
  ne := h.ne
theorem RefFill.alloc (h : RefFill w D L O R base n H rest line other sv gv small great) (x : Obj) : RefFill (w.alloc x) D L O R base n H rest line other sv gv small great :=
  ⟨h.h.alloc x, h.l.alloc x, h.o.alloc x, h.r.alloc x, h.s.alloc x, h.g.alloc x, h.ne⟩
theorem RefFill.pushS {w' : World} {sv' : Value} {k : Nat} (h : RefFill w D L O R base n H rest line other sv gv small great) (a : Apart D L O R base) (hq : Que w' 3 base sv' (ints small ++ [(k : Int)])) (hg : w.grownBy w' sv.ownBlock)
    (ho : sv'.ownBlock = sv.ownBlock ∨ ∃ k, sv'.ownBlock = some k ∧ w.heap.size ≤ k) : RefFill w' D L O R base n H rest line other sv' gv (small ++ [k]) great := by
  have off : ∀ b, b < base → some b ≠ sv.ownBlock := fun b hb e => que_off h.s hb e.symm
  exact {
    h := h.h.of_block (hg.block _ h.h.lt (off _ a.bd.1))
    l := h.l.of_block (hg.block _ h.l.lt (off _ a.bd.2.1))
    o := h.o.of_block (hg.block _ h.o.lt (off _ a.bd.2.2.1))
    r := h.r.of_block (hg.block _ h.r.lt (off _ a.bd.2.2.2))
    s := by rw [ints_append]; exact hq
    g := h.g.grown hg (fun k hk e => h.ne k e.symm hk)
    ne := fun j hj hk => by
      rcases ho with e | ⟨i, e, hi⟩
      · exact h.ne j (e.symm.trans hj) hk
      · obtain rfl := Option.some.inj (e.symm.trans hj)
        have := (h.g.lt i hk).2
        omega }
theorem RefFill.pushG {w' : World} {gv' : Value} {k : Nat} (h : RefFill w D L O R base n H rest line other sv gv small great) (a : Apart D L O R base) (hq : Que w' 3 base gv' (ints great ++ [(k : Int)])) (hg : w.grownBy w' gv.ownBlock)
    (ho : gv'.ownBlock = gv.ownBlock ∨ ∃ k, gv'.ownBlock = some k ∧ w.heap.size ≤ k) : RefFill w' D L O R base n H rest line other sv gv' small (great ++ [k]) := by
  have off : ∀ b, b < base → some b ≠ gv.ownBlock := fun b hb e => que_off h.g hb e.symm
  exact {
    h := h.h.of_block (hg.block _ h.h.lt (off _ a.bd.1))
    l := h.l.of_block (hg.block _ h.l.lt (off _ a.bd.2.1))
    o := h.o.of_block (hg.block _ h.o.lt (off _ a.bd.2.2.1))
    r := h.r.of_block (hg.block _ h.r.lt (off _ a.bd.2.2.2))
    s := h.s.grown hg (fun k hk e => h.ne k hk e.symm)
    g := by rw [ints_append]; exact hq
    ne := fun j hj hk => by
      rcases ho with e | ⟨i, e, hi⟩
      · exact h.ne j hj (e.symm.trans hk)
      · obtain rfl := Option.some.inj (e.symm.trans hk)
        have := (h.s.lt i hj).2
        omega }
theorem RefFill.as {rest' line' : Nat → Int} {other' : Nat → Nat} (h : RefFill w D L O R base n H rest line other sv gv small great) (e1 : ∀ k, k < n → rest k = rest' k) (e2 : ∀ k, k < n → line k = line' k) (e3 : ∀ k, k < n → other k = other' k) :
    RefFill w D L O R base n H rest' line' other' sv gv small great where
  h := h.h
  l := h.l.congr (fun i hi => by rw [e2 i hi])
  o := h.o.congr (fun i hi => by rw [e3 i hi])
  r := h.r.congr (fun i hi => by rw [e1 i hi])
  s := h.s
  g := h.g
  ne := h.ne
end
/-- at first -/
theorem ref_start (w : World) (n : Nat) (t : TypeId) (x : World) (D L O : Nat) (hD : x.rowIs D 207 3 (ownv 0 L O n)) (hL : x.rowIs L 3 n (fun _ => .int .i64 0)) (hO : x.rowIs O 3 n (fun _ => .int .i64 0)) (dl : D ≠ L) (d' : D ≠ O) (lo : L ≠ O) (b : w.heap.size ≤ D) (ht : t = 3) :
    RefFill (x.alloc (.cells (noughts n) t)) D L O x.heap.size (x.heap.size + 1) n 0 (fun _ => 0) (fun _ => 0) (fun _ => 0) (.slice none 0 0) (.slice none 0 0) [] [] ∧ Apart D L O x.heap.size (x.heap.size + 1) ∧ w.heap.size ≤ D := by
  subst ht
  have h1 := hD.lt
  have h2 := hL.lt
  have h3 := hO.lt
  have r := World.rowIs_alloc x (noughts n) 3 (fun _ => .int .i64 0) (fun i hi => noughts_at n i (by rw [noughts_size] at hi; exact hi))
  rw [noughts_size] at r
  exact ⟨⟨hD.alloc _, hL.alloc _, (hO.alloc _).congr (fun _ _ => rfl), r, Que.nil _ _ _, Que.nil _ _ _, fun k hk => by simp [Value.ownBlock] at hk⟩, ⟨dl, d', by omega, lo, by omega, by omega, by omega, by omega, by omega, by omega⟩, b⟩
end Go.Proofs.YtjodnacodlhamacGreatDoor

namespace Go.Proofs.YtjodnacodlhamacGreatDoor
open Go.RowKit Go.Deep

theorem fineD (w : World) : Calls Tryz.prog 186 #[] w fun e w' => e = .returned (.agg #[.int .i64 0, .int .i64 (-1)]) ∧ w' = w.alloc (.cells #[.int .i64 0, .int .i64 (-1)] 104) := by
  go_enter Tryz.func186, Tryz.ntmps186
  go_wp2
  exact bodyPost_ret (v := .agg #[.int .i64 0, .int .i64 (-1)]) (by simp [results, Tryz.results186, go_sem]) rfl ⟨rfl, rfl⟩
theorem bareD (c : Int) (w : World) : Calls Tryz.prog 169 #[.int .i64 c] w fun e w' => e = .returned (.agg #[.int .i64 c, .int .i64 (-1)]) ∧ w' = w.alloc (.cells #[.int .i64 c, .int .i64 (-1)] 104) := by
  go_enter Tryz.func169, Tryz.ntmps169
  go_wp2
  exact bodyPost_ret (v := .agg #[.int .i64 c, .int .i64 (-1)]) (by simp [results, Tryz.results169, go_sem]) rfl ⟨rfl, rfl⟩

theorem below_two {w : World} {a b : Obj} : Below w.heap.size w ((w.alloc a).alloc b) := ((Below.refl _ _).alloc (Nat.le_refl _) _).alloc (by simp) _
theorem below_one {w : World} {a : Obj} : Below w.heap.size w (w.alloc a) := (Below.refl _ _).alloc (Nat.le_refl _) _

theorem wf_shape (a : Option Addr) (len cap : Nat) (w : World) (h : len = 0 ∨ 64 < len) (hm : len ≤ 9223372036854775807) :
    Calls Tryz.prog 170 #[.slice a len cap] w fun e w' => e = .returned (.agg #[.int .i64 3, .int .i64 (-1)]) ∧ Below w.heap.size w w' := by
  rcases h with h | h
  · subst h
    go_enter Tryz.func170, Tryz.ntmps170
    go_wp2_with (go_at_call 169; refine (bareD 3 _).mono ?_; rintro e w' ⟨rfl, rfl⟩)
    exact bodyPost_ret (v := .agg #[.int .i64 3, .int .i64 (-1)]) (by simp [results, Tryz.results170, go_sem]) rfl ⟨rfl, below_two⟩
  · have h' : ¬ len < 1 := by omega
    go_enter Tryz.func170, Tryz.ntmps170
    go_wp2_with (go_at_call 169; refine (bareD 3 _).mono ?_; rintro e w' ⟨rfl, rfl⟩)
    exact bodyPost_ret (v := .agg #[.int .i64 3, .int .i64 (-1)]) (by simp [results, Tryz.results170, go_sem]) rfl ⟨rfl, below_two⟩

set_option maxRecDepth 100000 in
set_option maxHeartbeats 1000000 in
theorem wf_bad (b off n cap k0 : Nat) (W : Nat → Int) (w : World) (hI : Ints w b off n W) (n1 : 1 ≤ n) (n64 : n ≤ 64) (hk0 : k0 < n) (hG : ∀ i, i < k0 → WOk (W i)) (hbad : ¬ WOk (W k0)) :
    Calls Tryz.prog 170 #[.slice (some ⟨b, off, none⟩) n cap] w fun e w' => e = .returned (.agg #[.int .i64 2, .int .i64 k0]) ∧ Below w.heap.size w w' := by
  have h0 : ¬ n < 1 := by omega
  have hI1 : Ints (w.alloc (.cells #[.int .i64 0, .int .i64 0] 104)) b off n W := fun i hi => by rw [World.cell?_alloc_lt _ _ _ (cell_lt (hI i hi))]; exact hI i hi
  go_enter Tryz.func170, Tryz.ntmps170
  go_wp2
  go_loop [3, 4] (fun s i => ∃ k : Nat, k ≤ k0 ∧ i = .int .i64 k ∧ s = .int .i64 (sumTo W k)) (fun _ i => n - (intOf i).toNat)
  case atStart => exact ⟨0, Nat.zero_le _, rfl, rfl⟩
  case round =>
    obtain ⟨k, hk, rfl, rfl⟩ := hrel
    by_cases hlt : k < k0
    · have c0 := hI1 k (by omega)
      obtain ⟨g0, g1⟩ := hG k hlt
      have hs := sumTo_bd k (fun j hj => hG j (by omega))
      have hkn : k < n := by omega
      have he : Hid (sumTo W k + W k = sumTo W (k + 1)) := rfl
      clear hG hbad hI hI1 h0
      go_wp2
      go_round
      case rel => exact ⟨k + 1, by omega, by go_num, by rw [he.out]⟩
      case measure => simp [intOf]; omega
    · obtain rfl : k = k0 := by omega
      have c0 := hI1 k hk0
      clear hI hG h0 hI1
      unfold WOk at hbad
      by_cases g0 : 0 ≤ W k
      · have g1 : 1073741824 < W k := by omega
        have g0' : ¬ W k < 0 := by omega
        clear hbad
        go_wp2
        exact bodyPost_ret (v := .agg #[.int .i64 2, .int .i64 k]) (by simp [results, Tryz.results170, go_sem]) rfl ⟨rfl, below_one⟩
      · have g0' : W k < 0 := by omega
        clear hbad
        go_wp2
        exact bodyPost_ret (v := .agg #[.int .i64 2, .int .i64 k]) (by simp [results, Tryz.results170, go_sem]) rfl ⟨rfl, below_one⟩

set_option maxRecDepth 100000 in
set_option maxHeartbeats 1000000 in
theorem wf_fine (b off n cap : Nat) (W : Nat → Int) (w : World) (hI : Ints w b off n W) (hW : Weights n W) (z : Int) (hz : (z = 4 ∧ sumTo W n = 0) ∨ (z = 0 ∧ sumTo W n ≠ 0)) :
    Calls Tryz.prog 170 #[.slice (some ⟨b, off, none⟩) n cap] w fun e w' => e = .returned (.agg #[.int .i64 z, .int .i64 (-1)]) ∧ Below w.heap.size w w' := by
  have n1 := hW.n1
  have n64 := hW.n64
  have h0 : ¬ n < 1 := by omega
  have hI1 : Ints (w.alloc (.cells #[.int .i64 0, .int .i64 0] 104)) b off n W := fun i hi => by rw [World.cell?_alloc_lt _ _ _ (cell_lt (hI i hi))]; exact hI i hi
  go_enter Tryz.func170, Tryz.ntmps170
  go_wp2
  go_loop [3, 4] (fun s i => ∃ k : Nat, k ≤ n ∧ i = .int .i64 k ∧ s = .int .i64 (sumTo W k)) (fun _ i => n - (intOf i).toNat)
  case atStart => exact ⟨0, Nat.zero_le _, rfl, rfl⟩
  case round =>
    obtain ⟨k, hk, rfl, rfl⟩ := hrel
    by_cases hlt : k < n
    · have c0 := hI1 k (by omega)
      obtain ⟨g0, g1⟩ := hW.bd k hlt
      have hs := sumTo_bd k (fun j hj => hW.bd j (by omega))
      have he : Hid (sumTo W k + W k = sumTo W (k + 1)) := rfl
      clear hW hI hI1 h0 hz
      go_wp2
      go_round
      case rel => exact ⟨k + 1, by omega, by go_num, by rw [he.out]⟩
      case measure => simp [intOf]; omega
    · obtain rfl : k = n := by omega
      clear hI hI1 hW h0
      rcases hz with ⟨rfl, hz⟩ | ⟨rfl, hz⟩
      · have hz' : (sumTo W k == 0) = true := by simp; exact hz
        clear hz
        go_wp2_with (go_at_call 169; refine (bareD 4 _).mono ?_; rintro e w' ⟨rfl, rfl⟩)
        exact bodyPost_ret (v := .agg #[.int .i64 4, .int .i64 (-1)]) (by simp [results, Tryz.results170, go_sem]) rfl ⟨rfl, below_two⟩
      · have hz' : (sumTo W k == 0) = false := by simp; exact hz
        clear hz
        go_wp2_with (go_at_call 186; refine (fineD _).mono ?_; rintro e w' ⟨rfl, rfl⟩)
        exact bodyPost_ret (v := .agg #[.int .i64 0, .int .i64 (-1)]) (by simp [results, Tryz.results170, go_sem]) rfl ⟨rfl, below_two⟩

/-! a draw that stands -/
structure RefDrawAt (w : World) (D L O n : Nat) (H : Int) (d : DS) : Prop where
  c0 : w.cell? ⟨D, 0, none⟩ = some (.int .i64 H)
  c1 : w.cell? ⟨D, 1, none⟩ = some (.slice (some ⟨L, 0, none⟩) n n)
  c2 : w.cell? ⟨D, 2, none⟩ = some (.slice (some ⟨O, 0, none⟩) n n)
  l : ∀ k, k < n → w.cell? ⟨L, k, none⟩ = some (.int .i64 (d.line k))
  o : ∀ k, k < n → w.cell? ⟨O, k, none⟩ = some (.int .i64 (d.other k))
theorem RefDrawAt.below {w w' : World} {D L O n : Nat} {H : Int} {d : DS} (h : RefDrawAt w D L O n H d) (hB : Below w.heap.size w w') : RefDrawAt w' D L O n H d :=
  ⟨draw_old hB h.c0, draw_old hB h.c1, draw_old hB h.c2, fun k hk => draw_old hB (h.l k hk), fun k hk => draw_old hB (h.o k hk)⟩
theorem ref_pick (D L O n k : Nat) (x H : Int) (d : DS) (w : World) (h : RefDrawAt w D L O n H d) (hk : k < n) :
    Calls Tryz.prog 174 #[.pointer (some ⟨D, 0, none⟩), .int .i64 k, .int .i64 x] w fun e w' => e = .returned (.int .i64 (d.pick k x)) ∧ w' = w := by
  have c1 := h.c1
  have c2 := h.c2
  have cl := h.l k hk
  have co := h.o k hk
  by_cases hl : x < d.line k
  · have e : Hid ((k : Int) = d.pick k x) := by unfold Hid DS.pick; rw [if_pos hl]
    go_enter Tryz.func174, Tryz.ntmps174
    go_wp2
    go_ret
    exact ⟨ret_int e.out, rfl⟩
  · have e : Hid ((d.other k : Int) = d.pick k x) := by unfold Hid DS.pick; rw [if_neg hl]
    go_enter Tryz.func174, Tryz.ntmps174
    go_wp2
    go_ret
    exact ⟨ret_int e.out, rfl⟩
end Go.Proofs.YtjodnacodlhamacGreatDoor

namespace Go.Proofs.YtjodnacodlhamacGreatDoor
open Go.RowKit Go.Deep

/-- the two rows and the draw's own cells, whichever row was made first -/
theorem ref_rows (y : World) (n L O : Nat) (h : (L = y.heap.size ∧ O = y.heap.size + 1) ∨ (L = y.heap.size + 1 ∧ O = y.heap.size)) :
    (((y.alloc (.cells (noughts n) 3)).alloc (.cells (noughts n) 3)).alloc (.cells #[.int .i64 0, .slice (some ⟨L, 0, none⟩) n n, .slice (some ⟨O, 0, none⟩) n n] 207)).rowIs (y.heap.size + 2) 207 3 (ownv 0 L O n) ∧
    (((y.alloc (.cells (noughts n) 3)).alloc (.cells (noughts n) 3)).alloc (.cells #[.int .i64 0, .slice (some ⟨L, 0, none⟩) n n, .slice (some ⟨O, 0, none⟩) n n] 207)).rowIs L 3 n (fun _ => .int .i64 0) ∧
    (((y.alloc (.cells (noughts n) 3)).alloc (.cells (noughts n) 3)).alloc (.cells #[.int .i64 0, .slice (some ⟨L, 0, none⟩) n n, .slice (some ⟨O, 0, none⟩) n n] 207)).rowIs O 3 n (fun _ => .int .i64 0) := by
  have s1 : (y.alloc (.cells (noughts n) 3)).heap.size = y.heap.size + 1 := by simp
  have s2 : ((y.alloc (.cells (noughts n) 3)).alloc (.cells (noughts n) 3)).heap.size = y.heap.size + 2 := by simp
  have r1 := World.rowIs_alloc y (noughts n) 3 (fun _ => .int .i64 0) (fun i hi => noughts_at n i (by rw [noughts_size] at hi; exact hi))
  have r2 := World.rowIs_alloc (y.alloc (.cells (noughts n) 3)) (noughts n) 3 (fun _ => .int .i64 0) (fun i hi => noughts_at n i (by rw [noughts_size] at hi; exact hi))
  rw [noughts_size] at r1 r2
  rw [s1] at r2
  have r3 := World.rowIs_alloc ((y.alloc (.cells (noughts n) 3)).alloc (.cells (noughts n) 3)) #[.int .i64 0, .slice (some ⟨L, 0, none⟩) n n, .slice (some ⟨O, 0, none⟩) n n] 207 (ownv 0 L O n) (fun i hi => by
    have : i = 0 ∨ i = 1 ∨ i = 2 := by simp at hi; omega
    rcases this with rfl | rfl | rfl <;> rfl)
  rw [s2] at r3
  refine ⟨r3, ?_⟩
  rcases h with ⟨rfl, rfl⟩ | ⟨rfl, rfl⟩
  · exact ⟨(r1.alloc _).alloc _, r2.alloc _⟩
  · exact ⟨r2.alloc _, (r1.alloc _).alloc _⟩
theorem below_three {w : World} {a b c : Obj} : Below w.heap.size w (((w.alloc a).alloc b).alloc c) := (((Below.refl _ _).alloc (Nat.le_refl _) _).alloc (by simp) _).alloc (by simp; omega) _

set_option maxRecDepth 100000 in
set_option maxHeartbeats 8000000 in
theorem ref_newDraw (b off n cap : Nat) (W : Nat → Int) (w : World) (hI : Ints w b off n W) (hb : b < w.heap.size) (hW : Weights n W) :
    Calls Tryz.prog 171 #[.slice (some ⟨b, off, none⟩) n cap] w fun e w' => ∃ D L O, e = .returned (.pointer (some ⟨D, 0, none⟩)) ∧ w.heap.size ≤ D ∧ RefDrawAt w' D L O n (sumTo W n) (dend n W) ∧ Below w.heap.size w w' := by
  obtain ⟨i0, hi, hz0, hz1, hz2⟩ := info_parts Tryz.infoInts
  have n1 := hW.n1
  have n64 := hW.n64
  have m1 := make_ints n (by omega)
  have hS := hW.sum
  have I0 := hide (dinv_start n W (fun k hk => (hW.bd k hk).1))
  have hend : Hid (dend n W = (dstart n (sumTo W n) W).go (sumTo W n) (dstart n (sumTo W n) W).left) := rfl
  obtain ⟨H, hH⟩ : ∃ H, sumTo W n = H := ⟨_, rfl⟩
  rw [hH] at hS I0 hend
  rw [hH]
  have HH := hide hH
  clear hH
  go_enter Tryz.func171, Tryz.ntmps171
  go_upto_region 2 with fail
  go_cut [4] from 17 to 22 (fun dv x => ∃ D L O, dv = .pointer (some ⟨D, 0, none⟩) ∧ x.rowIs D 207 3 (ownv 0 L O n) ∧ x.rowIs L 3 n (fun _ => .int .i64 0) ∧ x.rowIs O 3 n (fun _ => .int .i64 0) ∧ D ≠ L ∧ D ≠ O ∧ L ≠ O ∧ w.heap.size ≤ D ∧ w.heap.size ≤ L ∧ w.heap.size ≤ O ∧ Below w.heap.size w x)
  case first =>
    have q1 := ref_rows w n w.heap.size (w.heap.size + 1) (.inl ⟨rfl, rfl⟩)
    have q2 := ref_rows w n (w.heap.size + 1) w.heap.size (.inr ⟨rfl, rfl⟩)
    go_region
    all_goals (go_wp2_with fail; go_meet; first | exact ⟨w.heap.size + 2, w.heap.size, w.heap.size + 1, rfl, q1.1, q1.2.1, q1.2.2, by omega, by omega, by omega, by omega, by omega, by omega, below_three.drew⟩ | exact ⟨w.heap.size + 2, w.heap.size + 1, w.heap.size, rfl, q2.1, q2.2.1, q2.2.2, by omega, by omega, by omega, by omega, by omega, by omega, below_three.drew⟩)
  case rest =>
  obtain ⟨D, L, O, rfl, hD, hL, hO, dl, d', lo, bD, bL, bO, hBx⟩ := hcut
  obtain ⟨F0, Ap, _⟩ := ref_start w n 3 wc D L O hD hL hO dl d' lo bD rfl
  have hB0 := hBx.alloc hBx.size (.cells (noughts n) 3)
  have bR := hBx.size
  have dr := Ap.dr
  have lr := Ap.lr
  have or' := Ap.or'
  have bDn : ¬ D = b := by omega
  have bLn : ¬ L = b := by omega
  have bOn : ¬ O = b := by omega
  have bRn : ¬ wc.heap.size = b := by omega
  have hT : ∀ k, k < n → 0 ≤ W k * n ∧ W k * n ≤ 68719476736 := fun k hk => hW.times k hk
  have hbd := hW.bd
  clear hD hL hO hW hBx
  go_wp2_with fail
  generalize wc.heap.size = R at *
  generalize wc.alloc (.cells (noughts n) 3) = wd at *
  go_loopw [6] (fun i wr => ∃ k : Nat, k ≤ n ∧ i = .int .i64 k ∧ RefFill wr D L O R (R + 1) n (sumTo W k) (restTo W n k) (fun _ => 0) (otherTo k) (.slice none 0 0) (.slice none 0 0) [] [] ∧ Below w.heap.size w wr) (fun i _ => n - (intOf i).toNat)
  case atStart => exact ⟨0, Nat.zero_le _, rfl, F0.as (fun _ _ => rfl) (fun _ _ => rfl) (fun _ _ => rfl), hB0⟩
  case round =>
    clear F0 hB0
    obtain ⟨k, hk, rfl, F, hB⟩ := hrel
    by_cases hlt : k < n
    · have cw := hI.below hB hb k hlt
      have cH := F.cH
      have fH := F.h.frozen 0
      have hs := sumTo_bd k (fun j hj => hbd j (by omega))
      have hbk := hbd k hlt
      have ht := hT k hlt
      have F1 := (F.setH Ap (sumTo W (k + 1))).drew
      have hB1 := (hB.setCell (p := ⟨D, 0, none⟩) bD (.int .i64 (sumTo W (k + 1)))).drew
      have he : Hid (sumTo W k + W k = sumTo W (k + 1)) := rfl
      go_wp2_with fail
      go_region
      rw [he.out]
      clear F hB cw cH fH
      generalize (wr.setCell ⟨D, 0, none⟩ (.int .i64 (sumTo W (k + 1)))).drew = x1 at *
      have cw := hI.below hB1 hb k hlt
      have cR := F1.r.cell hlt
      have fR := F1.r.frozen k
      have cO := F1.cO
      have cOk := F1.o.cell hlt
      have fOk := F1.o.frozen k
      go_wp2_with fail
      go_roundw
      case rel => exact ⟨k + 1, by omega, by go_num, ((F1.setR Ap k (W k * n)).setO Ap k k).as (fun j _ => to_next (fun j => W j * n) 0 k j) (fun _ _ => rfl) (fun j _ => to_next (fun j => j) 0 k j), (hB1.setCell (p := ⟨R, k, none⟩) bR _).setCell (p := ⟨O, k, none⟩) bO _⟩
      case measure => simp [intOf]; omega
    · obtain rfl : n = k := by omega
      rw [HH.out] at F
      clear hlt hk m1
      have F1 := F.as (line' := lineTo H 0) (fun _ _ => rfl) (fun _ _ => rfl) (fun _ _ => rfl)
      clear F
      go_wp2_with fail
      go_loopw [7] (fun i w2 => ∃ k : Nat, k ≤ n ∧ i = .int .i64 k ∧ RefFill w2 D L O R (R + 1) n H (restTo W n n) (lineTo H k) (otherTo n) (.slice none 0 0) (.slice none 0 0) [] [] ∧ Below w.heap.size w w2) (fun i _ => n - (intOf i).toNat)
      case atStart => exact ⟨0, Nat.zero_le _, rfl, F1, hB⟩
      case round =>
        clear F1 hB
        obtain ⟨k, hk, rfl, F, hB⟩ := hrel
        by_cases hlt : k < n
        · have cH := F.cH
          have cL := F.cL
          have cLk := F.l.cell hlt
          have fLk := F.l.frozen k
          have F1 := (F.setL Ap k H).drew
          have hB1 := (hB.setCell (p := ⟨L, k, none⟩) bL (.int .i64 H)).drew
          go_wp2_with fail
          go_region
          go_wp2_with fail
          go_roundw
          case rel => exact ⟨k + 1, by omega, by go_num, F1.as (fun _ _ => rfl) (fun j _ => to_next (fun _ => H) 0 k j) (fun _ _ => rfl), hB1⟩
          case measure => simp [intOf]; omega
        · obtain rfl : n = k := by omega
          have F1 := F.as (rest' := fun j => W j * n) (line' := fun _ => H) (other' := fun j => j) (fun j hj => by simp [restTo, hj]) (fun j hj => by simp [lineTo, hj]) (fun j hj => by simp [otherTo, hj])
          clear F hlt hk
          go_wp2_with fail
          go_loopw [8, 9, 10] (fun sv gv i w2 => ∃ k : Nat, k ≤ n ∧ i = .int .i64 k ∧ RefFill w2 D L O R (R + 1) n H (fun j => W j * n) (fun _ => H) (fun j => j) sv gv (smallTo H (fun k => W k * n) k) (greatTo H (fun k => W k * n) k) ∧ Below w.heap.size w w2) (fun _ _ i _ => n - (intOf i).toNat)
          case atStart => exact ⟨0, Nat.zero_le _, rfl, F1, hB⟩
          case round =>
            clear F1 hB
            obtain ⟨k, hk, rfl, F, hB⟩ := hrel
            by_cases hlt : k < n
            · have cH := F.cH
              have cR := F.r.cell hlt
              have hlen := rows_len H (fun k => W k * n) k
              by_cases hl : W k * n < H
              · have hd : decide (W k * n < H) = true := by simp [hl]
                go_wp2_with fail
                go_quiet (fail)
                have F1 := F.drewN nq
                have hB1 := below_drewN hB nq
                clear F hB cH cR
                generalize wr.drewN nq = x1 at *
                go_wp2_with (at_builtin; refine wpList_que _ rfl (.tmp 87) (.tmp 89) 31 rfl (R + 1) 3 i0 Tryz.underlying31 hi hz0 hz1 hz2 u8 _ rfl (F1.s.alloc _) ⟨x1.heap.size, 0, none⟩ 1 k rfl (cell_new _ _ _ _ _ _ rfl rfl) (by omega) (by have := F1.r.lt; simp; omega) ?_; intro sv' w2 hq hg ho)
                have F3 := (F1.alloc _).pushS Ap hq hg ho
                have es : smallTo H (fun k => W k * n) (k + 1) = smallTo H (fun k => W k * n) k ++ [k] := if_pos hl
                have eg : greatTo H (fun k => W k * n) (k + 1) = greatTo H (fun k => W k * n) k := if_pos hl
                have hs2 := F1.r.lt
                go_roundw
                case rel => exact ⟨k + 1, by omega, by go_num, by rw [es, eg]; exact F3, (hB1.alloc hB1.size _).grown hg (by simp; omega) (fun j hj => by have := (F1.s.lt j hj).1; omega)⟩
                case measure => simp [intOf]; omega
              · have hd : decide (W k * n < H) = false := by simp; omega
                go_wp2_with fail
                go_quiet (fail)
                have F1 := F.drewN nq
                have hB1 := below_drewN hB nq
                clear F hB cH cR
                generalize wr.drewN nq = x1 at *
                go_wp2_with (at_builtin; refine wpList_que _ rfl (.tmp 91) (.tmp 93) 31 rfl (R + 1) 3 i0 Tryz.underlying31 hi hz0 hz1 hz2 u9 _ rfl (F1.g.alloc _) ⟨x1.heap.size, 0, none⟩ 1 k rfl (cell_new _ _ _ _ _ _ rfl rfl) (by omega) (by have := F1.r.lt; simp; omega) ?_; intro sv' w2 hq hg ho)
                have F3 := (F1.alloc _).pushG Ap hq hg ho
                have es : smallTo H (fun k => W k * n) (k + 1) = smallTo H (fun k => W k * n) k := if_neg (show ¬ W k * n < H by omega)
                have eg : greatTo H (fun k => W k * n) (k + 1) = greatTo H (fun k => W k * n) k ++ [k] := if_neg (show ¬ W k * n < H by omega)
                have hs2 := F1.r.lt
                go_roundw
                case rel => exact ⟨k + 1, by omega, by go_num, by rw [es, eg]; exact F3, (hB1.alloc hB1.size _).grown hg (by simp; omega) (fun j hj => by have := (F1.g.lt j hj).1; omega)⟩
                case measure => simp [intOf]; omega
            · obtain rfl : n = k := by omega
              have G0 : Hid ((dstart n H W).go H (dstart n H W).left = dend n W ∧ 0 + (dstart n H W).left = n) := ⟨hend.out.symm, by unfold DS.left; rw [List.length_append, Nat.zero_add]; exact (rows_sum H (fun k_1 => W k_1 * n) (fun _ => 0) n).2⟩
              have I1 : DInv n H W (dstart n H W) := I0.out
              have F1 : RefFill wr D L O R (R + 1) n H (dstart n H W).rest (dstart n H W).line (dstart n H W).other u8 u9 (smallTo H (fun j => W j * n) n) (greatTo H (fun j => W j * n) n) := F
              have hd1 : Hid ((smallTo H (fun j => W j * n) n).drop 0 = (dstart n H W).small ∧ (greatTo H (fun j => W j * n) n).drop 0 = (dstart n H W).great) := ⟨rfl, rfl⟩
              have hgn : (greatTo H (fun j => W j * n) n).length ≤ n := by have := (rows_len H (fun j => W j * n) n).2; rw [ints_len] at this; exact this
              clear F hlt hk I0 hend
              generalize greatTo H (fun j => W j * n) n = GG at *
              go_wp2_with fail
              go_loopw [8, 11, 12] (fun sv ia ifi w2 => ∃ (d : DS) (SS : List Nat) (at' fi : Nat), ia = .int .i64 at' ∧ ifi = .int .i64 fi ∧ RefFill w2 D L O R (R + 1) n H d.rest d.line d.other sv u9 SS GG ∧ Hid (SS.drop at' = d.small ∧ GG.drop fi = d.great) ∧ at' ≤ SS.length ∧ fi ≤ GG.length ∧ DInv n H W d ∧ Hid (d.go H d.left = dend n W ∧ at' + d.left = n) ∧ Below w.heap.size w w2) (fun _ ia _ _ => n - (intOf ia).toNat)
              case atStart => exact ⟨_, _, 0, 0, rfl, rfl, F1, hd1, Nat.zero_le _, Nat.zero_le _, I1, G0, hB⟩
              case round =>
                clear F1 hd1 I1 G0 hB
                obtain ⟨d, SS, ai, fi, rfl, rfl, F, hdr, ha, hf, I, hgo, hB⟩ := hrel
                match es : d.small, eg : d.great with
                | [], _ =>
                  have E : Hid (d = dend n W) := by have := hgo.out.1; rw [DS.go_end H _ d (.inl es)] at this; exact this
                  obtain ⟨ao, sc, hv, _, _⟩ := F.s.shape
                  rw [ints_len] at hv
                  have hal : ¬ ai < SS.length := by
                    have h1 := hdr.out.1
                    rw [es] at h1
                    have := List.drop_eq_nil_iff.1 h1
                    omega
                  generalize SS.length = sl at *
                  subst hv
                  go_wp2_with fail
                  go_ret
                  exact ⟨_, _, _, rfl, bD, ⟨F.cH, F.cL, F.cO, fun j hj => by rw [← E.out]; exact F.l.cell hj, fun j hj => by rw [← E.out]; exact F.o.cell hj⟩, hB⟩
                | a :: rs, [] =>
                  have E : Hid (d = dend n W) := by have := hgo.out.1; rw [DS.go_end H _ d (.inr eg)] at this; exact this
                  obtain ⟨ao, sc, hv, _, _⟩ := F.s.shape
                  rw [ints_len] at hv
                  obtain ⟨bo, gc, hv2, _, _⟩ := F.g.shape
                  rw [ints_len] at hv2
                  have hal : ai < SS.length := by
                    have h1 := hdr.out.1
                    rw [es] at h1
                    have := congrArg List.length h1
                    rw [List.length_drop, List.length_cons] at this
                    omega
                  have hfl : ¬ fi < GG.length := by
                    have h1 := hdr.out.2
                    rw [eg] at h1
                    have := List.drop_eq_nil_iff.1 h1
                    omega
                  generalize SS.length = sl at *
                  generalize GG.length = gl at *
                  subst hv hv2
                  go_wp2_with fail
                  go_ret
                  exact ⟨_, _, _, rfl, bD, ⟨F.cH, F.cL, F.cO, fun j hj => by rw [← E.out]; exact F.l.cell hj, fun j hj => by rw [← E.out]; exact F.o.cell hj⟩, hB⟩
                | s :: ss, g :: gs =>
                  have hS' : 0 ≤ d.rest s ∧ d.rest s < H := I.sm s (by rw [es]; simp)
                  have hG' : H ≤ d.rest g := I.gr g (by rw [eg]; simp)
                  have sn : s < n := I.lt s (by rw [es]; simp)
                  have gn : g < n := I.lt g (by rw [eg]; simp)
                  have hT' : d.rest g ≤ 68719476736 := Int.le_trans (I.rest_le hS.1 g (by rw [eg]; simp)) (hT g gn).2
                  have I' := I.next es eg
                  have hl' := next_left H d s g ss gs es eg
                  have hgo' : Hid ((d.next H s g ss gs).go H (d.next H s g ss gs).left = dend n W ∧ ai + 1 + (d.next H s g ss gs).left = n) := by
                    have := hgo.out.1
                    rw [← hl', DS.go_step H _ d es eg] at this
                    exact ⟨this, by have := hgo.out.2; omega⟩
                  have e1 := hdr.out.1
                  have e2 := hdr.out.2
                  rw [es] at e1
                  rw [eg] at e2
                  have l1 := congrArg List.length e1
                  have l2 := congrArg List.length e2
                  rw [List.length_drop, List.length_cons] at l1 l2
                  have hal : ai < SS.length := by omega
                  have hfl : fi < GG.length := by omega
                  have x1 : SS[ai]? = some s := by have := congrArg List.head? e1; rw [List.head?_drop] at this; exact this
                  have x2 : GG[fi]? = some g := by have := congrArg List.head? e2; rw [List.head?_drop] at this; exact this
                  have y1 : SS.drop (ai + 1) = ss := by have := congrArg List.tail e1; rw [List.tail_drop] at this; exact this
                  have y2 : GG.drop (fi + 1) = gs := by have := congrArg List.tail e2; rw [List.tail_drop] at this; exact this
                  have hleft : d.left = ss.length + gs.length + 2 := by unfold DS.left; rw [es, eg]; simp; omega
                  have hln : Hid ((ints SS).length ≤ 1000000) := by
                    have := hgo.out.2
                    unfold Hid
                    rw [ints_len]; omega
                  have ain : ai < n := by have := hgo.out.2; omega
                  have ND : Hid ((d.rest g - (H - d.rest s) < H → Hid ((SS ++ [g]).drop (ai + 1) = (d.next H s g ss gs).small ∧ GG.drop (fi + 1) = (d.next H s g ss gs).great)) ∧ (¬ d.rest g - (H - d.rest s) < H → Hid (SS.drop (ai + 1) = (d.next H s g ss gs).small ∧ GG.drop fi = (d.next H s g ss gs).great))) := by
                    refine ⟨fun h => ?_, fun h => ?_⟩
                    · have a1 : (d.next H s g ss gs).small = ss ++ [g] := if_pos h
                      have a2 : (d.next H s g ss gs).great = gs := if_pos h
                      exact ⟨by rw [a1, List.drop_append_of_le_length (by omega), y1], by rw [a2, y2]⟩
                    · have a1 : (d.next H s g ss gs).small = ss := if_neg h
                      have a2 : (d.next H s g ss gs).great = g :: gs := if_neg h
                      exact ⟨by rw [a1, y1], by rw [a2, e2]⟩
                  obtain ⟨sb, so, sc, hv, _, _, _, _, hcs⟩ := F.s.at (by intro h; rw [← List.length_eq_zero_iff, ints_len] at h; omega)
                  obtain ⟨gb, go, gc, hv2, _, _, _, _, hcg⟩ := F.g.at (by intro h; rw [← List.length_eq_zero_iff, ints_len] at h; omega)
                  have cs := hcs ai s (by unfold ints; rw [List.getElem?_map, x1]; rfl)
                  have cg := hcg fi g (by unfold ints; rw [List.getElem?_map, x2]; rfl)
                  rw [ints_len] at hv hv2
                  have cL := F.cL
                  have cRs := F.r.cell sn
                  have cLs := F.l.cell sn
                  have fL := F.l.frozen s
                  clear e1 e2 l1 l2 x1 x2 y1 y2 hcs hcg hleft hl' es eg hdr hgo
                  generalize hsl : SS.length = sl at *
                  generalize GG.length = gl at *
                  have HSL := hide hsl
                  clear hsl
                  subst hv hv2
                  by_cases hl : d.rest g - (H - d.rest s) < H
                  · go_wp2_with fail
                    go_region
                    have F1 := (F.setL Ap s (d.rest s)).drew
                    have hB1 := (hB.setCell (p := ⟨L, s, none⟩) bL (.int .i64 (d.rest s))).drew
                    clear F hB cL cRs fL cs cg
                    generalize (wr.setCell ⟨L, s, none⟩ (.int .i64 (d.rest s))).drew = x1 at *
                    have cO := F1.cO
                    have cOs := F1.o.cell sn
                    have fO := F1.o.frozen s
                    go_wp2_with fail
                    have F2 := F1.setO Ap s g
                    have hB2 := hB1.setCell (p := ⟨O, s, none⟩) bO (.int .i64 g)
                    clear F1 hB1 cO cOs fO
                    generalize x1.setCell ⟨O, s, none⟩ (.int .i64 g) = x2 at *
                    have cH := F2.cH
                    have cRs := F2.r.cell sn
                    have cRg := F2.r.cell gn
                    have fRg := F2.r.frozen g
                    go_region
                    have F3 := (F2.setR Ap g (d.rest g - (H - d.rest s))).drew
                    have hB3 := (hB2.setCell (p := ⟨R, g, none⟩) bR (.int .i64 (d.rest g - (H - d.rest s)))).drew
                    clear F2 hB2 cH cRs cRg fRg
                    generalize (x2.setCell ⟨R, g, none⟩ (.int .i64 (d.rest g - (H - d.rest s)))).drew = x3 at *
                    have cH := F3.cH
                    have cRg := F3.r.cell gn
                    simp only [upd_same] at cRg
                    go_wp2_with fail
                    go_quiet (fail)
                    have F4 := F3.drewN nq
                    have hB4 := below_drewN hB3 nq
                    clear F3 hB3 cH cRg
                    generalize x3.drewN nq = x4 at *
                    go_wp2_with (at_builtin; refine wpList_que _ rfl (.tmp 160) (.tmp 162) 31 rfl (R + 1) 3 i0 Tryz.underlying31 hi hz0 hz1 hz2 _ _ rfl (F4.s.alloc _) ⟨x4.heap.size, 0, none⟩ 1 g rfl (cell_new _ _ _ _ _ _ rfl rfl) hln.out (by have := F4.r.lt; simp; omega) ?_; intro sv' w2 hq hg ho)
                    have F5 := (F4.alloc _).pushS Ap hq hg ho
                    have hs2 := F4.r.lt
                    go_roundw
                    case rel => exact ⟨d.next H s g ss gs, SS ++ [g], ai + 1, fi + 1, by go_num, by go_num, F5, ND.out.1 hl, by rw [List.length_append, HSL.out]; simp; omega, by omega, I', hgo', (hB4.alloc hB4.size _).grown hg (by simp; omega) (fun j hj => by have := (F4.s.lt j hj).1; omega)⟩
                    case measure => simp [intOf]; omega
                  · go_wp2_with fail
                    go_region
                    have F1 := (F.setL Ap s (d.rest s)).drew
                    have hB1 := (hB.setCell (p := ⟨L, s, none⟩) bL (.int .i64 (d.rest s))).drew
                    clear F hB cL cRs fL cs cg
                    generalize (wr.setCell ⟨L, s, none⟩ (.int .i64 (d.rest s))).drew = x1 at *
                    have cO := F1.cO
                    have cOs := F1.o.cell sn
                    have fO := F1.o.frozen s
                    go_wp2_with fail
                    have F2 := F1.setO Ap s g
                    have hB2 := hB1.setCell (p := ⟨O, s, none⟩) bO (.int .i64 g)
                    clear F1 hB1 cO cOs fO
                    generalize x1.setCell ⟨O, s, none⟩ (.int .i64 g) = x2 at *
                    have cH := F2.cH
                    have cRs := F2.r.cell sn
                    have cRg := F2.r.cell gn
                    have fRg := F2.r.frozen g
                    go_region
                    have F3 := (F2.setR Ap g (d.rest g - (H - d.rest s))).drew
                    have hB3 := (hB2.setCell (p := ⟨R, g, none⟩) bR (.int .i64 (d.rest g - (H - d.rest s)))).drew
                    clear F2 hB2 cH cRs cRg fRg
                    generalize (x2.setCell ⟨R, g, none⟩ (.int .i64 (d.rest g - (H - d.rest s)))).drew = x3 at *
                    have cH := F3.cH
                    have cRg := F3.r.cell gn
                    simp only [upd_same] at cRg
                    go_wp2_with fail
                    go_quiet (fail)
                    have F4 := F3.drewN nq
                    have hB4 := below_drewN hB3 nq
                    clear F3 hB3 cH cRg
                    generalize x3.drewN nq = x4 at *
                    go_wp2_with fail
                    go_roundw
                    case rel => exact ⟨d.next H s g ss gs, SS, ai + 1, fi, by go_num, rfl, F4, ND.out.2 (by omega), by rw [HSL.out]; omega, hf, I', hgo', hB4⟩
                    case measure => simp [intOf]; omega
end Go.Proofs.YtjodnacodlhamacGreatDoor

namespace Go.Proofs.YtjodnacodlhamacGreatDoor
open Go.RowKit

set_option maxRecDepth 100000 in
theorem ref_next (b s : Nat) (w : World) (h : LotAt w b s) :
    Calls Tryz.prog 187 #[.pointer (some ⟨b, 0, none⟩)] w fun e w' => e = .returned (.int .u64 (nextL s)) ∧ w' = w.setCell ⟨b, 0, none⟩ (.int .u64 (nextS s)) := by
  have c := h.c
  have f := h.f
  go_enter Tryz.func187, Tryz.ntmps187
  go_wp2
  go_ret
  have d1 : ∀ a : Nat, a < W64 → IntKind.u64.wrap ((a : Int).tdiv 1073741824) = (a : Int) / 1073741824 := fun a ha => div_word a 1073741824 ha
  have d2 : ∀ a : Nat, a < W64 → IntKind.u64.wrap ((a : Int).tdiv 134217728) = (a : Int) / 134217728 := fun a ha => div_word a 134217728 ha
  have d3 : ∀ a : Nat, a < W64 → IntKind.u64.wrap ((a : Int).tdiv 2147483648) = (a : Int) / 2147483648 := fun a ha => div_word a 2147483648 ha
  rw [next_state s, d1 _ (nextS_lt s), word_1 _ (nextS_lt s), d2 _ (mod64 _), word_2 _ (mod64 _), d3 _ (mod64 _), word_3 _ (mod64 _)]
  exact ⟨rfl, rfl⟩

set_option maxRecDepth 100000 in
set_option maxHeartbeats 1000000 in
theorem ref_below (b s n : Nat) (w : World) (h : LotAt w b s) (n1 : 1 ≤ n) (nM : n ≤ 1125899906842624) :
    Calls Tryz.prog 173 #[.pointer (some ⟨b, 0, none⟩), .int .i64 n] w fun e w' => ∃ v t, e = .returned (.int .i64 (v : Nat)) ∧ Bel n s v t ∧ LotAt w' b t ∧ Kept [b] w w' := by
  go_enter Tryz.func173, Tryz.ntmps173
  go_wp2
  go_loopw [4] (fun r wr => r = .int .i64 0 ∧ ∃ q, LotAt wr b q ∧ Kept [b] w wr ∧ Hid (∀ v t, Bel n q v t → Bel n s v t)) (fun _ wr => toZero (stateOf wr b))
  case atStart => exact ⟨rfl, s, h, Kept.refl _ _, fun _ _ h => h⟩
  case round =>
    obtain ⟨rfl, q, hq, hK, hR⟩ := hrel
    clear h
    have N := ref_next b q wr hq
    have hq' := hq.set (nextS q) (nextS_lt q)
    have hK' := hK.setCell (p := ⟨b, 0, none⟩) (by simp) (.int .u64 (nextS q))
    have hl := nextL_lt q
    obtain ⟨X, Z, R, N', hX, hN, hZ, hR', z0, z1, r0, r1, r2, m1, m2, w1, w2, ht, hmt⟩ : ∃ X Z R N' : Int, (nextL q : Int) = X ∧ (n : Int) = N' ∧ ((nextL q / 2 : Nat) : Int) = Z ∧ ((nextL q / 2 % n : Nat) : Int) = R ∧ 0 ≤ Z ∧ Z ≤ 9223372036854775807 ∧ 0 ≤ R ∧ R ≤ Z ∧ R < N' ∧ 1 ≤ N' ∧ N' ≤ 1125899906842624 ∧
        IntKind.u64.wrap (X.tdiv 2) = Z ∧ IntKind.u64.wrap (X / 2) = Z ∧ Z.tmod N' = R ∧ (Z - R ≤ 9223372036854775807 - N' + 1 ↔ nextL q / 2 < most n) := by
      have hz : IntKind.u64.wrap ((nextL q : Int).tdiv 2) = ((nextL q / 2 : Nat) : Int) := div_word (nextL q) 2 hl
      have hm := Nat.mod_le (nextL q / 2) n
      have hn := Nat.mod_lt (nextL q / 2) (show 0 < n by omega)
      have hb : nextL q < 18446744073709551616 := hl
      have hz' : IntKind.u64.wrap ((nextL q : Int) / 2) = ((nextL q / 2 : Nat) : Int) := by rw [IntKind.wrap_u64]; omega
      have ht : ((nextL q / 2 : Nat) : Int).tmod (n : Int) = ((nextL q / 2 % n : Nat) : Int) := by rw [Int.tmod_eq_emod_of_nonneg (by omega)]; exact (Int.natCast_emod _ _).symm
      have hmt := most_test (nextL q / 2) n (by omega)
      exact ⟨_, _, _, _, rfl, rfl, rfl, rfl, by omega, by omega, by omega, by omega, by omega, by omega, by omega, hz, hz', ht, by rw [← hmt]; omega⟩
    by_cases hlt : nextL q / 2 < most n
    · have hB : Hid (Bel n s (nextL q / 2 % n) (nextS q)) := hR.out _ _ (Bel.take q hlt)
      have g := hmt.2 hlt
      have HR := hide hR'
      rw [hX] at N
      clear hmt hR hlt hl hR' hZ hX n1 nM
      rw [hN]
      clear hN
      go_wp2_with (go_at_call 187; refine N.mono ?_; rintro e w1 ⟨rfl, rfl⟩)
      go_ret
      exact ⟨_, nextS q, ret_int HR.out.symm, hB.out, hq', hK'⟩
    · have hR2 : Hid (∀ v t, Bel n (nextS q) v t → Bel n s v t) := fun v t h => hR.out v t (Bel.more q v t hlt h)
      have g : ¬ Z - R ≤ 9223372036854775807 - N' + 1 := fun g => hlt (hmt.1 g)
      have hf := hide (falls hq.lt n1 (by omega) hlt)
      have hs0 := hide hq.state
      have hs1 := hide hq'.state
      rw [hX] at N
      clear hmt hR hlt hl hR' hZ hX n1 nM
      rw [hN]
      clear hN
      go_wp2_with (go_at_call 187; refine N.mono ?_; rintro e w1 ⟨rfl, rfl⟩)
      go_roundw
      case rel => exact ⟨rfl, nextS q, hq', hK', hR2⟩
      case measure => rw [hs0.out, hs1.out]; exact hf.out
set_option maxRecDepth 100000 in
set_option maxHeartbeats 1000000 in
theorem ref_mix (a : Option Addr) (b off n cap seed : Nat) (W : Nat → Int) (hs : seed < W64) (hn : n ≤ 1000) (w : World) (ha : Hid (0 < n → a = some ⟨b, off, none⟩)) (hb : Hid (0 < n → b < w.heap.size)) (hI : Ints w b off n W) :
    Calls Tryz.prog 172 #[.int .u64 seed, .slice a n cap] w fun e w' => e = .returned (.int .u64 (mixTo W seed n)) ∧ Below w.heap.size w w' := by
  go_enter Tryz.func172, Tryz.ntmps172
  go_wp2
  go_loopw [0, 5] (fun r i wr => ∃ k : Nat, k ≤ n ∧ i = .int .i64 k ∧ r = .int .u64 (mixTo W seed k) ∧ Below w.heap.size w wr) (fun _ i _ => n - (intOf i).toNat)
  case atStart => exact ⟨0, Nat.zero_le _, rfl, rfl, Below.refl _ _⟩
  case round =>
    obtain ⟨k, hk, rfl, rfl, hB⟩ := hrel
    by_cases hlt : k < n
    · have c0 := hI.below hB (hb.out (by omega)) k hlt
      obtain rfl := ha.out (by omega)
      have hm := mixTo_lt W seed hs k
      have hu := toU_lt (W k)
      have hx := xor_lt64 hm hu
      have e1 : IntKind.u64.wrap (W k) = ((toU (W k) : Nat) : Int) := by rw [toU_cast, IntKind.wrap_u64]
      have e2 : bits .xor .u64 ((mixTo W seed k : Nat) : Int) ((toU (W k) : Nat) : Int) = ((mixTo W seed k ^^^ toU (W k) : Nat) : Int) := bits_xor_u64_nat _ _ hm hu
      have hL := lot_new wr (mixTo W seed k ^^^ toU (W k)) hx 205
      have E : Hid (nextL (mixTo W seed k ^^^ toU (W k)) = mixTo W seed (k + 1)) := rfl
      clear hI hm hu hx ha hb
      generalize mixTo W seed k ^^^ toU (W k) = y at *
      generalize toU (W k) = u at *
      generalize mixTo W seed k = m at *
      have hB3 := hB.alloc hB.size (.cells #[.int .u64 (nextS y)] 205)
      go_wp2_with fail
      refine (ref_next wr.heap.size y _ hL).mono ?_
      rintro e w2 ⟨rfl, rfl⟩
      go_wp2_with fail
      go_roundw
      case rel => exact ⟨k + 1, by omega, by go_num, by rw [E.out], hB3⟩
      case measure => simp [intOf]; omega
    · obtain rfl : n = k := by omega
      go_wp2_with fail
      go_ret
      exact ⟨rfl, hB⟩
end Go.Proofs.YtjodnacodlhamacGreatDoor
