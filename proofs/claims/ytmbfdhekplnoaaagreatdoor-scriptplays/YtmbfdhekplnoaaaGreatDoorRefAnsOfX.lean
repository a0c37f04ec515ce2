/-
  Plays of the document's chain (bakehouseref2: BakeTurn, One), by their contracts.
  Blocks of the document's chain up to its cycle's end (bakehouselaw3.cycle), by its contract.
  The second package of laws: an error by its number.
  The program's stakes and the document's, side by side.
  A command's answer by the document (bakehouselaw3.answer), by its contract.
  A command's answer by the document (bakehouselaw3.answer), whatever the command is.
  A command's answer by the document (bakehouselaw3.answer), whatever the command is.
-/
import Derived.Test.YtmbfdhekplnoaaaGreatDoorRefChPartsX
import Derived.Test.YtmbfdhekplnoaaaGreatDoorTextOwnX
import Derived.Deep.RegionHeld3
import Derived.Test.YtmbfdhekplnoaaaGreatDoorLineMathX
import Derived.Test.YtmbfdhekplnoaaaGreatDoorErrTellsX
import Derived.Test.YtmbfdhekplnoaaaGreatDoorEvMapX
import Derived.Test.YtmbfdhekplnoaaaGreatDoorRefStkLeaveX
import Derived.Test.YtmbfdhekplnoaaaGreatDoorRefPictureX
import Derived.Test.YtmbfdhekplnoaaaGreatDoorIssueMathX
import Derived.Test.YtmbfdhekplnoaaaGreatDoorProgPurseActsX
namespace Go.Proofs.YtmbfdhekplnoaaaGreatDoor
open Go.RowKit

set_option maxRecDepth 100000 in
set_option maxHeartbeats 1000000 in
theorem rch_bakeTurn (F : Nat → Prop) (cb : Nat) (C : Ch) (hC : C.Ok) (i : Nat) (hi : i ≤ 400) (hf : C.Fit i) (r : Int) (hr : TurnOk C.cyc C.lev r) (w : World) (h : RCh F w cb C) :
    Calls Tryz.prog 44 #[.pointer (some ⟨cb, 0, none⟩), .int .i64 r] w fun e w' => ∃ k, e = .returned (.tuple #[.int .i64 k, .int .i64 (C.bakeN k), .int .i64 0]) ∧ Turn 3 C.pic C.seed C.cyc C.lev r k ∧ ∃ F', RCh F' w' cb (C.bake k) ∧ Moved F F' w w' := by
  go_enter Tryz.func44, Tryz.ntmps44
  go_wp2_with fail
  refine (rch_turn F cb C hC r hr w h).mono ?_
  rintro e w1 ⟨k, rfl, hk, hB1⟩
  have hB2 : Below w1.heap.size w1 (w1.alloc (.cells #[.int .i64 0, .int .i64 (-1)] 51)) := (Below.refl _ _).alloc (Nat.le_refl _) _
  have h2 := (h.nextB hB1).nextB hB2
  have M2 : Moved F F w (w1.alloc (.cells #[.int .i64 0, .int .i64 (-1)] 51)) := ⟨KeptP.of_below (hB1.trans (hB2.mono hB1.size)), fun _ _ g => g⟩
  have HK := hide hk
  clear hk hB1 hB2 h
  go_wp2_with fail
  refine (rch_bake_fine F cb C hC i hi hf k r hr _ h2 (fun k' h' => h'.one HK.out)).mono ?_
  rintro e w3 ⟨rfl, F3, h3, M3⟩
  have M4 := M2.trans M3
  clear h2 M2 M3
  go_wp2_with fail
  go_ret3
  exact ⟨k, rfl, HK.out, F3, h3, M4⟩
set_option maxRecDepth 100000 in
set_option maxHeartbeats 2000000 in
theorem one_accuse (F : Nat → Prop) (cb : Nat) (C : Ch) (hC : C.Ok) (i : Nat) (hi : i ≤ 400) (hf : C.Fit i) (v q o b' b k n' k4 q72 e5 : Int) (v0 : 0 ≤ v) (hv : v ≤ 9223372036854775807) (hq : v / 8 = q) (hm : v % 8 = 4) (ho : q % 6 = o) (hb' : q / 6 = b') (hb : b' % 3 = b) (hk : q / 18 = k) (hn' : k % 2000 = n') (hk4 : k % 4 = k4) (hq72 : q / 72 = q72) (he5 : q72 % 5 = e5) (w : World) (h : RCh F w cb C) :
    Calls Tryz.prog 56 #[.pointer (some ⟨cb, 0, none⟩), .int .i64 v] w fun e w' => e = .returned (.int .i64 (C.c.accC o (b, (C.cyc : Int) - k4, e5) C.cyc)) ∧ ∃ F', RCh F' w' cb (C.accuse o (b, (C.cyc : Int) - k4, e5)) ∧ Moved F F' w w' := by
  have q0 : 0 ≤ q := by omega
  have q1 : q ≤ 1152921504606846975 := by omega
  have o0 : 0 ≤ o := by omega
  have o6 : o < 6 := by omega
  have b0' : 0 ≤ b' := by omega
  have b1' : b' ≤ 1152921504606846975 := by omega
  have b0 : 0 ≤ b := by omega
  have b3 : b < 3 := by omega
  have k0 : 0 ≤ k := by omega
  have k1 : k ≤ 1152921504606846975 := by omega
  have n0 : 0 ≤ n' := by omega
  have n1 : n' < 2000 := by omega
  have x0 : 0 ≤ k4 := by omega
  have x4 : k4 < 4 := by omega
  have y0 : 0 ≤ q72 := by omega
  have y1 : q72 ≤ 1152921504606846975 := by omega
  have z0 : 0 ≤ e5 := by omega
  have z5 : e5 < 5 := by omega
  obtain ⟨y, hy⟩ : ∃ y : Int, (C.cyc : Int) = y := ⟨_, rfl⟩
  have y2 : 0 ≤ y := by omega
  have y3 : y ≤ 400 := by have := hf.y; have := hf.v; omega
  obtain ⟨d, hd⟩ : ∃ d : Int, y - k4 = d := ⟨_, rfl⟩
  have d0 : -4 ≤ d := by omega
  have d1 : d ≤ 400 := by omega
  obtain ⟨pb, sb, kb, hR⟩ := h.parts
  have c2 := hR.c2
  have c4 := hR.c4
  have ACC := hide (fun w' (g : RChB F w' cb pb sb kb C) => rchb_accuse F cb pb sb kb C hC (by have := hf.l; omega) o b d e5 w' g)
  rw [hy, hd]
  rw [hy] at c4
  unfold Hid at ACC
  rw [hy] at ACC
  have AC := hide ACC
  have r1 : IntKind.i64.wrap (y - k.tmod 4) = d := by rw [Int.tmod_eq_emod_of_nonneg k0, hk4, hd]; exact wrap_end d (by omega) (by omega)
  have r2 : (IntKind.i64.wrap (q.tdiv 72)).tmod 5 = e5 := by rw [Int.tdiv_eq_ediv_of_nonneg q0, hq72, wrap_end q72 (by omega) (by omega), Int.tmod_eq_emod_of_nonneg y0, he5]
  clear ACC h hf hC
  go_enter Tryz.func56, Tryz.ntmps56
  go_wp2_with fail
  go_region_held3 (fun w' => w'.cell? ⟨cb, 2, none⟩ = some (.pointer (some ⟨kb, 0, none⟩)) ∧ w'.cell? ⟨cb, 4, none⟩ = some (.int .i64 y)) (exact ⟨by assumption, by assumption⟩)
    (first | (go_simp; go_at_call 41; refine (AC.out _ (by first | exact hR | exact hR.drewN _)).mono ?_; rintro e w1 ⟨rfl, F1, h1, M1⟩; have e2 := h1.c2; have e4 : w1.cell? ⟨cb, 4, none⟩ = some (.int .i64 y) := (by rw [← hy]; exact h1.c4); have M2 : Moved F F1 w w1 := (by first | exact M1 | exact ((Moved.refl F w).drewN _).trans M1)))
  go_wp2_with fail
  go_ret
  exact ⟨rfl, F1, h1.whole, M2⟩
end Go.Proofs.YtmbfdhekplnoaaaGreatDoor

namespace Go.Proofs.YtmbfdhekplnoaaaGreatDoor
open Go.RowKit

theorem Turn.bkR {C : Ch} (hC : C.Ok) {r k : Int} (h : Turn 3 C.pic C.seed C.cyc C.lev r k) : Bk k := by
  have t := hC.turn
  obtain ⟨j, rfl, hj, _⟩ := h.heavy t.1 t.2
  exact ⟨by omega, by omega⟩
set_option maxRecDepth 100000 in
set_option maxHeartbeats 1000000 in
theorem rch_bakeTurn_bad (F : Nat → Prop) (cb : Nat) (C : Ch) (hC : C.Ok) (r : Int) (hr : ¬ TurnOk C.cyc C.lev r) (w : World) (h : RCh F w cb C) :
    Calls Tryz.prog 44 #[.pointer (some ⟨cb, 0, none⟩), .int .i64 r] w fun e w' => e = .returned (.tuple #[.int .i64 0, .int .i64 0, .int .i64 2]) ∧ Below w.heap.size w w' := by
  go_enter Tryz.func44, Tryz.ntmps44
  go_wp2_with fail
  refine (rch_turn_bad F cb C hC r hr w h).mono ?_
  rintro e w1 ⟨rfl, hB1⟩
  have hB2 : Below w1.heap.size w1 (w1.alloc (.cells #[.int .i64 2, .int .i64 (-1)] 51)) := (Below.refl _ _).alloc (Nat.le_refl _) _
  have f0 : (w1.alloc (.cells #[.int .i64 2, .int .i64 (-1)] 51)).cell? ⟨w1.heap.size, 0, none⟩ = some (.int .i64 2) := by simp
  have B := hB1.trans (hB2.mono hB1.size)
  clear hB1 hB2 h
  go_wp2_with fail
  go_quiet (fail)
  go_wp2_with fail
  go_ret3
  exact ⟨rfl, below_drewN B _⟩
def levOf (w : World) (rb : Nat) : Int := match w.cell? ⟨rb, 5, none⟩ with
  | some (.int _ x) => x
  | _ => 0
theorem levOf_of {w : World} {rb : Nat} {x : Int} (h : w.cell? ⟨rb, 5, none⟩ = some (.int .i64 x)) : levOf w rb = x := by unfold levOf; rw [h]
theorem Ch.bake_lev (C : Ch) (k : Int) : (C.bake k).lev = C.lev + 1 := by
  show (C.paid k).stepped.lev = _
  rw [Ch.stepped_lev, (C.paid_same k).2.1]
set_option maxRecDepth 100000 in
set_option maxHeartbeats 1000000 in
theorem cycle_of (G : Nat → Prop) (rb : Nat) (C : Ch) (hC : C.Ok) (i : Nat) (hi : i + 4 ≤ 400) (hf : C.Fit i) (w : World) (h : RCh G w rb C) :
    Calls Tryz.prog 48 #[.pointer (some ⟨rb, 0, none⟩)] w fun e w' => e = .returned (.string (bs okT)) ∧ ∃ C' G', CycTo C.cyc C C' ∧ RCh G' w' rb C' ∧ Moved G G' w w' := by
  obtain ⟨pb, sb, kb, hR⟩ := h.parts
  have c4 := hR.c4
  have y0 := hf.y
  clear hR
  go_enter Tryz.func48, Tryz.ntmps48
  go_wp2_with fail
  go_loopw [17] (fun _ wr => ∃ (D : Ch) (G' : Nat → Prop) (t : Nat), D.Ok ∧ D.Fit (i + t) ∧ D.lev = C.lev + t ∧ t ≤ 4 ∧ D.lev ≤ 4 * (C.cyc + 1) ∧ RCh G' wr rb D ∧ Moved G G' w wr ∧ ∀ C', CycTo C.cyc D C' → CycTo C.cyc C C') (fun _ wr => (4 * ((C.cyc : Int) + 1) - levOf wr rb).toNat)
  case atStart => exact ⟨C, G, 0, hC, hf, rfl, by omega, by omega, h, Moved.refl _ _, fun _ g => g⟩
  case round =>
    obtain ⟨D, G', t, hD, hDf, hv, ht, hm, hR, hM, hT⟩ := hrel
    clear h c4
    obtain ⟨pb, sb, kb, hB⟩ := hR.parts
    have c4 := hB.c4
    have c5 := hB.c5
    have y1 := hDf.y
    by_cases hy : D.cyc = C.cyc
    · have e0 : (((D.cyc : Nat) : Int) == ((C.cyc : Nat) : Int)) = true := by rw [hy]; simp
      have HT := hide hT
      have L1 : Hid (levOf wr rb = D.lev) := levOf_of c5
      have t3 : t ≤ 3 := by omega
      clear hB hT
      go_wp2_with fail
      refine (rch_bakeTurn G' rb D hD (i + t) (by omega) hDf 0 (hDf.turn (by omega) (by omega) (by omega)) wr hR).mono ?_
      rintro e w1 ⟨k, rfl, hk, G1, h1, M1⟩
      have HK := hide hk
      have B1 := (hD.bake k).1
      have F1 := hDf.bake k
      have V1 := D.bake_lev k
      obtain ⟨_, _, _, hB1⟩ := h1.parts
      have L2 : Hid (levOf w1 rb = (D.bake k).lev) := levOf_of hB1.c5
      have MM := hM.trans M1
      clear hk hR c4 c5 hB1 hM M1
      go_wp2_with fail
      go_roundw
      case rel => exact ⟨D.bake k, G1, t + 1, B1, F1, by rw [V1]; omega, by omega, by rw [V1]; omega, h1, MM, fun C' g => HT.out C' (.more D C' hy k HK.out g)⟩
      case measure => rw [L1.out, L2.out, V1]; omega
    · have e0 : (((D.cyc : Nat) : Int) == ((C.cyc : Nat) : Int)) = false := by rw [beq_eq_false_iff_ne]; omega
      have HT := hide (hT D (.done D hy))
      clear hB hT c5
      go_wp2_with fail
      go_ret
      exact ⟨rfl, D, G', HT.out, hR, hM⟩
end Go.Proofs.YtmbfdhekplnoaaaGreatDoor

namespace Go.Proofs.YtmbfdhekplnoaaaGreatDoor
open Go.RowKit

end Go.Proofs.YtmbfdhekplnoaaaGreatDoor

namespace Go.Proofs.YtmbfdhekplnoaaaGreatDoor
open Go.RowKit

theorem RSk.len {G : Nat → Prop} {w : World} {rb : Nat} {S : Sk} (h : RSk G w rb S) {m : Nat} (hl : S.K.length ≤ m) : ∃ tag pb v L, (∀ k, G k ↔ tag k ≠ 0) ∧ RSkAt tag w rb pb v L S ∧ L.length ≤ m := by
  obtain ⟨tag, pb, v, L, hF, h⟩ := h
  exact ⟨tag, pb, v, L, hF, h, by rw [← h.klen]; exact hl⟩
theorem rsk_staked (G : Nat → Prop) (rb : Nat) (S : Sk) (hS : S.Ok) (b : Int) (w : World) (h : RSk G w rb S) :
    Calls Tryz.prog 45 #[.pointer (some ⟨rb, 0, none⟩), .int .i64 b] w fun e w' => e = .returned (.int .i64 (S.P b).T) ∧ w' = w := by
  obtain ⟨tag, pb, v, L, _, h⟩ := h
  exact rs_staked tag rb pb v L S hS b w h
theorem rsk_value (G : Nat → Prop) (rb : Nat) (S : Sk) (hS : S.Ok) (o b : Int) (w : World) (h : RSk G w rb S) :
    Calls Tryz.prog 46 #[.pointer (some ⟨rb, 0, none⟩), .int .i64 o, .int .i64 b] w fun e w' => e = .returned (.int .i64 ((S.P b).val o)) ∧ ∃ n, w' = w.drewN n := by
  obtain ⟨tag, pb, v, L, _, h⟩ := h
  exact rs_value tag rb pb v L S hS o b w h
theorem rsk_waits (G : Nat → Prop) (rb : Nat) (S : Sk) (hS : S.Ok) (hl : S.K.length ≤ 1000) (o b c : Int) (w : World) (h : RSk G w rb S) :
    Calls Tryz.prog 47 #[.pointer (some ⟨rb, 0, none⟩), .int .i64 o, .int .i64 b, .int .i64 c] w fun e w' => e = .returned (.int .i64 ((S.W b c).val o)) ∧ ∃ n, w' = w.drewN n := by
  obtain ⟨tag, pb, v, L, _, h, hL⟩ := h.len hl
  exact rs_waits tag rb pb v L S hS o b c hL w h
end Go.Proofs.YtmbfdhekplnoaaaGreatDoor

namespace Go.Proofs.YtmbfdhekplnoaaaGreatDoor
open Go.RowKit

def AnsEnd (G : Nat → Prop) (rb : Nat) (C : Ch) (wd : List UInt8) (ns : List Nat) (w : World) (e : Ending) (w' : World) : Prop := ∃ o C' G', e = .returned (.string (bs o)) ∧ Ans C wd ns o C' ∧ RCh G' w' rb C' ∧ Moved G G' w w'
theorem Ch.Ok.top {C : Ch} (h : C.Ok) : C.s.total ≤ 1125899906842624 := by have := h.sum; have := h.p.sum0; have := h.p.top; omega
theorem two_bs (a b : List UInt8) : bs a ++ bs [32] ++ bs b = bs (a ++ 32 :: b) := by rw [bs_append, bs_append]; simp
set_option maxRecDepth 100000 in
set_option maxHeartbeats 4000000 in
theorem ans_pay (G : Nat → Prop) (rb : Nat) (C : Ch) (hC : C.Ok) (i : Nat) (_hi : i + 4 ≤ 400) (_hf : C.Fit i) (wd : ByteArray) (b0 off cap : Nat) (a b n : Nat) (nb : ¬ G b0) (w : World) (h : RCh G w rb C) (c0 : w.cell? ⟨b0, off, none⟩ = some (.int .i64 ((a : Nat) : Int))) (c1 : w.cell? ⟨b0, off + 1, none⟩ = some (.int .i64 ((b : Nat) : Int))) (c2 : w.cell? ⟨b0, off + 2, none⟩ = some (.int .i64 ((n : Nat) : Int))) (ty : (wd.toList == [112, 97, 121]) = true) :
    Calls Tryz.prog 15 #[.pointer (some ⟨rb, 0, none⟩), .agg #[.string wd, .slice (some ⟨b0, off, none⟩) 3 cap]] w (AnsEnd G rb C wPay [a, b, n] w) := by
  have hB4 : Below w.heap.size w (w.alloc (.cells #[.string wd, .slice (some ⟨b0, off, none⟩) 3 cap] 37)) := (Below.refl _ _).alloc (Nat.le_refl _) _
  have s0 : (w.alloc (.cells #[.string wd, .slice (some ⟨b0, off, none⟩) 3 cap] 37)).cell? ⟨w.heap.size, 0, none⟩ = some (.string wd) := by simp
  have s1 : (w.alloc (.cells #[.string wd, .slice (some ⟨b0, off, none⟩) 3 cap] 37)).cell? ⟨w.heap.size, 1, none⟩ = some (.slice (some ⟨b0, off, none⟩) 3 cap) := by simp
  have e0 := stk_old hB4 c0
  have e1 := stk_old hB4 c1
  have e2 := stk_old hB4 c2
  obtain ⟨pb, sb, kb, hR⟩ := h.parts
  have hR4 := hR.nextB hB4
  have M4 : Moved G G w (w.alloc (.cells #[.string wd, .slice (some ⟨b0, off, none⟩) 3 cap] 37)) := ⟨KeptP.of_below hB4, fun _ _ g => g⟩
  have zG : ¬ G w.heap.size := fun g => by have := hR.lt _ g; omega
  clear h hR hB4 c0 c1 c2
  go_enter Tryz.func15, Tryz.ntmps15
  go_wp2_with fail
  generalize w.heap.size = na at *
  generalize w.alloc (.cells #[.string wd, .slice (some ⟨b0, off, none⟩) 3 cap] 37) = w4 at *
  have r0 : w4.cell? ⟨rb, 0, none⟩ = some (.pointer (some ⟨pb, 0, none⟩)) := hR4.c0
  have bd := C.p.moveC_bd a b n
  go_region_held3 (fun w' => w'.cell? ⟨na, 1, none⟩ = some (.slice (some ⟨b0, off, none⟩) 3 cap) ∧ w'.cell? ⟨b0, off, none⟩ = some (.int .i64 ((a : Nat) : Int)) ∧ w'.cell? ⟨b0, off + 1, none⟩ = some (.int .i64 ((b : Nat) : Int)) ∧ w'.cell? ⟨b0, off + 2, none⟩ = some (.int .i64 ((n : Nat) : Int)) ∧ w'.cell? ⟨rb, 0, none⟩ = some (.pointer (some ⟨pb, 0, none⟩))) (exact ⟨by assumption, by assumption, by assumption, by assumption, by assumption⟩)
    (first
      | (go_at_call 38; refine (rchb_move G rb pb sb kb C hC a b n _ (by first | exact hR4 | exact hR4.drewN _)).mono ?_; rintro e w5 ⟨rfl, h5, M5⟩; have M6 : Moved G G w w5 := (by first | exact M4.trans M5 | exact (M4.drewN _).trans M5); have fw50 : w5.cell? ⟨na, 1, none⟩ = some (.slice (some ⟨b0, off, none⟩) 3 cap) := M5.cell s1 zG; have fw51 : w5.cell? ⟨b0, off, none⟩ = some (.int .i64 ((a : Nat) : Int)) := M5.cell e0 nb; have fw52 : w5.cell? ⟨b0, off + 1, none⟩ = some (.int .i64 ((b : Nat) : Int)) := M5.cell e1 nb; have fw53 : w5.cell? ⟨b0, off + 2, none⟩ = some (.int .i64 ((n : Nat) : Int)) := M5.cell e2 nb; have gw50 : w5.cell? ⟨rb, 0, none⟩ = some (.pointer (some ⟨pb, 0, none⟩)) := h5.c0)
      | (go_at_call 37; refine (orElse_of _ bd.1 bd.2 okT _).mono ?_; rintro e w6 ⟨rfl, hB6⟩; have B6 : Below w5.heap.size w5 w6 := (by first | exact hB6 | exact (below_drewN (Below.refl _ _) _).trans (hB6.mono (Nat.le_refl _))); have fw60 : w6.cell? ⟨na, 1, none⟩ = some (.slice (some ⟨b0, off, none⟩) 3 cap) := stk_old B6 fw50; have fw61 : w6.cell? ⟨b0, off, none⟩ = some (.int .i64 ((a : Nat) : Int)) := stk_old B6 fw51; have fw62 : w6.cell? ⟨b0, off + 1, none⟩ = some (.int .i64 ((b : Nat) : Int)) := stk_old B6 fw52; have fw63 : w6.cell? ⟨b0, off + 2, none⟩ = some (.int .i64 ((n : Nat) : Int)) := stk_old B6 fw53; have gw60 : w6.cell? ⟨rb, 0, none⟩ = some (.pointer (some ⟨pb, 0, none⟩)) := stk_old B6 gw50))
  go_wp2_with fail
  go_ret
  exact ⟨_, _, G, rfl, .pay a b n, (h5.whole).nextB B6, M6.trans ⟨KeptP.of_below B6, fun _ _ g => g⟩⟩
set_option maxRecDepth 100000 in
set_option maxHeartbeats 4000000 in
theorem ans_stake (G : Nat → Prop) (rb : Nat) (C : Ch) (hC : C.Ok) (i : Nat) (_hi : i + 4 ≤ 400) (_hf : C.Fit i) (wd : ByteArray) (b0 off cap : Nat) (a b n : Nat) (nb : ¬ G b0) (w : World) (h : RCh G w rb C) (c0 : w.cell? ⟨b0, off, none⟩ = some (.int .i64 ((a : Nat) : Int))) (c1 : w.cell? ⟨b0, off + 1, none⟩ = some (.int .i64 ((b : Nat) : Int))) (c2 : w.cell? ⟨b0, off + 2, none⟩ = some (.int .i64 ((n : Nat) : Int))) (t0 : (wd.toList == [112, 97, 121]) = false) (ty : (wd.toList == [115, 116, 97, 107, 101]) = true) :
    Calls Tryz.prog 15 #[.pointer (some ⟨rb, 0, none⟩), .agg #[.string wd, .slice (some ⟨b0, off, none⟩) 3 cap]] w (AnsEnd G rb C wStake [a, b, n] w) := by
  have hB4 : Below w.heap.size w (w.alloc (.cells #[.string wd, .slice (some ⟨b0, off, none⟩) 3 cap] 37)) := (Below.refl _ _).alloc (Nat.le_refl _) _
  have s0 : (w.alloc (.cells #[.string wd, .slice (some ⟨b0, off, none⟩) 3 cap] 37)).cell? ⟨w.heap.size, 0, none⟩ = some (.string wd) := by simp
  have s1 : (w.alloc (.cells #[.string wd, .slice (some ⟨b0, off, none⟩) 3 cap] 37)).cell? ⟨w.heap.size, 1, none⟩ = some (.slice (some ⟨b0, off, none⟩) 3 cap) := by simp
  have e0 := stk_old hB4 c0
  have e1 := stk_old hB4 c1
  have e2 := stk_old hB4 c2
  obtain ⟨pb, sb, kb, hR⟩ := h.parts
  have hR4 := hR.nextB hB4
  have M4 : Moved G G w (w.alloc (.cells #[.string wd, .slice (some ⟨b0, off, none⟩) 3 cap] 37)) := ⟨KeptP.of_below hB4, fun _ _ g => g⟩
  have zG : ¬ G w.heap.size := fun g => by have := hR.lt _ g; omega
  clear h hR hB4 c0 c1 c2
  go_enter Tryz.func15, Tryz.ntmps15
  go_wp2_with fail
  generalize w.heap.size = na at *
  generalize w.alloc (.cells #[.string wd, .slice (some ⟨b0, off, none⟩) 3 cap] 37) = w4 at *
  have bd := C.stakeC_bd a b n
  go_region_held3 (fun w' => w'.cell? ⟨na, 1, none⟩ = some (.slice (some ⟨b0, off, none⟩) 3 cap) ∧ w'.cell? ⟨b0, off, none⟩ = some (.int .i64 ((a : Nat) : Int)) ∧ w'.cell? ⟨b0, off + 1, none⟩ = some (.int .i64 ((b : Nat) : Int)) ∧ w'.cell? ⟨b0, off + 2, none⟩ = some (.int .i64 ((n : Nat) : Int))) (exact ⟨by assumption, by assumption, by assumption, by assumption⟩)
    (first
      | (go_at_call 39; refine (rch_stake G rb C hC a b n _ (by first | exact hR4.whole | exact (hR4.drewN _).whole)).mono ?_; rintro e w5 ⟨rfl, G5, h5, M5⟩; have M6 : Moved G G5 w w5 := (by first | exact M4.trans M5 | exact (M4.drewN _).trans M5); have fw50 : w5.cell? ⟨na, 1, none⟩ = some (.slice (some ⟨b0, off, none⟩) 3 cap) := M5.cell s1 zG; have fw51 : w5.cell? ⟨b0, off, none⟩ = some (.int .i64 ((a : Nat) : Int)) := M5.cell e0 nb; have fw52 : w5.cell? ⟨b0, off + 1, none⟩ = some (.int .i64 ((b : Nat) : Int)) := M5.cell e1 nb; have fw53 : w5.cell? ⟨b0, off + 2, none⟩ = some (.int .i64 ((n : Nat) : Int)) := M5.cell e2 nb)
      | (go_at_call 37; refine (orElse_of _ bd.1 bd.2 okT _).mono ?_; rintro e w6 ⟨rfl, hB6⟩; have B6 : Below w5.heap.size w5 w6 := (by first | exact hB6 | exact (below_drewN (Below.refl _ _) _).trans (hB6.mono (Nat.le_refl _))); have fw60 : w6.cell? ⟨na, 1, none⟩ = some (.slice (some ⟨b0, off, none⟩) 3 cap) := stk_old B6 fw50; have fw61 : w6.cell? ⟨b0, off, none⟩ = some (.int .i64 ((a : Nat) : Int)) := stk_old B6 fw51; have fw62 : w6.cell? ⟨b0, off + 1, none⟩ = some (.int .i64 ((b : Nat) : Int)) := stk_old B6 fw52; have fw63 : w6.cell? ⟨b0, off + 2, none⟩ = some (.int .i64 ((n : Nat) : Int)) := stk_old B6 fw53))
  go_wp2_with fail
  go_ret
  exact ⟨_, _, G5, rfl, .stake a b n, (h5).nextB B6, M6.trans ⟨KeptP.of_below B6, fun _ _ g => g⟩⟩
set_option maxRecDepth 100000 in
set_option maxHeartbeats 4000000 in
theorem ans_unstake (G : Nat → Prop) (rb : Nat) (C : Ch) (hC : C.Ok) (i : Nat) (hi : i + 4 ≤ 400) (hf : C.Fit i) (wd : ByteArray) (b0 off cap : Nat) (a b n : Nat) (nb : ¬ G b0) (w : World) (h : RCh G w rb C) (c0 : w.cell? ⟨b0, off, none⟩ = some (.int .i64 ((a : Nat) : Int))) (c1 : w.cell? ⟨b0, off + 1, none⟩ = some (.int .i64 ((b : Nat) : Int))) (c2 : w.cell? ⟨b0, off + 2, none⟩ = some (.int .i64 ((n : Nat) : Int))) (t0 : (wd.toList == [112, 97, 121]) = false) (t1 : (wd.toList == [115, 116, 97, 107, 101]) = false) (ty : (wd.toList == [117, 110, 115, 116, 97, 107, 101]) = true) :
    Calls Tryz.prog 15 #[.pointer (some ⟨rb, 0, none⟩), .agg #[.string wd, .slice (some ⟨b0, off, none⟩) 3 cap]] w (AnsEnd G rb C wUnstake [a, b, n] w) := by
  have hB4 : Below w.heap.size w (w.alloc (.cells #[.string wd, .slice (some ⟨b0, off, none⟩) 3 cap] 37)) := (Below.refl _ _).alloc (Nat.le_refl _) _
  have s0 : (w.alloc (.cells #[.string wd, .slice (some ⟨b0, off, none⟩) 3 cap] 37)).cell? ⟨w.heap.size, 0, none⟩ = some (.string wd) := by simp
  have s1 : (w.alloc (.cells #[.string wd, .slice (some ⟨b0, off, none⟩) 3 cap] 37)).cell? ⟨w.heap.size, 1, none⟩ = some (.slice (some ⟨b0, off, none⟩) 3 cap) := by simp
  have e0 := stk_old hB4 c0
  have e1 := stk_old hB4 c1
  have e2 := stk_old hB4 c2
  obtain ⟨pb, sb, kb, hR⟩ := h.parts
  have hR4 := hR.nextB hB4
  have M4 : Moved G G w (w.alloc (.cells #[.string wd, .slice (some ⟨b0, off, none⟩) 3 cap] 37)) := ⟨KeptP.of_below hB4, fun _ _ g => g⟩
  have zG : ¬ G w.heap.size := fun g => by have := hR.lt _ g; omega
  clear h hR hB4 c0 c1 c2
  go_enter Tryz.func15, Tryz.ntmps15
  go_wp2_with fail
  generalize w.heap.size = na at *
  generalize w.alloc (.cells #[.string wd, .slice (some ⟨b0, off, none⟩) 3 cap] 37) = w4 at *
  have r1 : w4.cell? ⟨rb, 1, none⟩ = some (.pointer (some ⟨sb, 0, none⟩)) := hR4.c1
  have r4 : w4.cell? ⟨rb, 4, none⟩ = some (.int .i64 C.cyc) := hR4.c4
  have bd := C.s.leaveC_bd a b n C.cyc
  go_region_held3 (fun w' => w'.cell? ⟨na, 1, none⟩ = some (.slice (some ⟨b0, off, none⟩) 3 cap) ∧ w'.cell? ⟨b0, off, none⟩ = some (.int .i64 ((a : Nat) : Int)) ∧ w'.cell? ⟨b0, off + 1, none⟩ = some (.int .i64 ((b : Nat) : Int)) ∧ w'.cell? ⟨b0, off + 2, none⟩ = some (.int .i64 ((n : Nat) : Int)) ∧ w'.cell? ⟨rb, 1, none⟩ = some (.pointer (some ⟨sb, 0, none⟩)) ∧ w'.cell? ⟨rb, 4, none⟩ = some (.int .i64 C.cyc)) (exact ⟨by assumption, by assumption, by assumption, by assumption, by assumption, by assumption⟩)
    (first
      | (go_at_call 40; refine (rchb_leave G rb pb sb kb C hC (by have := hf.k; omega) a b n _ (by first | exact hR4 | exact hR4.drewN _)).mono ?_; rintro e w5 ⟨rfl, G5, h5, M5⟩; have M6 : Moved G G5 w w5 := (by first | exact M4.trans M5 | exact (M4.drewN _).trans M5); have fw50 : w5.cell? ⟨na, 1, none⟩ = some (.slice (some ⟨b0, off, none⟩) 3 cap) := M5.cell s1 zG; have fw51 : w5.cell? ⟨b0, off, none⟩ = some (.int .i64 ((a : Nat) : Int)) := M5.cell e0 nb; have fw52 : w5.cell? ⟨b0, off + 1, none⟩ = some (.int .i64 ((b : Nat) : Int)) := M5.cell e1 nb; have fw53 : w5.cell? ⟨b0, off + 2, none⟩ = some (.int .i64 ((n : Nat) : Int)) := M5.cell e2 nb; have gw51 : w5.cell? ⟨rb, 1, none⟩ = some (.pointer (some ⟨sb, 0, none⟩)) := h5.c1; have gw54 : w5.cell? ⟨rb, 4, none⟩ = some (.int .i64 C.cyc) := h5.c4)
      | (go_at_call 37; refine (orElse_of _ bd.1 bd.2 okT _).mono ?_; rintro e w6 ⟨rfl, hB6⟩; have B6 : Below w5.heap.size w5 w6 := (by first | exact hB6 | exact (below_drewN (Below.refl _ _) _).trans (hB6.mono (Nat.le_refl _))); have fw60 : w6.cell? ⟨na, 1, none⟩ = some (.slice (some ⟨b0, off, none⟩) 3 cap) := stk_old B6 fw50; have fw61 : w6.cell? ⟨b0, off, none⟩ = some (.int .i64 ((a : Nat) : Int)) := stk_old B6 fw51; have fw62 : w6.cell? ⟨b0, off + 1, none⟩ = some (.int .i64 ((b : Nat) : Int)) := stk_old B6 fw52; have fw63 : w6.cell? ⟨b0, off + 2, none⟩ = some (.int .i64 ((n : Nat) : Int)) := stk_old B6 fw53; have gw61 : w6.cell? ⟨rb, 1, none⟩ = some (.pointer (some ⟨sb, 0, none⟩)) := stk_old B6 gw51; have gw64 : w6.cell? ⟨rb, 4, none⟩ = some (.int .i64 C.cyc) := stk_old B6 gw54))
  go_wp2_with fail
  go_ret
  exact ⟨_, _, G5, rfl, .unstake a b n, (h5.whole).nextB B6, M6.trans ⟨KeptP.of_below B6, fun _ _ g => g⟩⟩
set_option maxRecDepth 100000 in
set_option maxHeartbeats 4000000 in
theorem ans_accuse (G : Nat → Prop) (rb : Nat) (C : Ch) (hC : C.Ok) (i : Nat) (hi : i + 4 ≤ 400) (hf : C.Fit i) (wd : ByteArray) (b0 off cap : Nat) (a b n m : Nat) (nb : ¬ G b0) (w : World) (h : RCh G w rb C) (c0 : w.cell? ⟨b0, off, none⟩ = some (.int .i64 ((a : Nat) : Int))) (c1 : w.cell? ⟨b0, off + 1, none⟩ = some (.int .i64 ((b : Nat) : Int))) (c2 : w.cell? ⟨b0, off + 2, none⟩ = some (.int .i64 ((n : Nat) : Int))) (c3 : w.cell? ⟨b0, off + 3, none⟩ = some (.int .i64 ((m : Nat) : Int))) (t0 : (wd.toList == [112, 97, 121]) = false) (t1 : (wd.toList == [115, 116, 97, 107, 101]) = false) (t2 : (wd.toList == [117, 110, 115, 116, 97, 107, 101]) = false) (ty : (wd.toList == [97, 99, 99, 117, 115, 101]) = true) :
    Calls Tryz.prog 15 #[.pointer (some ⟨rb, 0, none⟩), .agg #[.string wd, .slice (some ⟨b0, off, none⟩) 4 cap]] w (AnsEnd G rb C wAccuse [a, b, n, m] w) := by
  have hB4 : Below w.heap.size w (w.alloc (.cells #[.string wd, .slice (some ⟨b0, off, none⟩) 4 cap] 37)) := (Below.refl _ _).alloc (Nat.le_refl _) _
  have s0 : (w.alloc (.cells #[.string wd, .slice (some ⟨b0, off, none⟩) 4 cap] 37)).cell? ⟨w.heap.size, 0, none⟩ = some (.string wd) := by simp
  have s1 : (w.alloc (.cells #[.string wd, .slice (some ⟨b0, off, none⟩) 4 cap] 37)).cell? ⟨w.heap.size, 1, none⟩ = some (.slice (some ⟨b0, off, none⟩) 4 cap) := by simp
  have e0 := stk_old hB4 c0
  have e1 := stk_old hB4 c1
  have e2 := stk_old hB4 c2
  have e3 := stk_old hB4 c3
  obtain ⟨pb, sb, kb, hR⟩ := h.parts
  have hR4 := hR.nextB hB4
  have M4 : Moved G G w (w.alloc (.cells #[.string wd, .slice (some ⟨b0, off, none⟩) 4 cap] 37)) := ⟨KeptP.of_below hB4, fun _ _ g => g⟩
  have zG : ¬ G w.heap.size := fun g => by have := hR.lt _ g; omega
  clear h hR hB4 c0 c1 c2 c3
  go_enter Tryz.func15, Tryz.ntmps15
  go_wp2_with fail
  generalize w.heap.size = na at *
  generalize w.alloc (.cells #[.string wd, .slice (some ⟨b0, off, none⟩) 4 cap] 37) = w4 at *
  have r2 : w4.cell? ⟨rb, 2, none⟩ = some (.pointer (some ⟨kb, 0, none⟩)) := hR4.c2
  have r4 : w4.cell? ⟨rb, 4, none⟩ = some (.int .i64 C.cyc) := hR4.c4
  have bd := C.c.accC_bd a (b, n, m) C.cyc
  go_region_held3 (fun w' => w'.cell? ⟨na, 1, none⟩ = some (.slice (some ⟨b0, off, none⟩) 4 cap) ∧ w'.cell? ⟨b0, off, none⟩ = some (.int .i64 ((a : Nat) : Int)) ∧ w'.cell? ⟨b0, off + 1, none⟩ = some (.int .i64 ((b : Nat) : Int)) ∧ w'.cell? ⟨b0, off + 2, none⟩ = some (.int .i64 ((n : Nat) : Int)) ∧ w'.cell? ⟨b0, off + 3, none⟩ = some (.int .i64 ((m : Nat) : Int)) ∧ w'.cell? ⟨rb, 2, none⟩ = some (.pointer (some ⟨kb, 0, none⟩)) ∧ w'.cell? ⟨rb, 4, none⟩ = some (.int .i64 C.cyc)) (exact ⟨by assumption, by assumption, by assumption, by assumption, by assumption, by assumption, by assumption⟩)
    (first
      | (go_simp; go_at_call 41; refine (rchb_accuse G rb pb sb kb C hC (by have := hf.l; omega) a b n m _ (by first | exact hR4 | exact hR4.drewN _)).mono ?_; rintro e w5 ⟨rfl, G5, h5, M5⟩; have M6 : Moved G G5 w w5 := (by first | exact M4.trans M5 | exact (M4.drewN _).trans M5); have fw50 : w5.cell? ⟨na, 1, none⟩ = some (.slice (some ⟨b0, off, none⟩) 4 cap) := M5.cell s1 zG; have fw51 : w5.cell? ⟨b0, off, none⟩ = some (.int .i64 ((a : Nat) : Int)) := M5.cell e0 nb; have fw52 : w5.cell? ⟨b0, off + 1, none⟩ = some (.int .i64 ((b : Nat) : Int)) := M5.cell e1 nb; have fw53 : w5.cell? ⟨b0, off + 2, none⟩ = some (.int .i64 ((n : Nat) : Int)) := M5.cell e2 nb; have fw54 : w5.cell? ⟨b0, off + 3, none⟩ = some (.int .i64 ((m : Nat) : Int)) := M5.cell e3 nb; have gw52 : w5.cell? ⟨rb, 2, none⟩ = some (.pointer (some ⟨kb, 0, none⟩)) := h5.c2; have gw54 : w5.cell? ⟨rb, 4, none⟩ = some (.int .i64 C.cyc) := h5.c4)
      | (go_at_call 37; refine (orElse_of _ bd.1 bd.2 okT _).mono ?_; rintro e w6 ⟨rfl, hB6⟩; have B6 : Below w5.heap.size w5 w6 := (by first | exact hB6 | exact (below_drewN (Below.refl _ _) _).trans (hB6.mono (Nat.le_refl _))); have fw60 : w6.cell? ⟨na, 1, none⟩ = some (.slice (some ⟨b0, off, none⟩) 4 cap) := stk_old B6 fw50; have fw61 : w6.cell? ⟨b0, off, none⟩ = some (.int .i64 ((a : Nat) : Int)) := stk_old B6 fw51; have fw62 : w6.cell? ⟨b0, off + 1, none⟩ = some (.int .i64 ((b : Nat) : Int)) := stk_old B6 fw52; have fw63 : w6.cell? ⟨b0, off + 2, none⟩ = some (.int .i64 ((n : Nat) : Int)) := stk_old B6 fw53; have fw64 : w6.cell? ⟨b0, off + 3, none⟩ = some (.int .i64 ((m : Nat) : Int)) := stk_old B6 fw54; have gw62 : w6.cell? ⟨rb, 2, none⟩ = some (.pointer (some ⟨kb, 0, none⟩)) := stk_old B6 gw52; have gw64 : w6.cell? ⟨rb, 4, none⟩ = some (.int .i64 C.cyc) := stk_old B6 gw54))
  go_wp2_with fail
  go_ret
  exact ⟨_, _, G5, rfl, .accuse a b n m, (h5.whole).nextB B6, M6.trans ⟨KeptP.of_below B6, fun _ _ g => g⟩⟩
set_option maxRecDepth 100000 in
set_option maxHeartbeats 4000000 in
theorem ans_free (G : Nat → Prop) (rb : Nat) (C : Ch) (hC : C.Ok) (i : Nat) (hi : i + 4 ≤ 400) (hf : C.Fit i) (wd : ByteArray) (b0 off cap : Nat) (a : Nat) (_nb : ¬ G b0) (w : World) (h : RCh G w rb C) (c0 : w.cell? ⟨b0, off, none⟩ = some (.int .i64 ((a : Nat) : Int))) (t0 : (wd.toList == [112, 97, 121]) = false) (t1 : (wd.toList == [115, 116, 97, 107, 101]) = false) (t2 : (wd.toList == [117, 110, 115, 116, 97, 107, 101]) = false) (t3 : (wd.toList == [97, 99, 99, 117, 115, 101]) = false) (ty : (wd.toList == [102, 114, 101, 101]) = true) :
    Calls Tryz.prog 15 #[.pointer (some ⟨rb, 0, none⟩), .agg #[.string wd, .slice (some ⟨b0, off, none⟩) 1 cap]] w (AnsEnd G rb C wFree [a] w) := by
  have hB4 : Below w.heap.size w (w.alloc (.cells #[.string wd, .slice (some ⟨b0, off, none⟩) 1 cap] 37)) := (Below.refl _ _).alloc (Nat.le_refl _) _
  have s0 : (w.alloc (.cells #[.string wd, .slice (some ⟨b0, off, none⟩) 1 cap] 37)).cell? ⟨w.heap.size, 0, none⟩ = some (.string wd) := by simp
  have s1 : (w.alloc (.cells #[.string wd, .slice (some ⟨b0, off, none⟩) 1 cap] 37)).cell? ⟨w.heap.size, 1, none⟩ = some (.slice (some ⟨b0, off, none⟩) 1 cap) := by simp
  have e0 := stk_old hB4 c0
  obtain ⟨pb, sb, kb, hR⟩ := h.parts
  have hR4 := hR.nextB hB4
  have M4 : Moved G G w (w.alloc (.cells #[.string wd, .slice (some ⟨b0, off, none⟩) 1 cap] 37)) := ⟨KeptP.of_below hB4, fun _ _ g => g⟩
  have zG : ¬ G w.heap.size := fun g => by have := hR.lt _ g; omega
  clear h hR hB4 c0
  go_enter Tryz.func15, Tryz.ntmps15
  go_wp2_with fail
  generalize w.heap.size = na at *
  generalize w.alloc (.cells #[.string wd, .slice (some ⟨b0, off, none⟩) 1 cap] 37) = w4 at *
  have bd := C.s.freeC_bd a C.cyc
  have fb := hC.freeN_bd a C.cyc
  have tp := hC.top
  refine (rch_free G rb C hC (by have := hf.k; omega) (by have := hf.y; have := hf.v; omega) a w4 hR4.whole).mono ?_
  rintro e w5 ⟨rfl, G5, h5, M5⟩
  have M6 := M4.trans M5
  go_wp2_with fail
  refine (decimal_int (C.s.freeN a C.cyc) fb.1 (by omega) w5).mono ?_
  rintro e w6 ⟨rfl, hB6⟩
  go_wp2_with fail
  refine (orElse_of _ bd.1 bd.2 _ w6).mono ?_
  rintro e w7 ⟨rfl, hB7⟩
  have B7 := hB6.trans (hB7.mono hB6.size)
  go_wp2_with fail
  go_ret
  exact ⟨_, _, G5, rfl, .free a, h5.nextB B7, M6.trans ⟨KeptP.of_below B7, fun _ _ g => g⟩⟩
set_option maxRecDepth 100000 in
set_option maxHeartbeats 4000000 in
theorem ans_turn (G : Nat → Prop) (rb : Nat) (C : Ch) (hC : C.Ok) (i : Nat) (hi : i + 4 ≤ 400) (hf : C.Fit i) (wd : ByteArray) (b0 off cap : Nat) (a : Nat) (_nb : ¬ G b0) (w : World) (h : RCh G w rb C) (c0 : w.cell? ⟨b0, off, none⟩ = some (.int .i64 ((a : Nat) : Int))) (t0 : (wd.toList == [112, 97, 121]) = false) (t1 : (wd.toList == [115, 116, 97, 107, 101]) = false) (t2 : (wd.toList == [117, 110, 115, 116, 97, 107, 101]) = false) (t3 : (wd.toList == [97, 99, 99, 117, 115, 101]) = false) (t4 : (wd.toList == [102, 114, 101, 101]) = false) (ty : (wd.toList == [116, 117, 114, 110]) = true) (h8 : a < 8) :
    Calls Tryz.prog 15 #[.pointer (some ⟨rb, 0, none⟩), .agg #[.string wd, .slice (some ⟨b0, off, none⟩) 1 cap]] w (AnsEnd G rb C wTurn [a] w) := by
  have hB4 : Below w.heap.size w (w.alloc (.cells #[.string wd, .slice (some ⟨b0, off, none⟩) 1 cap] 37)) := (Below.refl _ _).alloc (Nat.le_refl _) _
  have s0 : (w.alloc (.cells #[.string wd, .slice (some ⟨b0, off, none⟩) 1 cap] 37)).cell? ⟨w.heap.size, 0, none⟩ = some (.string wd) := by simp
  have s1 : (w.alloc (.cells #[.string wd, .slice (some ⟨b0, off, none⟩) 1 cap] 37)).cell? ⟨w.heap.size, 1, none⟩ = some (.slice (some ⟨b0, off, none⟩) 1 cap) := by simp
  have e0 := stk_old hB4 c0
  obtain ⟨pb, sb, kb, hR⟩ := h.parts
  have hR4 := hR.nextB hB4
  have M4 : Moved G G w (w.alloc (.cells #[.string wd, .slice (some ⟨b0, off, none⟩) 1 cap] 37)) := ⟨KeptP.of_below hB4, fun _ _ g => g⟩
  have zG : ¬ G w.heap.size := fun g => by have := hR.lt _ g; omega
  clear h hR hB4 c0
  go_enter Tryz.func15, Tryz.ntmps15
  go_wp2_with fail
  generalize w.heap.size = na at *
  generalize w.alloc (.cells #[.string wd, .slice (some ⟨b0, off, none⟩) 1 cap] 37) = w4 at *
  refine (rch_turn G rb C hC a (hf.turn (by omega) (by omega) (by omega)) w4 hR4.whole).mono ?_
  rintro e w5 ⟨k, rfl, hk, hB5⟩
  have hB6 : Below w5.heap.size w5 (w5.alloc (.cells #[.int .i64 0, .int .i64 (-1)] 51)) := (Below.refl _ _).alloc (Nat.le_refl _) _
  have f0 : (w5.alloc (.cells #[.int .i64 0, .int .i64 (-1)] 51)).cell? ⟨w5.heap.size, 0, none⟩ = some (.int .i64 0) := by simp
  have R6 := (hR4.nextB hB5).nextB hB6
  have M6 := M4.trans (⟨KeptP.of_below (hB5.trans (hB6.mono hB5.size)), fun _ _ g => g⟩ : Moved G G w4 _)
  clear hR4 hB5 hB6
  have HK := hide hk
  have k0 : 0 ≤ k := (Turn.bkR hC hk).1
  have k9 : k ≤ 9223372036854775807 := by have := (Turn.bkR hC hk).2; omega
  clear hk
  go_wp2_with fail
  generalize w5.alloc (.cells #[.int .i64 0, .int .i64 (-1)] 51) = w6 at *
  generalize w5.heap.size = nf at *
  have B0 : Below w6.heap.size w6 w6 := Below.refl _ _
  go_region_held3 (fun w' => w'.cell? ⟨nf, 0, none⟩ = some (.int .i64 0)) (assumption)
    (first
      | (go_at_call 29; refine (decimal_int k k0 k9 _).mono ?_; rintro e w7 ⟨rfl, hB7⟩; have B7 : Below w6.heap.size w6 w7 := (by first | exact hB7 | exact (below_drewN B0 _).trans (hB7.mono (Nat.le_refl _))); have f7 := stk_old B7 f0)
      | (go_at_call 37; refine (orElse_of 0 (by omega) (by omega) _ _).mono ?_; rintro e w8 ⟨rfl, hB8⟩; have B8 : Below w6.heap.size w6 w8 := (by first | exact B7.trans (hB8.mono B7.size) | exact (below_drewN B7 _).trans (hB8.mono B7.size)); have f8 := stk_old B8 f0))
  go_wp2_with fail
  go_ret
  exact ⟨_, C, G, rfl, .turn a h8 k HK.out, (R6.nextB B8).whole, M6.trans ⟨KeptP.of_below B8, fun _ _ g => g⟩⟩
set_option maxRecDepth 100000 in
set_option maxHeartbeats 4000000 in
theorem ans_turnNo (G : Nat → Prop) (rb : Nat) (C : Ch) (hC : C.Ok) (i : Nat) (_hi : i + 4 ≤ 400) (_hf : C.Fit i) (wd : ByteArray) (b0 off cap : Nat) (a : Nat) (_nb : ¬ G b0) (w : World) (h : RCh G w rb C) (c0 : w.cell? ⟨b0, off, none⟩ = some (.int .i64 ((a : Nat) : Int))) (t0 : (wd.toList == [112, 97, 121]) = false) (t1 : (wd.toList == [115, 116, 97, 107, 101]) = false) (t2 : (wd.toList == [117, 110, 115, 116, 97, 107, 101]) = false) (t3 : (wd.toList == [97, 99, 99, 117, 115, 101]) = false) (t4 : (wd.toList == [102, 114, 101, 101]) = false) (ty : (wd.toList == [116, 117, 114, 110]) = true) (h8 : 8 ≤ a) :
    Calls Tryz.prog 15 #[.pointer (some ⟨rb, 0, none⟩), .agg #[.string wd, .slice (some ⟨b0, off, none⟩) 1 cap]] w (AnsEnd G rb C wTurn [a] w) := by
  have hB4 : Below w.heap.size w (w.alloc (.cells #[.string wd, .slice (some ⟨b0, off, none⟩) 1 cap] 37)) := (Below.refl _ _).alloc (Nat.le_refl _) _
  have s0 : (w.alloc (.cells #[.string wd, .slice (some ⟨b0, off, none⟩) 1 cap] 37)).cell? ⟨w.heap.size, 0, none⟩ = some (.string wd) := by simp
  have s1 : (w.alloc (.cells #[.string wd, .slice (some ⟨b0, off, none⟩) 1 cap] 37)).cell? ⟨w.heap.size, 1, none⟩ = some (.slice (some ⟨b0, off, none⟩) 1 cap) := by simp
  have e0 := stk_old hB4 c0
  obtain ⟨pb, sb, kb, hR⟩ := h.parts
  have hR4 := hR.nextB hB4
  have M4 : Moved G G w (w.alloc (.cells #[.string wd, .slice (some ⟨b0, off, none⟩) 1 cap] 37)) := ⟨KeptP.of_below hB4, fun _ _ g => g⟩
  have zG : ¬ G w.heap.size := fun g => by have := hR.lt _ g; omega
  clear h hR hB4 c0
  go_enter Tryz.func15, Tryz.ntmps15
  go_wp2_with fail
  generalize w.heap.size = na at *
  generalize w.alloc (.cells #[.string wd, .slice (some ⟨b0, off, none⟩) 1 cap] 37) = w4 at *
  refine (rch_turn_bad G rb C hC a (fun g => by have := g.2.2.2; omega) w4 hR4.whole).mono ?_
  rintro e w5 ⟨rfl, hB5⟩
  have hB6 : Below w5.heap.size w5 (w5.alloc (.cells #[.int .i64 2, .int .i64 (-1)] 51)) := (Below.refl _ _).alloc (Nat.le_refl _) _
  have f0 : (w5.alloc (.cells #[.int .i64 2, .int .i64 (-1)] 51)).cell? ⟨w5.heap.size, 0, none⟩ = some (.int .i64 2) := by simp
  have R6 := (hR4.nextB hB5).nextB hB6
  have M6 := M4.trans (⟨KeptP.of_below (hB5.trans (hB6.mono hB5.size)), fun _ _ g => g⟩ : Moved G G w4 _)
  clear hR4 hB5 hB6
  have k0 : (0 : Int) ≤ 0 := by omega
  have k9 : (0 : Int) ≤ 9223372036854775807 := by omega
  go_wp2_with fail
  generalize w5.alloc (.cells #[.int .i64 2, .int .i64 (-1)] 51) = w6 at *
  generalize w5.heap.size = nf at *
  have B0 : Below w6.heap.size w6 w6 := Below.refl _ _
  go_region_held3 (fun w' => w'.cell? ⟨nf, 0, none⟩ = some (.int .i64 2)) (assumption)
    (first
      | (go_at_call 29; refine (decimal_int 0 k0 k9 _).mono ?_; rintro e w7 ⟨rfl, hB7⟩; have B7 : Below w6.heap.size w6 w7 := (by first | exact hB7 | exact (below_drewN B0 _).trans (hB7.mono (Nat.le_refl _))); have f7 := stk_old B7 f0)
      | (go_at_call 37; refine (orElse_of 2 (by omega) (by omega) _ _).mono ?_; rintro e w8 ⟨rfl, hB8⟩; have B8 : Below w6.heap.size w6 w8 := (by first | exact B7.trans (hB8.mono B7.size) | exact (below_drewN B7 _).trans (hB8.mono B7.size)); have f8 := stk_old B8 f0))
  go_wp2_with fail
  go_ret
  exact ⟨_, C, G, rfl, .turnNo a h8, (R6.nextB B8).whole, M6.trans ⟨KeptP.of_below B8, fun _ _ g => g⟩⟩
set_option maxRecDepth 100000 in
set_option maxHeartbeats 4000000 in
theorem ans_bake (G : Nat → Prop) (rb : Nat) (C : Ch) (hC : C.Ok) (i : Nat) (hi : i + 4 ≤ 400) (hf : C.Fit i) (wd : ByteArray) (b0 off cap : Nat) (a : Nat) (_nb : ¬ G b0) (w : World) (h : RCh G w rb C) (c0 : w.cell? ⟨b0, off, none⟩ = some (.int .i64 ((a : Nat) : Int))) (t0 : (wd.toList == [112, 97, 121]) = false) (t1 : (wd.toList == [115, 116, 97, 107, 101]) = false) (t2 : (wd.toList == [117, 110, 115, 116, 97, 107, 101]) = false) (t3 : (wd.toList == [97, 99, 99, 117, 115, 101]) = false) (t4 : (wd.toList == [102, 114, 101, 101]) = false) (t5 : (wd.toList == [116, 117, 114, 110]) = false) (ty : (wd.toList == [98, 97, 107, 101]) = true) (h8 : a < 8) :
    Calls Tryz.prog 15 #[.pointer (some ⟨rb, 0, none⟩), .agg #[.string wd, .slice (some ⟨b0, off, none⟩) 1 cap]] w (AnsEnd G rb C wBake [a] w) := by
  have hB4 : Below w.heap.size w (w.alloc (.cells #[.string wd, .slice (some ⟨b0, off, none⟩) 1 cap] 37)) := (Below.refl _ _).alloc (Nat.le_refl _) _
  have s0 : (w.alloc (.cells #[.string wd, .slice (some ⟨b0, off, none⟩) 1 cap] 37)).cell? ⟨w.heap.size, 0, none⟩ = some (.string wd) := by simp
  have s1 : (w.alloc (.cells #[.string wd, .slice (some ⟨b0, off, none⟩) 1 cap] 37)).cell? ⟨w.heap.size, 1, none⟩ = some (.slice (some ⟨b0, off, none⟩) 1 cap) := by simp
  have e0 := stk_old hB4 c0
  obtain ⟨pb, sb, kb, hR⟩ := h.parts
  have hR4 := hR.nextB hB4
  have M4 : Moved G G w (w.alloc (.cells #[.string wd, .slice (some ⟨b0, off, none⟩) 1 cap] 37)) := ⟨KeptP.of_below hB4, fun _ _ g => g⟩
  have zG : ¬ G w.heap.size := fun g => by have := hR.lt _ g; omega
  clear h hR hB4 c0
  go_enter Tryz.func15, Tryz.ntmps15
  go_wp2_with fail
  generalize w.heap.size = na at *
  generalize w.alloc (.cells #[.string wd, .slice (some ⟨b0, off, none⟩) 1 cap] 37) = w4 at *
  refine (rch_bakeTurn G rb C hC i (by omega) hf a (hf.turn (by omega) (by omega) (by omega)) w4 hR4.whole).mono ?_
  rintro e w5 ⟨k, rfl, hk, G5, h5, M5⟩
  have M6 := M4.trans M5
  have HK := hide hk
  have k0 : 0 ≤ k := (Turn.bkR hC hk).1
  have k9 : k ≤ 9223372036854775807 := by have := (Turn.bkR hC hk).2; omega
  have n0 := (hC.bakeN_bd k).1
  have n9 : C.bakeN k ≤ 9223372036854775807 := by have := (Ch.Went.bake hC hf k).nS; have := hC.p.top; omega
  have z1 : ¬ 9223372036854775807 < (bs (dec k.toNat)).size + (bs [32]).size := by rw [bs_size, bs_size]; have := dec_len19 (n := k.toNat) (by omega); simp only [List.length_cons, List.length_nil]; omega
  have z2 : ¬ 9223372036854775807 < (bs (dec k.toNat) ++ bs [32]).size + (bs (dec (C.bakeN k).toNat)).size := by rw [bs_append, bs_size, bs_size]; have := dec_len19 (n := k.toNat) (by omega); have := dec_len19 (n := (C.bakeN k).toNat) (by omega); simp only [List.length_append, List.length_cons, List.length_nil]; omega
  have ad : ∀ x : World, (Op.stringOp .add (bs (dec k.toNat)) { data := #[32] }).run Tryz.prog x = .ok (.string (bs (dec k.toNat) ++ bs [32])) x := fun x => run_string_add_sum x _ (bs [32]) (by omega)
  have ad2 : ∀ x : World, (Op.stringOp .add (bs (dec k.toNat) ++ bs [32]) (bs (dec (C.bakeN k).toNat))).run Tryz.prog x = .ok (.string (bs (dec k.toNat ++ 32 :: dec (C.bakeN k).toNat))) x := fun x => by rw [run_string_add_sum x _ _ (by omega), two_bs]
  clear hk
  go_wp2_with fail
  refine (decimal_int k k0 k9 w5).mono ?_
  rintro e w6 ⟨rfl, hB6⟩
  go_wp2_with fail
  refine (decimal_int (C.bakeN k) n0 n9 w6).mono ?_
  rintro e w7 ⟨rfl, hB7⟩
  go_wp2_with fail
  refine (orElse_of 0 (by omega) (by omega) _ w7).mono ?_
  rintro e w8 ⟨rfl, hB8⟩
  have B7 := hB6.trans (hB7.mono hB6.size)
  have B8 := B7.trans (hB8.mono B7.size)
  go_wp2_with fail
  go_ret
  exact ⟨_, _, G5, rfl, .bake a h8 k HK.out, h5.nextB B8, M6.trans ⟨KeptP.of_below B8, fun _ _ g => g⟩⟩
set_option maxRecDepth 100000 in
set_option maxHeartbeats 4000000 in
theorem ans_bakeNo (G : Nat → Prop) (rb : Nat) (C : Ch) (hC : C.Ok) (i : Nat) (_hi : i + 4 ≤ 400) (_hf : C.Fit i) (wd : ByteArray) (b0 off cap : Nat) (a : Nat) (_nb : ¬ G b0) (w : World) (h : RCh G w rb C) (c0 : w.cell? ⟨b0, off, none⟩ = some (.int .i64 ((a : Nat) : Int))) (t0 : (wd.toList == [112, 97, 121]) = false) (t1 : (wd.toList == [115, 116, 97, 107, 101]) = false) (t2 : (wd.toList == [117, 110, 115, 116, 97, 107, 101]) = false) (t3 : (wd.toList == [97, 99, 99, 117, 115, 101]) = false) (t4 : (wd.toList == [102, 114, 101, 101]) = false) (t5 : (wd.toList == [116, 117, 114, 110]) = false) (ty : (wd.toList == [98, 97, 107, 101]) = true) (h8 : 8 ≤ a) :
    Calls Tryz.prog 15 #[.pointer (some ⟨rb, 0, none⟩), .agg #[.string wd, .slice (some ⟨b0, off, none⟩) 1 cap]] w (AnsEnd G rb C wBake [a] w) := by
  have hB4 : Below w.heap.size w (w.alloc (.cells #[.string wd, .slice (some ⟨b0, off, none⟩) 1 cap] 37)) := (Below.refl _ _).alloc (Nat.le_refl _) _
  have s0 : (w.alloc (.cells #[.string wd, .slice (some ⟨b0, off, none⟩) 1 cap] 37)).cell? ⟨w.heap.size, 0, none⟩ = some (.string wd) := by simp
  have s1 : (w.alloc (.cells #[.string wd, .slice (some ⟨b0, off, none⟩) 1 cap] 37)).cell? ⟨w.heap.size, 1, none⟩ = some (.slice (some ⟨b0, off, none⟩) 1 cap) := by simp
  have e0 := stk_old hB4 c0
  obtain ⟨pb, sb, kb, hR⟩ := h.parts
  have hR4 := hR.nextB hB4
  have M4 : Moved G G w (w.alloc (.cells #[.string wd, .slice (some ⟨b0, off, none⟩) 1 cap] 37)) := ⟨KeptP.of_below hB4, fun _ _ g => g⟩
  have zG : ¬ G w.heap.size := fun g => by have := hR.lt _ g; omega
  clear h hR hB4 c0
  go_enter Tryz.func15, Tryz.ntmps15
  go_wp2_with fail
  generalize w.heap.size = na at *
  generalize w.alloc (.cells #[.string wd, .slice (some ⟨b0, off, none⟩) 1 cap] 37) = w4 at *
  refine (rch_bakeTurn_bad G rb C hC a (fun g => by have := g.2.2.2; omega) w4 hR4.whole).mono ?_
  rintro e w5 ⟨rfl, hB5⟩
  have R5 := hR4.nextB hB5
  have z1 : ¬ 9223372036854775807 < (bs (dec 0)).size + (bs [32]).size := by decide
  have z2 : ¬ 9223372036854775807 < (bs (dec 0) ++ bs [32]).size + (bs (dec 0)).size := by decide
  have ad : ∀ x : World, (Op.stringOp .add (bs (dec 0)) { data := #[32] }).run Tryz.prog x = .ok (.string (bs (dec 0) ++ bs [32])) x := fun x => run_string_add_sum x _ (bs [32]) (by omega)
  have ad2 : ∀ x : World, (Op.stringOp .add (bs (dec 0) ++ bs [32]) (bs (dec 0))).run Tryz.prog x = .ok (.string (bs (dec 0 ++ 32 :: dec 0))) x := fun x => by rw [run_string_add_sum x _ _ (by omega), two_bs]
  have dz := decimal_int 0 (by omega) (by omega)
  have z0 : (0 : Int).toNat = 0 := rfl
  rw [z0] at dz
  have M5 := M4.trans (⟨KeptP.of_below hB5, fun _ _ g => g⟩ : Moved G G w4 _)
  generalize dec 0 = d0 at *
  clear hR4
  go_wp2_with fail
  refine (dz w5).mono ?_
  rintro e w6 ⟨rfl, hB6⟩
  go_wp2_with fail
  refine (dz w6).mono ?_
  rintro e w7 ⟨rfl, hB7⟩
  go_wp2_with fail
  refine (orElse_of 2 (by omega) (by omega) _ w7).mono ?_
  rintro e w8 ⟨rfl, hB8⟩
  have B7 := hB6.trans (hB7.mono hB6.size)
  have B8 := B7.trans (hB8.mono B7.size)
  go_wp2_with fail
  go_ret
  exact ⟨_, C, G, rfl, .bakeNo a h8, (R5.nextB B8).whole, M5.trans ⟨KeptP.of_below B8, fun _ _ g => g⟩⟩
set_option maxRecDepth 100000 in
set_option maxHeartbeats 4000000 in
theorem ans_hasNo (G : Nat → Prop) (rb : Nat) (C : Ch) (hC : C.Ok) (i : Nat) (_hi : i + 4 ≤ 400) (_hf : C.Fit i) (wd : ByteArray) (b0 off cap : Nat) (a : Nat) (_nb : ¬ G b0) (w : World) (h : RCh G w rb C) (c0 : w.cell? ⟨b0, off, none⟩ = some (.int .i64 ((a : Nat) : Int))) (t0 : (wd.toList == [112, 97, 121]) = false) (t1 : (wd.toList == [115, 116, 97, 107, 101]) = false) (t2 : (wd.toList == [117, 110, 115, 116, 97, 107, 101]) = false) (t3 : (wd.toList == [97, 99, 99, 117, 115, 101]) = false) (t4 : (wd.toList == [102, 114, 101, 101]) = false) (t5 : (wd.toList == [116, 117, 114, 110]) = false) (t6 : (wd.toList == [98, 97, 107, 101]) = false) (ty : (wd.toList == [104, 97, 115]) = true) (h6 : 6 ≤ a) :
    Calls Tryz.prog 15 #[.pointer (some ⟨rb, 0, none⟩), .agg #[.string wd, .slice (some ⟨b0, off, none⟩) 1 cap]] w (AnsEnd G rb C wHas [a] w) := by
  have hB4 : Below w.heap.size w (w.alloc (.cells #[.string wd, .slice (some ⟨b0, off, none⟩) 1 cap] 37)) := (Below.refl _ _).alloc (Nat.le_refl _) _
  have s0 : (w.alloc (.cells #[.string wd, .slice (some ⟨b0, off, none⟩) 1 cap] 37)).cell? ⟨w.heap.size, 0, none⟩ = some (.string wd) := by simp
  have s1 : (w.alloc (.cells #[.string wd, .slice (some ⟨b0, off, none⟩) 1 cap] 37)).cell? ⟨w.heap.size, 1, none⟩ = some (.slice (some ⟨b0, off, none⟩) 1 cap) := by simp
  have e0 := stk_old hB4 c0
  obtain ⟨pb, sb, kb, hR⟩ := h.parts
  have hR4 := hR.nextB hB4
  have M4 : Moved G G w (w.alloc (.cells #[.string wd, .slice (some ⟨b0, off, none⟩) 1 cap] 37)) := ⟨KeptP.of_below hB4, fun _ _ g => g⟩
  have zG : ¬ G w.heap.size := fun g => by have := hR.lt _ g; omega
  clear h hR hB4 c0
  go_enter Tryz.func15, Tryz.ntmps15
  go_wp2_with fail
  generalize w.heap.size = na at *
  generalize w.alloc (.cells #[.string wd, .slice (some ⟨b0, off, none⟩) 1 cap] 37) = w4 at *
  have e9 : (C.p.s a).toNat = 0 := by rw [hC.p.out a (by omega)]; rfl
  have A9 := hide (Ans.has (C := C) a)
  unfold Hid at A9
  rw [e9] at A9
  have A8 := hide A9
  clear A9 e9
  go_wp2_with fail
  go_ret
  exact ⟨dec 0, C, G, rfl, A8.out, hR4.whole, M4⟩
set_option maxRecDepth 100000 in
set_option maxHeartbeats 4000000 in
theorem ans_has (G : Nat → Prop) (rb : Nat) (C : Ch) (hC : C.Ok) (i : Nat) (_hi : i + 4 ≤ 400) (_hf : C.Fit i) (wd : ByteArray) (b0 off cap : Nat) (a : Nat) (_nb : ¬ G b0) (w : World) (h : RCh G w rb C) (c0 : w.cell? ⟨b0, off, none⟩ = some (.int .i64 ((a : Nat) : Int))) (t0 : (wd.toList == [112, 97, 121]) = false) (t1 : (wd.toList == [115, 116, 97, 107, 101]) = false) (t2 : (wd.toList == [117, 110, 115, 116, 97, 107, 101]) = false) (t3 : (wd.toList == [97, 99, 99, 117, 115, 101]) = false) (t4 : (wd.toList == [102, 114, 101, 101]) = false) (t5 : (wd.toList == [116, 117, 114, 110]) = false) (t6 : (wd.toList == [98, 97, 107, 101]) = false) (ty : (wd.toList == [104, 97, 115]) = true) (h6 : a < 6) :
    Calls Tryz.prog 15 #[.pointer (some ⟨rb, 0, none⟩), .agg #[.string wd, .slice (some ⟨b0, off, none⟩) 1 cap]] w (AnsEnd G rb C wHas [a] w) := by
  have hB4 : Below w.heap.size w (w.alloc (.cells #[.string wd, .slice (some ⟨b0, off, none⟩) 1 cap] 37)) := (Below.refl _ _).alloc (Nat.le_refl _) _
  have s0 : (w.alloc (.cells #[.string wd, .slice (some ⟨b0, off, none⟩) 1 cap] 37)).cell? ⟨w.heap.size, 0, none⟩ = some (.string wd) := by simp
  have s1 : (w.alloc (.cells #[.string wd, .slice (some ⟨b0, off, none⟩) 1 cap] 37)).cell? ⟨w.heap.size, 1, none⟩ = some (.slice (some ⟨b0, off, none⟩) 1 cap) := by simp
  have e0 := stk_old hB4 c0
  obtain ⟨pb, sb, kb, hR⟩ := h.parts
  have hR4 := hR.nextB hB4
  have M4 : Moved G G w (w.alloc (.cells #[.string wd, .slice (some ⟨b0, off, none⟩) 1 cap] 37)) := ⟨KeptP.of_below hB4, fun _ _ g => g⟩
  have zG : ¬ G w.heap.size := fun g => by have := hR.lt _ g; omega
  clear h hR hB4 c0
  go_enter Tryz.func15, Tryz.ntmps15
  go_wp2_with fail
  generalize w.heap.size = na at *
  generalize w.alloc (.cells #[.string wd, .slice (some ⟨b0, off, none⟩) 1 cap] 37) = w4 at *
  obtain ⟨pq, hp⟩ := hR4.pur
  have p0 := hp.c0
  have p1 := hp.s a h6
  have k0 := hC.p.pos a
  have k9 : C.p.s a ≤ 9223372036854775807 := by have := hC.p.one a; have := hC.p.le; have := hC.p.top; omega
  have r0 : w4.cell? ⟨rb, 0, none⟩ = some (.pointer (some ⟨pb, 0, none⟩)) := hR4.c0
  have B0 : Below w4.heap.size w4 w4 := Below.refl _ _
  go_region_held3 (fun w' => w'.cell? ⟨na, 1, none⟩ = some (.slice (some ⟨b0, off, none⟩) 1 cap) ∧ w'.cell? ⟨b0, off, none⟩ = some (.int .i64 ((a : Nat) : Int)) ∧ w'.cell? ⟨pb, 0, none⟩ = some (.slice (some ⟨pq, 0, none⟩) 6 6) ∧ w'.cell? ⟨pq, a, none⟩ = some (.int .i64 (C.p.s a)) ∧ w'.cell? ⟨rb, 0, none⟩ = some (.pointer (some ⟨pb, 0, none⟩))) (exact ⟨by assumption, by assumption, by assumption, by assumption, by assumption⟩)
    (first
      | (go_at_call 29; refine (decimal_int (C.p.s a) k0 k9 _).mono ?_; rintro e w5 ⟨rfl, hw5⟩; have Bw5 : Below w4.heap.size w4 w5 := (by first | exact B0.trans (hw5.mono B0.size) | exact (below_drewN B0 _).trans (hw5.mono B0.size)); have fw50 : w5.cell? ⟨na, 1, none⟩ = some (.slice (some ⟨b0, off, none⟩) 1 cap) := stk_old Bw5 s1; have fw51 : w5.cell? ⟨b0, off, none⟩ = some (.int .i64 ((a : Nat) : Int)) := stk_old Bw5 e0; have fw52 : w5.cell? ⟨pb, 0, none⟩ = some (.slice (some ⟨pq, 0, none⟩) 6 6) := stk_old Bw5 p0; have fw53 : w5.cell? ⟨pq, a, none⟩ = some (.int .i64 (C.p.s a)) := stk_old Bw5 p1; have gw50 : w5.cell? ⟨rb, 0, none⟩ = some (.pointer (some ⟨pb, 0, none⟩)) := stk_old Bw5 r0))
  go_wp2_with fail
  go_ret
  exact ⟨_, C, G, rfl, .has a, (hR4.nextB Bw5).whole, M4.trans ⟨KeptP.of_below Bw5, fun _ _ g => g⟩⟩
set_option maxRecDepth 100000 in
set_option maxHeartbeats 4000000 in
theorem ans_staked (G : Nat → Prop) (rb : Nat) (C : Ch) (hC : C.Ok) (i : Nat) (_hi : i + 4 ≤ 400) (_hf : C.Fit i) (wd : ByteArray) (b0 off cap : Nat) (a : Nat) (_nb : ¬ G b0) (w : World) (h : RCh G w rb C) (c0 : w.cell? ⟨b0, off, none⟩ = some (.int .i64 ((a : Nat) : Int))) (t0 : (wd.toList == [112, 97, 121]) = false) (t1 : (wd.toList == [115, 116, 97, 107, 101]) = false) (t2 : (wd.toList == [117, 110, 115, 116, 97, 107, 101]) = false) (t3 : (wd.toList == [97, 99, 99, 117, 115, 101]) = false) (t4 : (wd.toList == [102, 114, 101, 101]) = false) (t5 : (wd.toList == [116, 117, 114, 110]) = false) (t6 : (wd.toList == [98, 97, 107, 101]) = false) (t7 : (wd.toList == [104, 97, 115]) = false) (ty : (wd.toList == [115, 116, 97, 107, 101, 100]) = true) :
    Calls Tryz.prog 15 #[.pointer (some ⟨rb, 0, none⟩), .agg #[.string wd, .slice (some ⟨b0, off, none⟩) 1 cap]] w (AnsEnd G rb C wStaked [a] w) := by
  have hB4 : Below w.heap.size w (w.alloc (.cells #[.string wd, .slice (some ⟨b0, off, none⟩) 1 cap] 37)) := (Below.refl _ _).alloc (Nat.le_refl _) _
  have s0 : (w.alloc (.cells #[.string wd, .slice (some ⟨b0, off, none⟩) 1 cap] 37)).cell? ⟨w.heap.size, 0, none⟩ = some (.string wd) := by simp
  have s1 : (w.alloc (.cells #[.string wd, .slice (some ⟨b0, off, none⟩) 1 cap] 37)).cell? ⟨w.heap.size, 1, none⟩ = some (.slice (some ⟨b0, off, none⟩) 1 cap) := by simp
  have e0 := stk_old hB4 c0
  obtain ⟨pb, sb, kb, hR⟩ := h.parts
  have hR4 := hR.nextB hB4
  have M4 : Moved G G w (w.alloc (.cells #[.string wd, .slice (some ⟨b0, off, none⟩) 1 cap] 37)) := ⟨KeptP.of_below hB4, fun _ _ g => g⟩
  have zG : ¬ G w.heap.size := fun g => by have := hR.lt _ g; omega
  clear h hR hB4 c0
  go_enter Tryz.func15, Tryz.ntmps15
  go_wp2_with fail
  generalize w.heap.size = na at *
  generalize w.alloc (.cells #[.string wd, .slice (some ⟨b0, off, none⟩) 1 cap] 37) = w4 at *
  have k0 := (hC.s.P_bd a).1
  have k9 : (C.s.P a).T ≤ 9223372036854775807 := by have := (hC.s.P_bd a).2; omega
  have r1 : w4.cell? ⟨rb, 1, none⟩ = some (.pointer (some ⟨sb, 0, none⟩)) := hR4.c1
  have B0 : Below w4.heap.size w4 w4 := Below.refl _ _
  go_region_held3 (fun w' => w'.cell? ⟨na, 1, none⟩ = some (.slice (some ⟨b0, off, none⟩) 1 cap) ∧ w'.cell? ⟨b0, off, none⟩ = some (.int .i64 ((a : Nat) : Int)) ∧ w'.cell? ⟨rb, 1, none⟩ = some (.pointer (some ⟨sb, 0, none⟩))) (exact ⟨by assumption, by assumption, by assumption⟩)
    (first
      | (go_at_call 45; obtain ⟨Gs, hGs, _⟩ := hR4.stk; refine (rsk_staked Gs sb C.s hC.s a _ (by first | exact hGs | exact hGs.drewN _)).mono ?_; rintro e w5 ⟨rfl, hw5⟩; have Bw5 : Below w4.heap.size w4 w5 := (by rw [hw5]; first | exact B0 | exact below_drewN B0 _ | exact below_drewN (below_drewN B0 _) _); have fw50 : w5.cell? ⟨na, 1, none⟩ = some (.slice (some ⟨b0, off, none⟩) 1 cap) := stk_old Bw5 s1; have fw51 : w5.cell? ⟨b0, off, none⟩ = some (.int .i64 ((a : Nat) : Int)) := stk_old Bw5 e0; have gw51 : w5.cell? ⟨rb, 1, none⟩ = some (.pointer (some ⟨sb, 0, none⟩)) := stk_old Bw5 r1; clear hw5)
      | (go_at_call 29; refine (decimal_int ((C.s.P a).T) k0 k9 _).mono ?_; rintro e w6 ⟨rfl, hw6⟩; have Bw6 : Below w4.heap.size w4 w6 := (by first | exact Bw5.trans (hw6.mono Bw5.size) | exact (below_drewN Bw5 _).trans (hw6.mono Bw5.size)); have fw60 : w6.cell? ⟨na, 1, none⟩ = some (.slice (some ⟨b0, off, none⟩) 1 cap) := stk_old Bw6 s1; have fw61 : w6.cell? ⟨b0, off, none⟩ = some (.int .i64 ((a : Nat) : Int)) := stk_old Bw6 e0; have gw61 : w6.cell? ⟨rb, 1, none⟩ = some (.pointer (some ⟨sb, 0, none⟩)) := stk_old Bw6 r1))
  go_wp2_with fail
  go_ret
  exact ⟨_, C, G, rfl, .staked a, (hR4.nextB Bw6).whole, M4.trans ⟨KeptP.of_below Bw6, fun _ _ g => g⟩⟩
set_option maxRecDepth 100000 in
set_option maxHeartbeats 4000000 in
theorem ans_value (G : Nat → Prop) (rb : Nat) (C : Ch) (hC : C.Ok) (i : Nat) (_hi : i + 4 ≤ 400) (_hf : C.Fit i) (wd : ByteArray) (b0 off cap : Nat) (a b : Nat) (_nb : ¬ G b0) (w : World) (h : RCh G w rb C) (c0 : w.cell? ⟨b0, off, none⟩ = some (.int .i64 ((a : Nat) : Int))) (c1 : w.cell? ⟨b0, off + 1, none⟩ = some (.int .i64 ((b : Nat) : Int))) (t0 : (wd.toList == [112, 97, 121]) = false) (t1 : (wd.toList == [115, 116, 97, 107, 101]) = false) (t2 : (wd.toList == [117, 110, 115, 116, 97, 107, 101]) = false) (t3 : (wd.toList == [97, 99, 99, 117, 115, 101]) = false) (t4 : (wd.toList == [102, 114, 101, 101]) = false) (t5 : (wd.toList == [116, 117, 114, 110]) = false) (t6 : (wd.toList == [98, 97, 107, 101]) = false) (t7 : (wd.toList == [104, 97, 115]) = false) (t8 : (wd.toList == [115, 116, 97, 107, 101, 100]) = false) (ty : (wd.toList == [118, 97, 108, 117, 101]) = true) :
    Calls Tryz.prog 15 #[.pointer (some ⟨rb, 0, none⟩), .agg #[.string wd, .slice (some ⟨b0, off, none⟩) 2 cap]] w (AnsEnd G rb C wValue [a, b] w) := by
  have hB4 : Below w.heap.size w (w.alloc (.cells #[.string wd, .slice (some ⟨b0, off, none⟩) 2 cap] 37)) := (Below.refl _ _).alloc (Nat.le_refl _) _
  have s0 : (w.alloc (.cells #[.string wd, .slice (some ⟨b0, off, none⟩) 2 cap] 37)).cell? ⟨w.heap.size, 0, none⟩ = some (.string wd) := by simp
  have s1 : (w.alloc (.cells #[.string wd, .slice (some ⟨b0, off, none⟩) 2 cap] 37)).cell? ⟨w.heap.size, 1, none⟩ = some (.slice (some ⟨b0, off, none⟩) 2 cap) := by simp
  have e0 := stk_old hB4 c0
  have e1 := stk_old hB4 c1
  obtain ⟨pb, sb, kb, hR⟩ := h.parts
  have hR4 := hR.nextB hB4
  have M4 : Moved G G w (w.alloc (.cells #[.string wd, .slice (some ⟨b0, off, none⟩) 2 cap] 37)) := ⟨KeptP.of_below hB4, fun _ _ g => g⟩
  have zG : ¬ G w.heap.size := fun g => by have := hR.lt _ g; omega
  clear h hR hB4 c0 c1
  go_enter Tryz.func15, Tryz.ntmps15
  go_wp2_with fail
  generalize w.heap.size = na at *
  generalize w.alloc (.cells #[.string wd, .slice (some ⟨b0, off, none⟩) 2 cap] 37) = w4 at *
  have k0 := (hC.s.pok b).val0 a
  have k9 : (C.s.P b).val a ≤ 9223372036854775807 := by have := (hC.s.pok b).val1 a; have := (hC.s.P_bd b).2; omega
  have r1 : w4.cell? ⟨rb, 1, none⟩ = some (.pointer (some ⟨sb, 0, none⟩)) := hR4.c1
  have B0 : Below w4.heap.size w4 w4 := Below.refl _ _
  go_region_held3 (fun w' => w'.cell? ⟨na, 1, none⟩ = some (.slice (some ⟨b0, off, none⟩) 2 cap) ∧ w'.cell? ⟨b0, off, none⟩ = some (.int .i64 ((a : Nat) : Int)) ∧ w'.cell? ⟨b0, off + 1, none⟩ = some (.int .i64 ((b : Nat) : Int)) ∧ w'.cell? ⟨rb, 1, none⟩ = some (.pointer (some ⟨sb, 0, none⟩))) (exact ⟨by assumption, by assumption, by assumption, by assumption⟩)
    (first
      | (go_at_call 46; obtain ⟨Gs, hGs, _⟩ := hR4.stk; refine (rsk_value Gs sb C.s hC.s a b _ (by first | exact hGs | exact hGs.drewN _)).mono ?_; rintro e w5 ⟨rfl, m5, hw5⟩; have Bw5 : Below w4.heap.size w4 w5 := (by rw [hw5]; first | exact B0 | exact below_drewN B0 _ | exact below_drewN (below_drewN B0 _) _); have fw50 : w5.cell? ⟨na, 1, none⟩ = some (.slice (some ⟨b0, off, none⟩) 2 cap) := stk_old Bw5 s1; have fw51 : w5.cell? ⟨b0, off, none⟩ = some (.int .i64 ((a : Nat) : Int)) := stk_old Bw5 e0; have fw52 : w5.cell? ⟨b0, off + 1, none⟩ = some (.int .i64 ((b : Nat) : Int)) := stk_old Bw5 e1; have gw51 : w5.cell? ⟨rb, 1, none⟩ = some (.pointer (some ⟨sb, 0, none⟩)) := stk_old Bw5 r1; clear hw5)
      | (go_at_call 29; refine (decimal_int ((C.s.P b).val a) k0 k9 _).mono ?_; rintro e w6 ⟨rfl, hw6⟩; have Bw6 : Below w4.heap.size w4 w6 := (by first | exact Bw5.trans (hw6.mono Bw5.size) | exact (below_drewN Bw5 _).trans (hw6.mono Bw5.size)); have fw60 : w6.cell? ⟨na, 1, none⟩ = some (.slice (some ⟨b0, off, none⟩) 2 cap) := stk_old Bw6 s1; have fw61 : w6.cell? ⟨b0, off, none⟩ = some (.int .i64 ((a : Nat) : Int)) := stk_old Bw6 e0; have fw62 : w6.cell? ⟨b0, off + 1, none⟩ = some (.int .i64 ((b : Nat) : Int)) := stk_old Bw6 e1; have gw61 : w6.cell? ⟨rb, 1, none⟩ = some (.pointer (some ⟨sb, 0, none⟩)) := stk_old Bw6 r1))
  go_wp2_with fail
  go_ret
  exact ⟨_, C, G, rfl, .value a b, (hR4.nextB Bw6).whole, M4.trans ⟨KeptP.of_below Bw6, fun _ _ g => g⟩⟩
set_option maxRecDepth 100000 in
set_option maxHeartbeats 4000000 in
theorem ans_waits (G : Nat → Prop) (rb : Nat) (C : Ch) (hC : C.Ok) (i : Nat) (hi : i + 4 ≤ 400) (hf : C.Fit i) (wd : ByteArray) (b0 off cap : Nat) (a b n : Nat) (_nb : ¬ G b0) (w : World) (h : RCh G w rb C) (c0 : w.cell? ⟨b0, off, none⟩ = some (.int .i64 ((a : Nat) : Int))) (c1 : w.cell? ⟨b0, off + 1, none⟩ = some (.int .i64 ((b : Nat) : Int))) (c2 : w.cell? ⟨b0, off + 2, none⟩ = some (.int .i64 ((n : Nat) : Int))) (t0 : (wd.toList == [112, 97, 121]) = false) (t1 : (wd.toList == [115, 116, 97, 107, 101]) = false) (t2 : (wd.toList == [117, 110, 115, 116, 97, 107, 101]) = false) (t3 : (wd.toList == [97, 99, 99, 117, 115, 101]) = false) (t4 : (wd.toList == [102, 114, 101, 101]) = false) (t5 : (wd.toList == [116, 117, 114, 110]) = false) (t6 : (wd.toList == [98, 97, 107, 101]) = false) (t7 : (wd.toList == [104, 97, 115]) = false) (t8 : (wd.toList == [115, 116, 97, 107, 101, 100]) = false) (t9 : (wd.toList == [118, 97, 108, 117, 101]) = false) (ty : (wd.toList == [119, 97, 105, 116, 115]) = true) :
    Calls Tryz.prog 15 #[.pointer (some ⟨rb, 0, none⟩), .agg #[.string wd, .slice (some ⟨b0, off, none⟩) 3 cap]] w (AnsEnd G rb C wWaits [a, b, n] w) := by
  have hB4 : Below w.heap.size w (w.alloc (.cells #[.string wd, .slice (some ⟨b0, off, none⟩) 3 cap] 37)) := (Below.refl _ _).alloc (Nat.le_refl _) _
  have s0 : (w.alloc (.cells #[.string wd, .slice (some ⟨b0, off, none⟩) 3 cap] 37)).cell? ⟨w.heap.size, 0, none⟩ = some (.string wd) := by simp
  have s1 : (w.alloc (.cells #[.string wd, .slice (some ⟨b0, off, none⟩) 3 cap] 37)).cell? ⟨w.heap.size, 1, none⟩ = some (.slice (some ⟨b0, off, none⟩) 3 cap) := by simp
  have e0 := stk_old hB4 c0
  have e1 := stk_old hB4 c1
  have e2 := stk_old hB4 c2
  obtain ⟨pb, sb, kb, hR⟩ := h.parts
  have hR4 := hR.nextB hB4
  have M4 : Moved G G w (w.alloc (.cells #[.string wd, .slice (some ⟨b0, off, none⟩) 3 cap] 37)) := ⟨KeptP.of_below hB4, fun _ _ g => g⟩
  have zG : ¬ G w.heap.size := fun g => by have := hR.lt _ g; omega
  clear h hR hB4 c0 c1 c2
  go_enter Tryz.func15, Tryz.ntmps15
  go_wp2_with fail
  generalize w.heap.size = na at *
  generalize w.alloc (.cells #[.string wd, .slice (some ⟨b0, off, none⟩) 3 cap] 37) = w4 at *
  have k0 := (hC.s.wok b n).val0 a
  have k9 : (C.s.W b n).val a ≤ 9223372036854775807 := by have := (hC.s.wok b n).val1 a; have := (hC.s.wok b n).t1; omega
  have r1 : w4.cell? ⟨rb, 1, none⟩ = some (.pointer (some ⟨sb, 0, none⟩)) := hR4.c1
  have B0 : Below w4.heap.size w4 w4 := Below.refl _ _
  go_region_held3 (fun w' => w'.cell? ⟨na, 1, none⟩ = some (.slice (some ⟨b0, off, none⟩) 3 cap) ∧ w'.cell? ⟨b0, off, none⟩ = some (.int .i64 ((a : Nat) : Int)) ∧ w'.cell? ⟨b0, off + 1, none⟩ = some (.int .i64 ((b : Nat) : Int)) ∧ w'.cell? ⟨b0, off + 2, none⟩ = some (.int .i64 ((n : Nat) : Int)) ∧ w'.cell? ⟨rb, 1, none⟩ = some (.pointer (some ⟨sb, 0, none⟩))) (exact ⟨by assumption, by assumption, by assumption, by assumption, by assumption⟩)
    (first
      | (go_at_call 47; obtain ⟨Gs, hGs, _⟩ := hR4.stk; refine (rsk_waits Gs sb C.s hC.s (by have := hf.k; omega) a b n _ (by first | exact hGs | exact hGs.drewN _)).mono ?_; rintro e w5 ⟨rfl, m5, hw5⟩; have Bw5 : Below w4.heap.size w4 w5 := (by rw [hw5]; first | exact B0 | exact below_drewN B0 _ | exact below_drewN (below_drewN B0 _) _); have fw50 : w5.cell? ⟨na, 1, none⟩ = some (.slice (some ⟨b0, off, none⟩) 3 cap) := stk_old Bw5 s1; have fw51 : w5.cell? ⟨b0, off, none⟩ = some (.int .i64 ((a : Nat) : Int)) := stk_old Bw5 e0; have fw52 : w5.cell? ⟨b0, off + 1, none⟩ = some (.int .i64 ((b : Nat) : Int)) := stk_old Bw5 e1; have fw53 : w5.cell? ⟨b0, off + 2, none⟩ = some (.int .i64 ((n : Nat) : Int)) := stk_old Bw5 e2; have gw51 : w5.cell? ⟨rb, 1, none⟩ = some (.pointer (some ⟨sb, 0, none⟩)) := stk_old Bw5 r1; clear hw5)
      | (go_at_call 29; refine (decimal_int ((C.s.W b n).val a) k0 k9 _).mono ?_; rintro e w6 ⟨rfl, hw6⟩; have Bw6 : Below w4.heap.size w4 w6 := (by first | exact Bw5.trans (hw6.mono Bw5.size) | exact (below_drewN Bw5 _).trans (hw6.mono Bw5.size)); have fw60 : w6.cell? ⟨na, 1, none⟩ = some (.slice (some ⟨b0, off, none⟩) 3 cap) := stk_old Bw6 s1; have fw61 : w6.cell? ⟨b0, off, none⟩ = some (.int .i64 ((a : Nat) : Int)) := stk_old Bw6 e0; have fw62 : w6.cell? ⟨b0, off + 1, none⟩ = some (.int .i64 ((b : Nat) : Int)) := stk_old Bw6 e1; have fw63 : w6.cell? ⟨b0, off + 2, none⟩ = some (.int .i64 ((n : Nat) : Int)) := stk_old Bw6 e2; have gw61 : w6.cell? ⟨rb, 1, none⟩ = some (.pointer (some ⟨sb, 0, none⟩)) := stk_old Bw6 r1))
  go_wp2_with fail
  go_ret
  exact ⟨_, C, G, rfl, .waits a b n, (hR4.nextB Bw6).whole, M4.trans ⟨KeptP.of_below Bw6, fun _ _ g => g⟩⟩
set_option maxRecDepth 100000 in
set_option maxHeartbeats 4000000 in
theorem ans_cycle (G : Nat → Prop) (rb : Nat) (C : Ch) (hC : C.Ok) (i : Nat) (hi : i + 4 ≤ 400) (hf : C.Fit i) (wd : ByteArray) (sa : Option Addr) (cap : Nat) (w : World) (h : RCh G w rb C)  (t0 : (wd.toList == [112, 97, 121]) = false) (t1 : (wd.toList == [115, 116, 97, 107, 101]) = false) (t2 : (wd.toList == [117, 110, 115, 116, 97, 107, 101]) = false) (t3 : (wd.toList == [97, 99, 99, 117, 115, 101]) = false) (t4 : (wd.toList == [102, 114, 101, 101]) = false) (t5 : (wd.toList == [116, 117, 114, 110]) = false) (t6 : (wd.toList == [98, 97, 107, 101]) = false) (t7 : (wd.toList == [104, 97, 115]) = false) (t8 : (wd.toList == [115, 116, 97, 107, 101, 100]) = false) (t9 : (wd.toList == [118, 97, 108, 117, 101]) = false) (t10 : (wd.toList == [119, 97, 105, 116, 115]) = false) (ty : (wd.toList == [99, 121, 99, 108, 101]) = true) :
    Calls Tryz.prog 15 #[.pointer (some ⟨rb, 0, none⟩), .agg #[.string wd, .slice sa 0 cap]] w (AnsEnd G rb C wCycle [] w) := by
  have hB4 : Below w.heap.size w (w.alloc (.cells #[.string wd, .slice sa 0 cap] 37)) := (Below.refl _ _).alloc (Nat.le_refl _) _
  have s0 : (w.alloc (.cells #[.string wd, .slice sa 0 cap] 37)).cell? ⟨w.heap.size, 0, none⟩ = some (.string wd) := by simp
  obtain ⟨pb, sb, kb, hR⟩ := h.parts
  have hR4 := hR.nextB hB4
  have M4 : Moved G G w (w.alloc (.cells #[.string wd, .slice sa 0 cap] 37)) := ⟨KeptP.of_below hB4, fun _ _ g => g⟩
  have zG : ¬ G w.heap.size := fun g => by have := hR.lt _ g; omega
  clear h hR hB4
  go_enter Tryz.func15, Tryz.ntmps15
  go_wp2_with fail
  generalize w.heap.size = na at *
  generalize w.alloc (.cells #[.string wd, .slice sa 0 cap] 37) = w4 at *
  refine (cycle_of G rb C hC i hi hf w4 hR4.whole).mono ?_
  rintro e w5 ⟨rfl, C5, G5, hc, h5, M5⟩
  have HC := hide hc
  clear hc
  go_wp2_with fail
  go_ret
  exact ⟨okT, C5, G5, rfl, .cycle C5 HC.out, h5, M4.trans M5⟩
set_option maxRecDepth 100000 in
set_option maxHeartbeats 4000000 in
theorem ans_supply (G : Nat → Prop) (rb : Nat) (C : Ch) (hC : C.Ok) (i : Nat) (_hi : i + 4 ≤ 400) (_hf : C.Fit i) (wd : ByteArray) (sa : Option Addr) (cap : Nat) (w : World) (h : RCh G w rb C)  (t0 : (wd.toList == [112, 97, 121]) = false) (t1 : (wd.toList == [115, 116, 97, 107, 101]) = false) (t2 : (wd.toList == [117, 110, 115, 116, 97, 107, 101]) = false) (t3 : (wd.toList == [97, 99, 99, 117, 115, 101]) = false) (t4 : (wd.toList == [102, 114, 101, 101]) = false) (t5 : (wd.toList == [116, 117, 114, 110]) = false) (t6 : (wd.toList == [98, 97, 107, 101]) = false) (t7 : (wd.toList == [104, 97, 115]) = false) (t8 : (wd.toList == [115, 116, 97, 107, 101, 100]) = false) (t9 : (wd.toList == [118, 97, 108, 117, 101]) = false) (t10 : (wd.toList == [119, 97, 105, 116, 115]) = false) (t11 : (wd.toList == [99, 121, 99, 108, 101]) = false) (ty : (wd.toList == [115, 117, 112, 112, 108, 121]) = true) :
    Calls Tryz.prog 15 #[.pointer (some ⟨rb, 0, none⟩), .agg #[.string wd, .slice sa 0 cap]] w (AnsEnd G rb C wSupply [] w) := by
  have hB4 : Below w.heap.size w (w.alloc (.cells #[.string wd, .slice sa 0 cap] 37)) := (Below.refl _ _).alloc (Nat.le_refl _) _
  have s0 : (w.alloc (.cells #[.string wd, .slice sa 0 cap] 37)).cell? ⟨w.heap.size, 0, none⟩ = some (.string wd) := by simp
  obtain ⟨pb, sb, kb, hR⟩ := h.parts
  have hR4 := hR.nextB hB4
  have M4 : Moved G G w (w.alloc (.cells #[.string wd, .slice sa 0 cap] 37)) := ⟨KeptP.of_below hB4, fun _ _ g => g⟩
  have zG : ¬ G w.heap.size := fun g => by have := hR.lt _ g; omega
  clear h hR hB4
  obtain ⟨pq, hp⟩ := hR4.pur
  have p1 := hp.c1
  have r0 := hR4.c0
  go_enter Tryz.func15, Tryz.ntmps15
  go_wp2_with fail
  generalize w.heap.size = na at *
  generalize w.alloc (.cells #[.string wd, .slice sa 0 cap] 37) = w4 at *
  refine (decimal_int C.p.S (by have := hC.pos; omega) (by have := hC.p.top; omega) w4).mono ?_
  rintro e w5 ⟨rfl, hB5⟩
  go_wp2_with fail
  go_ret
  exact ⟨_, C, G, rfl, .supply, (hR4.nextB hB5).whole, M4.trans ⟨KeptP.of_below hB5, fun _ _ g => g⟩⟩
set_option maxRecDepth 100000 in
set_option maxHeartbeats 4000000 in
theorem ans_bonus (G : Nat → Prop) (rb : Nat) (C : Ch) (hC : C.Ok) (i : Nat) (_hi : i + 4 ≤ 400) (_hf : C.Fit i) (wd : ByteArray) (sa : Option Addr) (cap : Nat) (w : World) (h : RCh G w rb C)  (t0 : (wd.toList == [112, 97, 121]) = false) (t1 : (wd.toList == [115, 116, 97, 107, 101]) = false) (t2 : (wd.toList == [117, 110, 115, 116, 97, 107, 101]) = false) (t3 : (wd.toList == [97, 99, 99, 117, 115, 101]) = false) (t4 : (wd.toList == [102, 114, 101, 101]) = false) (t5 : (wd.toList == [116, 117, 114, 110]) = false) (t6 : (wd.toList == [98, 97, 107, 101]) = false) (t7 : (wd.toList == [104, 97, 115]) = false) (t8 : (wd.toList == [115, 116, 97, 107, 101, 100]) = false) (t9 : (wd.toList == [118, 97, 108, 117, 101]) = false) (t10 : (wd.toList == [119, 97, 105, 116, 115]) = false) (t11 : (wd.toList == [99, 121, 99, 108, 101]) = false) (t12 : (wd.toList == [115, 117, 112, 112, 108, 121]) = false) (ty : (wd.toList == [98, 111, 110, 117, 115]) = true) :
    Calls Tryz.prog 15 #[.pointer (some ⟨rb, 0, none⟩), .agg #[.string wd, .slice sa 0 cap]] w (AnsEnd G rb C wBonus [] w) := by
  have hB4 : Below w.heap.size w (w.alloc (.cells #[.string wd, .slice sa 0 cap] 37)) := (Below.refl _ _).alloc (Nat.le_refl _) _
  have s0 : (w.alloc (.cells #[.string wd, .slice sa 0 cap] 37)).cell? ⟨w.heap.size, 0, none⟩ = some (.string wd) := by simp
  obtain ⟨pb, sb, kb, hR⟩ := h.parts
  have hR4 := hR.nextB hB4
  have M4 : Moved G G w (w.alloc (.cells #[.string wd, .slice sa 0 cap] 37)) := ⟨KeptP.of_below hB4, fun _ _ g => g⟩
  have zG : ¬ G w.heap.size := fun g => by have := hR.lt _ g; omega
  clear h hR hB4
  have r6 := hR4.c6
  go_enter Tryz.func15, Tryz.ntmps15
  go_wp2_with fail
  generalize w.heap.size = na at *
  generalize w.alloc (.cells #[.string wd, .slice sa 0 cap] 37) = w4 at *
  refine (decimal_int C.bon hC.bon.1 (by have := hC.bon.2; omega) w4).mono ?_
  rintro e w5 ⟨rfl, hB5⟩
  go_wp2_with fail
  go_ret
  exact ⟨_, C, G, rfl, .bonus, (hR4.nextB hB5).whole, M4.trans ⟨KeptP.of_below hB5, fun _ _ g => g⟩⟩
end Go.Proofs.YtmbfdhekplnoaaaGreatDoor

namespace Go.Proofs.YtmbfdhekplnoaaaGreatDoor
open Go.RowKit

set_option maxRecDepth 100000 in
set_option maxHeartbeats 4000000 in
theorem ans_at (G : Nat → Prop) (rb : Nat) (C : Ch) (_hC : C.Ok) (i : Nat) (hi : i + 4 ≤ 400) (hf : C.Fit i) (wd : ByteArray) (sa : Option Addr) (cap : Nat) (w : World) (h : RCh G w rb C)  (t0 : (wd.toList == [112, 97, 121]) = false) (t1 : (wd.toList == [115, 116, 97, 107, 101]) = false) (t2 : (wd.toList == [117, 110, 115, 116, 97, 107, 101]) = false) (t3 : (wd.toList == [97, 99, 99, 117, 115, 101]) = false) (t4 : (wd.toList == [102, 114, 101, 101]) = false) (t5 : (wd.toList == [116, 117, 114, 110]) = false) (t6 : (wd.toList == [98, 97, 107, 101]) = false) (t7 : (wd.toList == [104, 97, 115]) = false) (t8 : (wd.toList == [115, 116, 97, 107, 101, 100]) = false) (t9 : (wd.toList == [118, 97, 108, 117, 101]) = false) (t10 : (wd.toList == [119, 97, 105, 116, 115]) = false) (t11 : (wd.toList == [99, 121, 99, 108, 101]) = false) (t12 : (wd.toList == [115, 117, 112, 112, 108, 121]) = false) (t13 : (wd.toList == [98, 111, 110, 117, 115]) = false) :
    Calls Tryz.prog 15 #[.pointer (some ⟨rb, 0, none⟩), .agg #[.string wd, .slice sa 0 cap]] w (AnsEnd G rb C wAt [] w) := by
  have hB4 : Below w.heap.size w (w.alloc (.cells #[.string wd, .slice sa 0 cap] 37)) := (Below.refl _ _).alloc (Nat.le_refl _) _
  have s0 : (w.alloc (.cells #[.string wd, .slice sa 0 cap] 37)).cell? ⟨w.heap.size, 0, none⟩ = some (.string wd) := by simp
  obtain ⟨pb, sb, kb, hR⟩ := h.parts
  have hR4 := hR.nextB hB4
  have M4 : Moved G G w (w.alloc (.cells #[.string wd, .slice sa 0 cap] 37)) := ⟨KeptP.of_below hB4, fun _ _ g => g⟩
  have zG : ¬ G w.heap.size := fun g => by have := hR.lt _ g; omega
  clear h hR hB4
  go_enter Tryz.func15, Tryz.ntmps15
  go_wp2_with fail
  generalize w.heap.size = na at *
  generalize w.alloc (.cells #[.string wd, .slice sa 0 cap] 37) = w4 at *
  have cy : C.cyc < 1000000000 := by have y := hf.y; have v := hf.v; omega
  have cl : C.lev < 1000000000 := by have y := hf.y; have v := hf.v; omega
  have z1 : ¬ 9223372036854775807 < (bs (dec C.cyc)).size + (bs [32]).size := by rw [bs_size, bs_size]; have := dec_len19 (n := C.cyc) (by omega); simp only [List.length_cons, List.length_nil]; omega
  have z2 : ¬ 9223372036854775807 < (bs (dec C.cyc) ++ bs [32]).size + (bs (dec C.lev)).size := by rw [bs_append, bs_size, bs_size]; have := dec_len19 (n := C.cyc) (by omega); have := dec_len19 (n := C.lev) (by omega); simp only [List.length_append, List.length_cons, List.length_nil]; omega
  have ad : ∀ x : World, (Op.stringOp .add (bs (dec C.cyc)) { data := #[32] }).run Tryz.prog x = .ok (.string (bs (dec C.cyc) ++ bs [32])) x := fun x => run_string_add_sum x _ (bs [32]) (by omega)
  have ad2 : ∀ x : World, (Op.stringOp .add (bs (dec C.cyc) ++ bs [32]) (bs (dec C.lev))).run Tryz.prog x = .ok (.string (bs (dec C.cyc ++ 32 :: dec C.lev))) x := fun x => by rw [run_string_add_sum x _ _ (by omega), two_bs]
  have r4 : w4.cell? ⟨rb, 4, none⟩ = some (.int .i64 C.cyc) := hR4.c4
  have r5 : w4.cell? ⟨rb, 5, none⟩ = some (.int .i64 C.lev) := hR4.c5
  have B0 : Below w4.heap.size w4 w4 := Below.refl _ _
  go_region_held3 (fun w' => w'.cell? ⟨rb, 4, none⟩ = some (.int .i64 C.cyc) ∧ w'.cell? ⟨rb, 5, none⟩ = some (.int .i64 C.lev)) (exact ⟨by assumption, by assumption⟩)
    (first
      | (go_at_call_of 29 (Value.int .i64 ((C.cyc : Nat) : Int)); refine (decimal_of C.cyc (by omega) _).mono ?_; rintro e w5 ⟨rfl, hw5⟩; have Bw5 : Below w4.heap.size w4 w5 := (by first | exact B0.trans (hw5.mono B0.size) | exact (below_drewN B0 _).trans (hw5.mono B0.size)); have gw54 : w5.cell? ⟨rb, 4, none⟩ = some (.int .i64 C.cyc) := stk_old Bw5 r4; have gw55 : w5.cell? ⟨rb, 5, none⟩ = some (.int .i64 C.lev) := stk_old Bw5 r5)
      | (go_at_call_of 29 (Value.int .i64 ((C.lev : Nat) : Int)); refine (decimal_of C.lev (by omega) _).mono ?_; rintro e w6 ⟨rfl, hw6⟩; have Bw6 : Below w4.heap.size w4 w6 := (by first | exact Bw5.trans (hw6.mono Bw5.size) | exact (below_drewN Bw5 _).trans (hw6.mono Bw5.size)); have gw64 : w6.cell? ⟨rb, 4, none⟩ = some (.int .i64 C.cyc) := stk_old Bw6 r4; have gw65 : w6.cell? ⟨rb, 5, none⟩ = some (.int .i64 C.lev) := stk_old Bw6 r5))
  go_wp2_with fail
  go_ret
  exact ⟨_, C, G, rfl, .at, (hR4.nextB Bw6).whole, M4.trans ⟨KeptP.of_below Bw6, fun _ _ g => g⟩⟩
end Go.Proofs.YtmbfdhekplnoaaaGreatDoor

namespace Go.Proofs.YtmbfdhekplnoaaaGreatDoor
open Go.RowKit

theorem RowV.cells {w : World} {a : Option Addr} {n cap : Nat} {X : Nat → Int} (R : RowV w (.slice a n cap) n X) (h0 : 0 < n) (hX : ∀ i, i < n → 0 ≤ X i) : ∃ b off, a = some ⟨b, off, none⟩ ∧ ∀ i, i < n → w.cell? ⟨b, off + i, none⟩ = some (.int .i64 (((X i).toNat : Nat) : Int)) := by
  obtain ⟨a', cap', e, g⟩ := R
  cases e
  obtain ⟨b, off, e, _, _⟩ := g 0 h0
  refine ⟨b, off, e, fun i hi => ?_⟩
  obtain ⟨b', off', e', _, c⟩ := g i hi
  rw [e] at e'
  cases e'
  rw [c, Int.toNat_of_nonneg (hX i hi)]
theorem ans_of (G : Nat → Prop) (rb : Nat) (C : Ch) (hC : C.Ok) (i : Nat) (hi : i + 4 ≤ 400) (hf : C.Fit i) (wd : ByteArray) (a : Option Addr) (n cap : Nat) (X : Nat → Int) (hc : IsCmd wd.toList (natsOf X n)) (hX : ∀ i, i < n → 0 ≤ X i) (nb : 0 < n → ∀ b off, a = some ⟨b, off, none⟩ → ¬ G b) (w : World) (h : RCh G w rb C) (R : RowV w (.slice a n cap) n X) :
    Calls Tryz.prog 15 #[.pointer (some ⟨rb, 0, none⟩), .agg #[.string wd, .slice a n cap]] w (AnsEnd G rb C wd.toList (natsOf X n) w) := by
  obtain ⟨f, hfm, hl, _⟩ := hc.form
  rw [natsOf_len] at hl
  rcases formL_words hfm with ⟨hw, rfl⟩ | ⟨hw, rfl⟩ | ⟨hw, rfl⟩ | ⟨hw, rfl⟩ | ⟨hw, rfl⟩ | ⟨hw, rfl⟩ | ⟨hw, rfl⟩ | ⟨hw, rfl⟩ | ⟨hw, rfl⟩ | ⟨hw, rfl⟩ | ⟨hw, rfl⟩ | ⟨hw, rfl⟩ | ⟨hw, rfl⟩ | ⟨hw, rfl⟩ | ⟨hw, rfl⟩
  · obtain rfl : n = 3 := hl
    have ty : (wd.toList == [112, 97, 121]) = true := by rw [hw]; decide
    rw [hw]
    obtain ⟨b0, off, ea, cc⟩ := R.cells (by omega) hX
    have nb0 := nb (by omega) b0 off ea
    subst ea
    exact ans_pay G rb C hC i hi hf wd b0 off cap _ _ _ nb0 w h (cc 0 (by omega)) (cc 1 (by omega)) (cc 2 (by omega)) ty
  · obtain rfl : n = 3 := hl
    have t0 : (wd.toList == [112, 97, 121]) = false := by rw [hw]; decide
    have ty : (wd.toList == [115, 116, 97, 107, 101]) = true := by rw [hw]; decide
    rw [hw]
    obtain ⟨b0, off, ea, cc⟩ := R.cells (by omega) hX
    have nb0 := nb (by omega) b0 off ea
    subst ea
    exact ans_stake G rb C hC i hi hf wd b0 off cap _ _ _ nb0 w h (cc 0 (by omega)) (cc 1 (by omega)) (cc 2 (by omega)) t0 ty
  · obtain rfl : n = 3 := hl
    have t0 : (wd.toList == [112, 97, 121]) = false := by rw [hw]; decide
    have t1 : (wd.toList == [115, 116, 97, 107, 101]) = false := by rw [hw]; decide
    have ty : (wd.toList == [117, 110, 115, 116, 97, 107, 101]) = true := by rw [hw]; decide
    rw [hw]
    obtain ⟨b0, off, ea, cc⟩ := R.cells (by omega) hX
    have nb0 := nb (by omega) b0 off ea
    subst ea
    exact ans_unstake G rb C hC i hi hf wd b0 off cap _ _ _ nb0 w h (cc 0 (by omega)) (cc 1 (by omega)) (cc 2 (by omega)) t0 t1 ty
  · obtain rfl : n = 3 := hl
    have t0 : (wd.toList == [112, 97, 121]) = false := by rw [hw]; decide
    have t1 : (wd.toList == [115, 116, 97, 107, 101]) = false := by rw [hw]; decide
    have t2 : (wd.toList == [117, 110, 115, 116, 97, 107, 101]) = false := by rw [hw]; decide
    have t3 : (wd.toList == [97, 99, 99, 117, 115, 101]) = false := by rw [hw]; decide
    have t4 : (wd.toList == [102, 114, 101, 101]) = false := by rw [hw]; decide
    have t5 : (wd.toList == [116, 117, 114, 110]) = false := by rw [hw]; decide
    have t6 : (wd.toList == [98, 97, 107, 101]) = false := by rw [hw]; decide
    have t7 : (wd.toList == [104, 97, 115]) = false := by rw [hw]; decide
    have t8 : (wd.toList == [115, 116, 97, 107, 101, 100]) = false := by rw [hw]; decide
    have t9 : (wd.toList == [118, 97, 108, 117, 101]) = false := by rw [hw]; decide
    have ty : (wd.toList == [119, 97, 105, 116, 115]) = true := by rw [hw]; decide
    rw [hw]
    obtain ⟨b0, off, ea, cc⟩ := R.cells (by omega) hX
    have nb0 := nb (by omega) b0 off ea
    subst ea
    exact ans_waits G rb C hC i hi hf wd b0 off cap _ _ _ nb0 w h (cc 0 (by omega)) (cc 1 (by omega)) (cc 2 (by omega)) t0 t1 t2 t3 t4 t5 t6 t7 t8 t9 ty
  · obtain rfl : n = 4 := hl
    have t0 : (wd.toList == [112, 97, 121]) = false := by rw [hw]; decide
    have t1 : (wd.toList == [115, 116, 97, 107, 101]) = false := by rw [hw]; decide
    have t2 : (wd.toList == [117, 110, 115, 116, 97, 107, 101]) = false := by rw [hw]; decide
    have ty : (wd.toList == [97, 99, 99, 117, 115, 101]) = true := by rw [hw]; decide
    rw [hw]
    obtain ⟨b0, off, ea, cc⟩ := R.cells (by omega) hX
    have nb0 := nb (by omega) b0 off ea
    subst ea
    exact ans_accuse G rb C hC i hi hf wd b0 off cap _ _ _ _ nb0 w h (cc 0 (by omega)) (cc 1 (by omega)) (cc 2 (by omega)) (cc 3 (by omega)) t0 t1 t2 ty
  · obtain rfl : n = 1 := hl
    have t0 : (wd.toList == [112, 97, 121]) = false := by rw [hw]; decide
    have t1 : (wd.toList == [115, 116, 97, 107, 101]) = false := by rw [hw]; decide
    have t2 : (wd.toList == [117, 110, 115, 116, 97, 107, 101]) = false := by rw [hw]; decide
    have t3 : (wd.toList == [97, 99, 99, 117, 115, 101]) = false := by rw [hw]; decide
    have ty : (wd.toList == [102, 114, 101, 101]) = true := by rw [hw]; decide
    rw [hw]
    obtain ⟨b0, off, ea, cc⟩ := R.cells (by omega) hX
    have nb0 := nb (by omega) b0 off ea
    subst ea
    exact ans_free G rb C hC i hi hf wd b0 off cap _ nb0 w h (cc 0 (by omega)) t0 t1 t2 t3 ty
  · obtain rfl : n = 1 := hl
    have t0 : (wd.toList == [112, 97, 121]) = false := by rw [hw]; decide
    have t1 : (wd.toList == [115, 116, 97, 107, 101]) = false := by rw [hw]; decide
    have t2 : (wd.toList == [117, 110, 115, 116, 97, 107, 101]) = false := by rw [hw]; decide
    have t3 : (wd.toList == [97, 99, 99, 117, 115, 101]) = false := by rw [hw]; decide
    have t4 : (wd.toList == [102, 114, 101, 101]) = false := by rw [hw]; decide
    have t5 : (wd.toList == [116, 117, 114, 110]) = false := by rw [hw]; decide
    have ty : (wd.toList == [98, 97, 107, 101]) = true := by rw [hw]; decide
    rw [hw]
    obtain ⟨b0, off, ea, cc⟩ := R.cells (by omega) hX
    have nb0 := nb (by omega) b0 off ea
    subst ea
    by_cases hb : (X 0).toNat < 8
    · exact ans_bake G rb C hC i hi hf wd b0 off cap _ nb0 w h (cc 0 (by omega)) t0 t1 t2 t3 t4 t5 ty hb
    · exact ans_bakeNo G rb C hC i hi hf wd b0 off cap _ nb0 w h (cc 0 (by omega)) t0 t1 t2 t3 t4 t5 ty (Nat.le_of_not_lt hb)
  · obtain rfl : n = 1 := hl
    have t0 : (wd.toList == [112, 97, 121]) = false := by rw [hw]; decide
    have t1 : (wd.toList == [115, 116, 97, 107, 101]) = false := by rw [hw]; decide
    have t2 : (wd.toList == [117, 110, 115, 116, 97, 107, 101]) = false := by rw [hw]; decide
    have t3 : (wd.toList == [97, 99, 99, 117, 115, 101]) = false := by rw [hw]; decide
    have t4 : (wd.toList == [102, 114, 101, 101]) = false := by rw [hw]; decide
    have ty : (wd.toList == [116, 117, 114, 110]) = true := by rw [hw]; decide
    rw [hw]
    obtain ⟨b0, off, ea, cc⟩ := R.cells (by omega) hX
    have nb0 := nb (by omega) b0 off ea
    subst ea
    by_cases hb : (X 0).toNat < 8
    · exact ans_turn G rb C hC i hi hf wd b0 off cap _ nb0 w h (cc 0 (by omega)) t0 t1 t2 t3 t4 ty hb
    · exact ans_turnNo G rb C hC i hi hf wd b0 off cap _ nb0 w h (cc 0 (by omega)) t0 t1 t2 t3 t4 ty (Nat.le_of_not_lt hb)
  · obtain rfl : n = 1 := hl
    have t0 : (wd.toList == [112, 97, 121]) = false := by rw [hw]; decide
    have t1 : (wd.toList == [115, 116, 97, 107, 101]) = false := by rw [hw]; decide
    have t2 : (wd.toList == [117, 110, 115, 116, 97, 107, 101]) = false := by rw [hw]; decide
    have t3 : (wd.toList == [97, 99, 99, 117, 115, 101]) = false := by rw [hw]; decide
    have t4 : (wd.toList == [102, 114, 101, 101]) = false := by rw [hw]; decide
    have t5 : (wd.toList == [116, 117, 114, 110]) = false := by rw [hw]; decide
    have t6 : (wd.toList == [98, 97, 107, 101]) = false := by rw [hw]; decide
    have ty : (wd.toList == [104, 97, 115]) = true := by rw [hw]; decide
    rw [hw]
    obtain ⟨b0, off, ea, cc⟩ := R.cells (by omega) hX
    have nb0 := nb (by omega) b0 off ea
    subst ea
    by_cases hb : (X 0).toNat < 6
    · exact ans_has G rb C hC i hi hf wd b0 off cap _ nb0 w h (cc 0 (by omega)) t0 t1 t2 t3 t4 t5 t6 ty hb
    · exact ans_hasNo G rb C hC i hi hf wd b0 off cap _ nb0 w h (cc 0 (by omega)) t0 t1 t2 t3 t4 t5 t6 ty (Nat.le_of_not_lt hb)
  · obtain rfl : n = 1 := hl
    have t0 : (wd.toList == [112, 97, 121]) = false := by rw [hw]; decide
    have t1 : (wd.toList == [115, 116, 97, 107, 101]) = false := by rw [hw]; decide
    have t2 : (wd.toList == [117, 110, 115, 116, 97, 107, 101]) = false := by rw [hw]; decide
    have t3 : (wd.toList == [97, 99, 99, 117, 115, 101]) = false := by rw [hw]; decide
    have t4 : (wd.toList == [102, 114, 101, 101]) = false := by rw [hw]; decide
    have t5 : (wd.toList == [116, 117, 114, 110]) = false := by rw [hw]; decide
    have t6 : (wd.toList == [98, 97, 107, 101]) = false := by rw [hw]; decide
    have t7 : (wd.toList == [104, 97, 115]) = false := by rw [hw]; decide
    have ty : (wd.toList == [115, 116, 97, 107, 101, 100]) = true := by rw [hw]; decide
    rw [hw]
    obtain ⟨b0, off, ea, cc⟩ := R.cells (by omega) hX
    have nb0 := nb (by omega) b0 off ea
    subst ea
    exact ans_staked G rb C hC i hi hf wd b0 off cap _ nb0 w h (cc 0 (by omega)) t0 t1 t2 t3 t4 t5 t6 t7 ty
  · obtain rfl : n = 2 := hl
    have t0 : (wd.toList == [112, 97, 121]) = false := by rw [hw]; decide
    have t1 : (wd.toList == [115, 116, 97, 107, 101]) = false := by rw [hw]; decide
    have t2 : (wd.toList == [117, 110, 115, 116, 97, 107, 101]) = false := by rw [hw]; decide
    have t3 : (wd.toList == [97, 99, 99, 117, 115, 101]) = false := by rw [hw]; decide
    have t4 : (wd.toList == [102, 114, 101, 101]) = false := by rw [hw]; decide
    have t5 : (wd.toList == [116, 117, 114, 110]) = false := by rw [hw]; decide
    have t6 : (wd.toList == [98, 97, 107, 101]) = false := by rw [hw]; decide
    have t7 : (wd.toList == [104, 97, 115]) = false := by rw [hw]; decide
    have t8 : (wd.toList == [115, 116, 97, 107, 101, 100]) = false := by rw [hw]; decide
    have ty : (wd.toList == [118, 97, 108, 117, 101]) = true := by rw [hw]; decide
    rw [hw]
    obtain ⟨b0, off, ea, cc⟩ := R.cells (by omega) hX
    have nb0 := nb (by omega) b0 off ea
    subst ea
    exact ans_value G rb C hC i hi hf wd b0 off cap _ _ nb0 w h (cc 0 (by omega)) (cc 1 (by omega)) t0 t1 t2 t3 t4 t5 t6 t7 t8 ty
  · obtain rfl : n = 0 := hl
    have t0 : (wd.toList == [112, 97, 121]) = false := by rw [hw]; decide
    have t1 : (wd.toList == [115, 116, 97, 107, 101]) = false := by rw [hw]; decide
    have t2 : (wd.toList == [117, 110, 115, 116, 97, 107, 101]) = false := by rw [hw]; decide
    have t3 : (wd.toList == [97, 99, 99, 117, 115, 101]) = false := by rw [hw]; decide
    have t4 : (wd.toList == [102, 114, 101, 101]) = false := by rw [hw]; decide
    have t5 : (wd.toList == [116, 117, 114, 110]) = false := by rw [hw]; decide
    have t6 : (wd.toList == [98, 97, 107, 101]) = false := by rw [hw]; decide
    have t7 : (wd.toList == [104, 97, 115]) = false := by rw [hw]; decide
    have t8 : (wd.toList == [115, 116, 97, 107, 101, 100]) = false := by rw [hw]; decide
    have t9 : (wd.toList == [118, 97, 108, 117, 101]) = false := by rw [hw]; decide
    have t10 : (wd.toList == [119, 97, 105, 116, 115]) = false := by rw [hw]; decide
    have ty : (wd.toList == [99, 121, 99, 108, 101]) = true := by rw [hw]; decide
    rw [hw]
    exact ans_cycle G rb C hC i hi hf wd a cap w h t0 t1 t2 t3 t4 t5 t6 t7 t8 t9 t10 ty
  · obtain rfl : n = 0 := hl
    have t0 : (wd.toList == [112, 97, 121]) = false := by rw [hw]; decide
    have t1 : (wd.toList == [115, 116, 97, 107, 101]) = false := by rw [hw]; decide
    have t2 : (wd.toList == [117, 110, 115, 116, 97, 107, 101]) = false := by rw [hw]; decide
    have t3 : (wd.toList == [97, 99, 99, 117, 115, 101]) = false := by rw [hw]; decide
    have t4 : (wd.toList == [102, 114, 101, 101]) = false := by rw [hw]; decide
    have t5 : (wd.toList == [116, 117, 114, 110]) = false := by rw [hw]; decide
    have t6 : (wd.toList == [98, 97, 107, 101]) = false := by rw [hw]; decide
    have t7 : (wd.toList == [104, 97, 115]) = false := by rw [hw]; decide
    have t8 : (wd.toList == [115, 116, 97, 107, 101, 100]) = false := by rw [hw]; decide
    have t9 : (wd.toList == [118, 97, 108, 117, 101]) = false := by rw [hw]; decide
    have t10 : (wd.toList == [119, 97, 105, 116, 115]) = false := by rw [hw]; decide
    have t11 : (wd.toList == [99, 121, 99, 108, 101]) = false := by rw [hw]; decide
    have ty : (wd.toList == [115, 117, 112, 112, 108, 121]) = true := by rw [hw]; decide
    rw [hw]
    exact ans_supply G rb C hC i hi hf wd a cap w h t0 t1 t2 t3 t4 t5 t6 t7 t8 t9 t10 t11 ty
  · obtain rfl : n = 0 := hl
    have t0 : (wd.toList == [112, 97, 121]) = false := by rw [hw]; decide
    have t1 : (wd.toList == [115, 116, 97, 107, 101]) = false := by rw [hw]; decide
    have t2 : (wd.toList == [117, 110, 115, 116, 97, 107, 101]) = false := by rw [hw]; decide
    have t3 : (wd.toList == [97, 99, 99, 117, 115, 101]) = false := by rw [hw]; decide
    have t4 : (wd.toList == [102, 114, 101, 101]) = false := by rw [hw]; decide
    have t5 : (wd.toList == [116, 117, 114, 110]) = false := by rw [hw]; decide
    have t6 : (wd.toList == [98, 97, 107, 101]) = false := by rw [hw]; decide
    have t7 : (wd.toList == [104, 97, 115]) = false := by rw [hw]; decide
    have t8 : (wd.toList == [115, 116, 97, 107, 101, 100]) = false := by rw [hw]; decide
    have t9 : (wd.toList == [118, 97, 108, 117, 101]) = false := by rw [hw]; decide
    have t10 : (wd.toList == [119, 97, 105, 116, 115]) = false := by rw [hw]; decide
    have t11 : (wd.toList == [99, 121, 99, 108, 101]) = false := by rw [hw]; decide
    have t12 : (wd.toList == [115, 117, 112, 112, 108, 121]) = false := by rw [hw]; decide
    have ty : (wd.toList == [98, 111, 110, 117, 115]) = true := by rw [hw]; decide
    rw [hw]
    exact ans_bonus G rb C hC i hi hf wd a cap w h t0 t1 t2 t3 t4 t5 t6 t7 t8 t9 t10 t11 t12 ty
  · obtain rfl : n = 0 := hl
    have t0 : (wd.toList == [112, 97, 121]) = false := by rw [hw]; decide
    have t1 : (wd.toList == [115, 116, 97, 107, 101]) = false := by rw [hw]; decide
    have t2 : (wd.toList == [117, 110, 115, 116, 97, 107, 101]) = false := by rw [hw]; decide
    have t3 : (wd.toList == [97, 99, 99, 117, 115, 101]) = false := by rw [hw]; decide
    have t4 : (wd.toList == [102, 114, 101, 101]) = false := by rw [hw]; decide
    have t5 : (wd.toList == [116, 117, 114, 110]) = false := by rw [hw]; decide
    have t6 : (wd.toList == [98, 97, 107, 101]) = false := by rw [hw]; decide
    have t7 : (wd.toList == [104, 97, 115]) = false := by rw [hw]; decide
    have t8 : (wd.toList == [115, 116, 97, 107, 101, 100]) = false := by rw [hw]; decide
    have t9 : (wd.toList == [118, 97, 108, 117, 101]) = false := by rw [hw]; decide
    have t10 : (wd.toList == [119, 97, 105, 116, 115]) = false := by rw [hw]; decide
    have t11 : (wd.toList == [99, 121, 99, 108, 101]) = false := by rw [hw]; decide
    have t12 : (wd.toList == [115, 117, 112, 112, 108, 121]) = false := by rw [hw]; decide
    have t13 : (wd.toList == [98, 111, 110, 117, 115]) = false := by rw [hw]; decide
    rw [hw]
    exact ans_at G rb C hC i hi hf wd a cap w h t0 t1 t2 t3 t4 t5 t6 t7 t8 t9 t10 t11 t12 t13
end Go.Proofs.YtmbfdhekplnoaaaGreatDoor
