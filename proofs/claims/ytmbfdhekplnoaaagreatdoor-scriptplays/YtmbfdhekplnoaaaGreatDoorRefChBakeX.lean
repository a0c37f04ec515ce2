/-
  bakehouseref1.BendOf by its contract: a bend's height as the document tells it.
  The document's rate (bakehouseref2.RateOf), by its contract.
  The document's chain by its contracts: a block.
-/
import Derived.Test.YtmbfdhekplnoaaaGreatDoorProgChainTellsX
import Derived.Test.YtmbfdhekplnoaaaGreatDoorIssueMathX
import Derived.Test.YtmbfdhekplnoaaaGreatDoorRefChTurn
import Derived.Deep.CutRange
namespace Go.Proofs.YtmbfdhekplnoaaaGreatDoor
open Go.RowKit

theorem fall_eq (n w : Int) (hw : 0 < w) : (-n) / w = -((n + w - 1) / w) := by
  have a := Int.mul_ediv_add_emod (n + w - 1) w
  have b := Int.emod_nonneg (n + w - 1) (Int.ne_of_gt hw)
  have c := Int.emod_lt_of_pos (n + w - 1) hw
  generalize (n + w - 1) / w = q at *
  generalize (n + w - 1) % w = r at *
  rw [Int.mul_comm] at a
  have h1 : -q ≤ -n / w := by rw [Int.le_ediv_iff_mul_le hw, Int.neg_mul]; omega
  have h2 : -n / w < -q + 1 := by rw [Int.ediv_lt_iff_lt_mul hw, Int.add_mul, Int.neg_mul]; omega
  omega
theorem seg_fall (px py qx qy x : Int) (hx : px < qx) : seg px py qx qy x = py - ((py - qy) * (x - px) + (qx - px) - 1) / (qx - px) := by
  unfold seg
  have e : (qy - py) * (x - px) = -((py - qy) * (x - px)) := by rw [← Int.neg_mul]; congr 1; omega
  rw [e, fall_eq _ _ (by omega)]
  omega

set_option maxRecDepth 100000 in
set_option maxHeartbeats 4000000 in
theorem bendOf_last (b off len cap : Nat) (X Y : Nat → Int) (x : Int) (w : World) (h2 : 2 ≤ len) (h8 : len ≤ 8) (hP : Pts w b off len X Y) (hx : ∀ j, j < len → X j ≤ x) :
    Calls Tryz.prog 223 #[.slice (some ⟨b, off, none⟩) len cap, .int .i64 x] w fun e w' => e = .returned (.int .i64 (Y (len - 1))) ∧ Below w.heap.size w w' := by
  obtain ⟨c0, c1⟩ := hP 0 (by omega)
  simp only [Nat.zero_mul, Nat.add_zero] at c0 c1
  have hx0 := hx 0 (by omega)
  go_enter Tryz.func223, Tryz.ntmps223
  go_wp2
  clear c0 c1 hx0
  go_loop [5] (fun i => ∃ k : Nat, 1 ≤ k ∧ k ≤ len ∧ i = .int .i64 k) (fun i => len - (intOf i).toNat)
  case atStart => exact ⟨1, by omega, by omega, rfl⟩
  case round =>
    obtain ⟨k, hk1, hk, rfl⟩ := hrel
    by_cases hlt : k < len
    · have c0 := (hP k hlt).1
      have hxk := hx k hlt
      clear hP hx
      go_wp2
      go_round
      case rel => exact ⟨k + 1, by omega, by omega, by go_num⟩
      case measure => simp [intOf]; omega
    · obtain ⟨_, d1⟩ := hP (len - 1) (by omega)
      clear hP hx
      go_wp2
      go_ret
      exact ⟨rfl, Below.refl _ _⟩

set_option maxRecDepth 100000 in
set_option maxHeartbeats 4000000 in
theorem bendOf_mid (b off len cap i : Nat) (X Y : Nat → Int) (x : Int) (w : World) (hb : b < w.heap.size) (h8 : len ≤ 8) (hP : Pts w b off len X Y) (hG : ∀ i, i < len → Good X Y i) (hi : i + 1 < len) (hx : ∀ j, j ≤ i → X j ≤ x) (hx1 : x < X (i + 1)) :
    Calls Tryz.prog 223 #[.slice (some ⟨b, off, none⟩) len cap, .int .i64 x] w fun e w' => e = .returned (.int .i64 (seg (X i) (Y i) (X (i + 1)) (Y (i + 1)) x)) ∧ Below w.heap.size w w' := by
  obtain ⟨c0, c1⟩ := hP 0 (by omega)
  simp only [Nat.zero_mul, Nat.add_zero] at c0 c1
  have hx0 := hx 0 (by omega)
  go_enter Tryz.func223, Tryz.ntmps223
  go_wp2
  clear c0 c1 hx0
  go_loop [5] (fun j => ∃ k : Nat, 1 ≤ k ∧ k ≤ i + 1 ∧ j = .int .i64 k) (fun i => len - (intOf i).toNat)
  case atStart => exact ⟨1, by omega, by omega, rfl⟩
  case round =>
    obtain ⟨k, hk1, hk, rfl⟩ := hrel
    have hlen : k < len := by omega
    by_cases hlt : k < i + 1
    · have c0 := (hP k hlen).1
      have hxk := hx k (by omega)
      clear hP hx hG
      go_wp2
      go_round
      case rel => exact ⟨k + 1, by omega, by omega, by go_num⟩
      case measure => simp [intOf]; omega
    · obtain rfl : k = i + 1 := by omega
      obtain ⟨g1, g2, g3, g4, _⟩ := hG i (by omega)
      obtain ⟨k1, k2, k3, k4, _⟩ := hG (i + 1) hi
      obtain ⟨d0, d1⟩ := hP (i + 1) hi
      obtain ⟨f0, f1⟩ := hP i (by omega)
      have hxi := hx i (Nat.le_refl _)
      have sf := seg_fall (X i) (Y i) (X (i + 1)) (Y (i + 1)) x (by omega)
      have hil : i < len := by omega
      have hwz : ¬ X (i + 1) - X i = 0 := by omega
      clear hP hx hG
      by_cases hy : Y i ≤ Y (i + 1)
      · obtain ⟨m0, m1⟩ := mul_bd (Y (i + 1) - Y i) (x - X i) (by omega) (by omega) (by omega) (by omega)
        have m2 : 0 ≤ (Y (i + 1) - Y i) * (x - X i) := Int.mul_nonneg (by omega) (by omega)
        obtain ⟨b0, b1⟩ := quo_bd ((Y (i + 1) - Y i) * (x - X i)) (X (i + 1) - X i) (by omega) m0 m1
        clear sf
        go_wp2
        go_quiet (fail)
        go_wp2
        go_quiet (fail)
        go_wp2
        go_quiet (fail)
        go_wp2
        go_ret
        exact ⟨rfl, below_drewN (below_drewN (below_drewN ((Below.refl _ _).alloc (Nat.le_refl _) _) _) _) _⟩
      · obtain ⟨m0, m1⟩ := mul_bd (Y i - Y (i + 1)) (x - X i) (by omega) (by omega) (by omega) (by omega)
        have m2 : 0 ≤ (Y i - Y (i + 1)) * (x - X i) := Int.mul_nonneg (by omega) (by omega)
        have n1 : (Y i - Y (i + 1)) * (x - X i) + (X (i + 1) - X i) - 1 ≤ 1000000000000 := by
          have : (Y i - Y (i + 1)) * (x - X i) ≤ 1000000 * (x - X i) := Int.mul_le_mul_of_nonneg_right (by omega) (by omega)
          omega
        obtain ⟨b0, b1⟩ := quo_bd ((Y i - Y (i + 1)) * (x - X i) + (X (i + 1) - X i) - 1) (X (i + 1) - X i) (by omega) (by omega) n1
        have SF := hide sf
        clear sf
        go_wp2
        go_quiet (fail)
        go_wp2
        go_quiet (fail)
        go_wp2
        go_quiet (fail)
        go_wp2
        go_ret
        exact ⟨by rw [SF.out]; rfl, below_drewN (below_drewN (below_drewN ((Below.refl _ _).alloc (Nat.le_refl _) _) _) _) _⟩
end Go.Proofs.YtmbfdhekplnoaaaGreatDoor

namespace Go.Proofs.YtmbfdhekplnoaaaGreatDoor
open Go.RowKit

theorem ref_bend4 (r : Int) (h0 : 0 ≤ r) (h1 : r ≤ 1000000) (w : World) (t : TypeId) :
    Calls Tryz.prog 223 #[.slice (some ⟨w.heap.size, 0, none⟩) 4 4, .int .i64 r] (w.alloc (.cells four4 t)) fun e w' => e = .returned (.int .i64 (bendR r)) ∧ Below w.heap.size w w' := by
  have B0 : Below w.heap.size w (w.alloc (.cells four4 t)) := (Below.refl _ _).alloc (Nat.le_refl _) _
  rcases at4 h0 h1 with ⟨hx, e⟩ | ⟨i, hi, hx, hx1, e⟩
  · rw [← e]
    exact (bendOf_last w.heap.size 0 4 4 X4 Y4 r _ (by omega) (by omega) (pts4 w t) hx).mono fun e w' ⟨a, b⟩ => ⟨a, B0.trans (b.mono B0.size)⟩
  · rw [← e]
    exact (bendOf_mid w.heap.size 0 4 4 i X4 Y4 r _ (by simp) (by omega) (pts4 w t) good4 hi hx hx1).mono fun e w' ⟨a, b⟩ => ⟨a, B0.trans (b.mono B0.size)⟩
theorem ref_rate (r b : Int) (h : RateOk r b) (w : World) :
    Calls Tryz.prog 163 #[.int .i64 r, .int .i64 b] w fun e w' => e = .returned (.int .i64 (bendR r + b)) ∧ Below w.heap.size w w' := by
  obtain ⟨⟨r0, r1⟩, b0, b1⟩ := h
  have P := ref_bend4 r r0 r1 w 299
  obtain ⟨c0, c1⟩ := bendR_bd r0 r1
  generalize bendR r = q at *
  go_enter Tryz.func163, Tryz.ntmps163
  go_wp2_with (go_at_call 223; refine P.mono ?_; rintro e w1 ⟨rfl, hB⟩)
  go_ret
  exact ⟨rfl, hB⟩
end Go.Proofs.YtmbfdhekplnoaaaGreatDoor

namespace Go.Proofs.YtmbfdhekplnoaaaGreatDoor
open Go.RowKit

theorem Ch.Ok.rew_is {C : Ch} (h : C.Ok) : rewardN C.p.S (bendR C.ratio + C.bon) = C.rew := by
  unfold Ch.rew Ch.rate rateN
  rw [if_pos h.rateOk]
theorem St.addC_nn (x : St) (n : Int) : 0 ≤ x.addC n := by unfold St.addC; repeat' split <;> omega
theorem Sk.addC_nn (S : Sk) (b n : Int) : 0 ≤ S.addC b n := by
  unfold Sk.addC
  split
  · exact St.addC_nn _ _
  · omega
def EndsAs (cb : Nat) (C : Ch) : Prop := ∀ (F : Nat → Prop) (w : World), RCh F w cb C → Calls Tryz.prog 167 #[.pointer (some ⟨cb, 0, none⟩)] w fun e w' => e = .returned (.tuple #[]) ∧ ∃ F', RCh F' w' cb C.ended ∧ Moved F F' w w'

set_option maxRecDepth 100000 in
set_option maxHeartbeats 2000000 in
theorem rch_bake_own (F : Nat → Prop) (cb : Nat) (C : Ch) (hC : C.Ok) (hv : C.lev ≤ 900) (b r : Int) (hr : TurnOk C.cyc C.lev r) (w : World) (h : RCh F w cb C) (T : ∀ k, Turn 3 C.pic C.seed C.cyc C.lev r k → k = b) (EN : EndsAs cb { C.paid b with lev := C.lev + 1 }) :
    Calls Tryz.prog 110 #[.pointer (some ⟨cb, 0, none⟩), .int .i64 b, .int .i64 r] w fun e w' => e = .returned (.tuple #[.int .i64 (C.bakeN b), .int .i64 0]) ∧ ∃ F', RCh F' w' cb (C.bake b) ∧ Moved F F' w w' := by
  have rb := hC.rew_bd
  have top := hC.p.top
  have pos := hC.pos
  obtain ⟨rb0, rb1⟩ := rb
  have RI := hide hC.rew_is
  have PS := hide (C.paid_same b)
  go_enter Tryz.func110, Tryz.ntmps110
  go_wp2_with fail
  refine (rch_turn F cb C hC r hr w h).mono ?_
  rintro e w1 ⟨k, rfl, hk, hB1⟩
  obtain rfl : k = b := T k hk
  have ne : (k != k) = false := by simp
  have h1 := h.nextB hB1
  clear hk h T
  go_wp2_with fail
  have hB2 : Below w1.heap.size w1 (w1.alloc (.cells #[.int .i64 0, .int .i64 (-1)] 51)) := (Below.refl _ _).alloc (Nat.le_refl _) _
  have h2 := h1.nextB hB2
  have L2 : Below w.heap.size w (w1.alloc (.cells #[.int .i64 0, .int .i64 (-1)] 51)) := hB1.trans (hB2.mono hB1.size)
  clear hB2 h1 hB1
  generalize w1.alloc (.cells #[.int .i64 0, .int .i64 (-1)] 51) = w2 at *
  generalize w1.heap.size = n1 at *
  have hh := h2
  obtain ⟨tag, pb, pq, sb, kb, v, M, hF, g2⟩ := hh
  have c0 := g2.c0
  have p1 := g2.p.c1
  have c6 := g2.c6
  clear g2
  go_region_held3 (fun w' => w'.cell? ⟨cb, 0, none⟩ = some (.pointer (some ⟨pb, 0, none⟩)) ∧ w'.cell? ⟨pb, 1, none⟩ = some (.int .i64 C.p.S) ∧ w'.cell? ⟨cb, 6, none⟩ = some (.int .i64 C.bon)) (exact ⟨by assumption, by assumption, by assumption⟩)
    (first
      | (go_at_call 164; refine (rch_ratio F cb C hC _ (by first | exact h2 | exact h2.drewN _)).mono ?_; rintro e w3 ⟨rfl, hB3⟩; have d0 := was_cell hB3 c0; have d1 := was_cell hB3 p1; have d6 := was_cell hB3 c6; have h3 : RCh F w3 cb C := (by first | exact h2.nextB hB3 | exact (h2.drewN _).nextB hB3); have L3 : Below w.heap.size w w3 := (by first | exact L2.trans (hB3.mono L2.size) | exact (below_drewN L2 _).trans (hB3.mono L2.size)))
      | (go_at_call 163; refine (ref_rate C.ratio C.bon hC.rateOk _).mono ?_; rintro e w4 ⟨rfl, hB4⟩; have e0 := was_cell hB4 d0; have e1 := was_cell hB4 d1; have e6 := was_cell hB4 d6; have h4 : RCh F w4 cb C := (by first | exact h3.nextB hB4 | exact (h3.drewN _).nextB hB4); have L4 : Below w.heap.size w w4 := (by first | exact L3.trans (hB4.mono L3.size) | exact (below_drewN L3 _).trans (hB4.mono L3.size)))
      | (go_at_call 162; refine (ref_reward C.p.S (bendR C.ratio + C.bon) _).mono ?_; rintro e w5 ⟨rfl, hB5⟩; have f0 := was_cell hB5 e0; have f1 := was_cell hB5 e1; have f6 := was_cell hB5 e6; have h5 : RCh F w5 cb C := (by first | exact h4.nextB hB5 | exact (h4.drewN _).nextB hB5); have L5 : Below w.heap.size w w5 := (by first | exact L4.trans (hB5.mono L4.size) | exact (below_drewN L4 _).trans (hB5.mono L4.size)); rw [RI.out]))
  clear h2 h3 h4 L2 L3 L4 c0 p1 c6 d0 d1 d6 e0 e1 e6 hB3 hB4 hB5 hF
  have M5 : Moved F F w w5 := ⟨KeptP.of_below L5, fun _ _ g => g⟩
  clear L5 f0 f1 f6
  obtain ⟨tag, pb, pq, sb, kb, v, M, hF, g5⟩ := h5
  have c0 := g5.c0
  have p1 := g5.p.c1
  have c1 := g5.c1
  go_upto_if 53 with fail
  go_cut [10] from 54 to 67 (fun nv wx => nv = .int .i64 (C.bakeN k) ∧ ∃ F1, RCh F1 wx cb (C.paid k) ∧ Moved F F1 w wx)
  case first =>
    by_cases k1 : 1125899906842624 < C.p.S + C.rew
    · have np : ¬ C.Payable k := fun g => by have := g.1; omega
      have PE := hide (show C.paid k = C from if_neg np)
      have NE := hide (show C.bakeN k = 0 from if_neg np)
      clear np
      go_wp2_with fail
      go_meet
      case rel => exact ⟨by rw [NE.out], F, by rw [PE.out]; exact ⟨tag, pb, pq, sb, kb, v, M, hF, g5⟩, M5⟩
    · have AD := rs_add (fun i => tag i = 3) sb C.s hC.s k C.rew w5 g5.s
      have k2 : ¬ C.p.S + C.rew > 1125899906842624 := k1
      go_wp2_with fail
      refine AD.mono ?_
      rintro e w6 ⟨rfl, hs6, M6⟩
      have g6 := g5.stakes hs6 M6
      have MM := retag_moved hF M6 (by decide)
      by_cases a0 : C.s.addC k C.rew = 0
      · have py : C.Payable k := ⟨by omega, a0⟩
        have PE := hide (show C.paid k = { C with p := C.p.grow C.rew, s := C.s.add k C.rew } from if_pos py)
        have NE := hide (show C.bakeN k = C.rew from if_pos py)
        have ng : ¬ C.s.addC k C.rew > 0 := by omega
        have d0 := g6.c0
        have GR := rp_grow pb pq C.p hC.p C.rew w6 g6.p
        clear py a0
        generalize C.s.addC k C.rew = ac at *
        go_wp2_with fail
        refine GR.mono ?_
        rintro e w7 ⟨rfl, hp7, hK7⟩
        have g7 := g6.purse hp7 hK7
        have M7 := g6.movedP (F := fun i => retag tag 3 (fun i => tag i = 3) i ≠ 0) (fun _ => Iff.rfl) hK7
        go_wp2_with fail
        go_meet
        case rel => exact ⟨by rw [NE.out], _, by rw [PE.out]; exact ⟨_, pb, pq, sb, kb, v, M, fun _ => Iff.rfl, g7⟩, (M5.trans MM).trans M7⟩
      · have np : ¬ C.Payable k := fun g => a0 g.2
        have PE := hide (show C.paid k = C from if_neg np)
        have NE := hide (show C.bakeN k = 0 from if_neg np)
        have SE := hide (Sk.add_same a0)
        have ng : C.s.addC k C.rew > 0 := by have := Sk.addC_nn C.s k C.rew; omega
        rw [SE.out] at g6
        clear np a0
        generalize C.s.addC k C.rew = ac at *
        go_wp2_with fail
        go_meet
        case rel => exact ⟨by rw [NE.out], _, by rw [PE.out]; exact ⟨_, pb, pq, sb, kb, v, M, fun _ => Iff.rfl, g6⟩, M5.trans MM⟩
  case rest =>
    obtain ⟨rfl, F1, h1, M1⟩ := hcut
    clear g5 c0 p1 c1 M5 hF
    obtain ⟨tag, pb, pq, sb, kb, v, M, hF, g1⟩ := h1
    have c5 := g1.c5
    have f5 := g1.f 5
    rw [PS.out.2.1] at c5
    have HG := hide g1
    clear g1
    by_cases hm : (C.lev + 1) % 4 = 0
    · have t4 : (((C.lev : Int) + 1) % 4 == 0) = true := by rw [beq_iff_eq]; omega
      have ES : Hid (C.bake k = Ch.ended { C.paid k with lev := C.lev + 1 }) := by
        show Ch.stepped (C.paid k) = _
        unfold Ch.stepped
        rw [PS.out.2.1, if_pos hm]
      clear hm
      go_wp2_with fail
      have gY := HG.out.num (C.paid k).cyc (C.lev + 1) (C.paid k).bon 5 ((C.lev : Int) + 1) (.inr (.inl ⟨rfl, by simp, rfl, rfl⟩))
      refine (EN F1 _ ⟨tag, pb, pq, sb, kb, v, M, hF, gY⟩).mono ?_
      rintro e w9 ⟨rfl, F9, h9, M9⟩
      go_wp2_with fail
      go_ret2
      refine ⟨rfl, F9, ?_, M1.trans (Moved.trans (F' := F1) ⟨KeptP.setCell (F := F1) (KeptP.refl _ _) (p := ⟨cb, 5, none⟩) ((hF cb).2 (by rw [HG.out.tc]; decide)) _, fun _ _ g => g⟩ M9)⟩
      rw [ES.out]
      exact h9
    · have t4 : (((C.lev : Int) + 1) % 4 == 0) = false := by rw [beq_eq_false_iff_ne]; omega
      have ES : Hid (C.bake k = { C.paid k with lev := C.lev + 1 }) := by
        show Ch.stepped (C.paid k) = _
        unfold Ch.stepped
        rw [PS.out.2.1, if_neg hm]
      clear hm
      go_wp2_with fail
      have gY := HG.out.num (C.paid k).cyc (C.lev + 1) (C.paid k).bon 5 ((C.lev : Int) + 1) (.inr (.inl ⟨rfl, by simp, rfl, rfl⟩))
      go_ret2
      refine ⟨rfl, F1, ?_, M1.trans (F'' := F1) ⟨KeptP.setCell (F := F1) (KeptP.refl _ _) (p := ⟨cb, 5, none⟩) ((hF cb).2 (by rw [HG.out.tc]; decide)) _, fun _ _ g => g⟩⟩
      rw [ES.out]
      exact ⟨tag, pb, pq, sb, kb, v, M, hF, gY⟩
end Go.Proofs.YtmbfdhekplnoaaaGreatDoor
