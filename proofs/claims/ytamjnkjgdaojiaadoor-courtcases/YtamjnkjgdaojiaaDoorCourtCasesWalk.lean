/-
  The law CourtCases, walked: for every slice of evidence, and whatever is lost, it returns true.
-/
import Derived.Test.YtamjnkjgdaojiaaDoorCourtAids
import Derived.Test.YtamjnkjgdaojiaaDoorRefDue
import Derived.Deep.RegionHeld3
namespace Go.Proofs.YtamjnkjgdaojiaaDoor
open Go.RowKit

set_option maxRecDepth 100000 in
set_option maxHeartbeats 8000000 in
theorem courtCases_walk (b off len cap : Nat) (lost : Int) (wl : (Lit.int .i64 lost).wf = true) (A : Nat → Addr) (w : World) (hL : Laid w A) (a0 : Option Addr) (hb : len ≠ 0 → a0 = some ⟨b, off, none⟩ ∧ b < w.heap.size) (h100 : len ≤ 100) (hA : Broughts w b off len) :
    Calls Tryd.prog 5 #[.slice a0 len cap, .int .i64 lost] w fun e w' => e = .returned (.bool true) ∧ Below w.heap.size w w' := by
  go_enter Tryd.func5, Tryd.ntmps5
  go_wp2_with fail
  refine (judged_of A w hL).mono ?_
  rintro e w1 ⟨rfl, hB1⟩
  go_wp2_with fail
  refine (pc_new _).mono ?_
  rintro e w2 ⟨cb, F2, rfl, hP2, hf2, hB2⟩
  have M2 : Mine w.heap.size w w2 F2 := ⟨fun k hk => Nat.le_trans hB1.size (hf2 k hk), hB1.trans (hB2.mono hB1.size), Nat.le_trans hB1.size hB2.size⟩
  clear hB1 hB2 hf2
  go_wp2_with fail
  have hB3 : Below w2.heap.size w2 (w2.alloc (.cells #[.slice none 0 0, .int .i64 0] 51)) := (Below.refl _ _).alloc (Nat.le_refl _) _
  have hP3 := hP2.nextB hB3
  have hR3 := rc_fresh w2 51
  have hW3 : Sides w.heap.size w (w2.alloc (.cells #[.slice none 0 0, .int .i64 0] 51)) F2 (fun k => k = w2.heap.size) := ⟨fun k hk hg => by have := hP2.lt k hk; omega, M2.f, fun k hk => by rw [hk]; exact M2.size, M2.below.trans (hB3.mono M2.size), Nat.le_trans M2.size hB3.size⟩
  clear hB3 hP2 M2
  generalize hrb : w2.heap.size = rb at *
  generalize w2.alloc (.cells #[.slice none 0 0, .int .i64 0] 51) = w3 at *
  clear hrb
  go_loopw [8] (fun i w' => ∃ k : Nat, k ≤ len ∧ i = .int .i64 k ∧ Courts w.heap.size w w' cb rb (4 * k) k) (fun i _ => len + 1 - (intOf i).toNat)
  case atStart => exact ⟨0, Nat.zero_le _, rfl, F2, _, _, ct0_ok, Nat.le_refl _, hP3, hR3, hW3⟩
  case round =>
    obtain ⟨k, hk, rfl, F, G, x, hx, hl, hP, hR, hW⟩ := hrel
    clear hP3 hR3 hW3
    by_cases hlt : k < len
    · obtain ⟨t0, hT0, _⟩ := hA.below hW.below (hb (by omega)).2 k hlt
      have cd := hT0.c5
      obtain ⟨ea, _⟩ := hb (by omega)
      subst ea
      clear hT0
      by_cases hd : t0.d = true
      · rw [hd] at cd
        clear hd
        go_wp2_with fail
        refine (pc_due F cb x hx (by omega) _ wr hP).mono ?_
        rintro e w4 ⟨d, q, F4, rfl, hC4, hq4, hP4, hM4⟩
        have hR4 := hR.keptP hM4.kept hW.apart
        have hW4 := hW.one hR.lt hM4
        have nq : 0 < x.due.length → ¬ G q := fun h0 g => by
          rcases (hq4 h0).2 with a | a
          · exact hW.apart q a g
          · have := hR.lt q g; omega
        clear hP hR hW hM4
        go_wp2_with fail
        refine (rc_due G rb x hx (by omega) w4 hR4).mono ?_
        rintro e w5 ⟨d2, rfl, ho5, hR5, hK5⟩
        have hC5 := hC4.keptP hK5 nq
        obtain ⟨q2, hD5, _⟩ := CasesAt.of_row ho5
        have hP5 := hP4.keptP hK5 (fun k hg hf => hW4.apart k hf hg)
        have hW5 := hW4.two hP4.lt ⟨hK5, fun _ _ g => g⟩
        clear hC4 hP4 hW4 hR4 ho5 hK5 nq hq4
        obtain ⟨aD, oD, cD, rfl, lD, mD, nD, fD⟩ := hC5
        obtain ⟨aE, oE, cE, rfl, lE, mE, nE, fE⟩ := hD5
        go_wp2_with fail
        go_loopw [11] (fun j wz => ∃ i n : Nat, i ≤ x.due.length ∧ j = .int .i64 i ∧ wz = w5.drewN n) (fun j _ => x.due.length - (intOf j).toNat)
        case atStart => exact ⟨0, 0, Nat.zero_le _, rfl, rfl⟩
        case round =>
          obtain ⟨i, nd, hi, rfl, hw⟩ := hrel
          by_cases hlt2 : i < x.due.length
          · obtain ⟨t2, ht2⟩ : ∃ t2, x.due[i]? = some t2 := ⟨x.due[i], List.getElem?_eq_getElem hlt2⟩
            obtain ⟨u0, u1, u2, u3⟩ := fD i t2 ht2
            obtain ⟨v0, v1, v2, v3⟩ := fE i t2 ht2
            obtain rfl := nD (by omega)
            obtain rfl := nE (by omega)
            rw [← drew_cell w5 nd, ← hw] at u0 u1 u2 u3 v0 v1 v2 v3
            have HW := hide hw
            have E1 := ev_guard
            have E2 := fun w => ev_neq t2.2.1 t2.2.2.1 t2.2.2.2 w
            have e1 : (t2.1 != t2.1) = false := by simp
            clear hw fD fE nD nE hP5 hR5 hW5 ht2
            go_wp2_with fail
            go_quiet (fail)
            go_wp2_with fail
            go_roundw
            case rel => exact ⟨i + 1, _, by omega, by go_num, by rw [HW.out, drewN_twice]⟩
            case measure => simp [intOf]; omega
          · obtain rfl : i = x.due.length := by omega
            have hP6 := (by rw [hw]; exact hP5.drewN nd : PCt F4 wr cb x.asked (4 * k))
            have hR6 := (by rw [hw]; exact hR5.drewN nd : RCt G wr rb x.asked)
            have hW6 := (by rw [hw]; exact hW5.drewN nd : Sides w.heap.size w wr F4 G)
            have hl6 : x.asked.L.length ≤ k := hl
            have hx6 := hx.asked
            clear hw fD fE nD nE hP5 hR5 hW5 hlt2
            clear cd
            obtain ⟨t, hT, hwf⟩ := hA.below hW6.below (hb (by omega)).2 k hlt
            have c0 := hT.c0
            have c1 := hT.c1
            have c2 := hT.c2
            have c3 := hT.c3
            have c4 := hT.c4
            have wb := hwf.b
            have wy := hwf.y
            have wm := hwf.m
            have wc := hwf.c
            have zb : b < w.heap.size := (hb (by omega)).2
            have zF : ¬ F4 b := fun g => by have := hW6.f b g; omega
            have zG : ¬ G b := fun g => by have := hW6.g b g; omega
            have L6 := hL.below hW6.below
            clear hT hwf
            go_wp2_with fail
            go_region_held3 (fun w' => w'.cell? ⟨b, off + k * 6, none⟩ = some (.int .i64 t.o) ∧ w'.cell? ⟨b, off + k * 6 + 1, none⟩ = some (.int .i64 t.b) ∧ w'.cell? ⟨b, off + k * 6 + 2, none⟩ = some (.int .i64 t.y) ∧ w'.cell? ⟨b, off + k * 6 + 3, none⟩ = some (.int .i64 t.m) ∧ w'.cell? ⟨b, off + k * 6 + 4, none⟩ = some (.int .i64 t.c)) (exact ⟨by assumption, by assumption, by assumption, by assumption, by assumption⟩)
              (first
                | (go_at_call 32; refine (pc_acc F4 cb x.asked hx6 (by omega) (4 * k) (by omega) t.o t.b t.y t.m t.c wb wy wm wc A _ (by first | exact L6.ct | exact (L6.drewN _).ct) (by first | exact hP6 | exact hP6.drewN _)).mono ?_; rintro e w7 ⟨ev, F7, rfl, hE7, hP7, hM7⟩; have d0 := hM7.cell (p := ⟨b, off + k * 6, none⟩) c0 zF; have d1 := hM7.cell (p := ⟨b, off + k * 6 + 1, none⟩) c1 zF; have d2 := hM7.cell (p := ⟨b, off + k * 6 + 2, none⟩) c2 zF; have d3 := hM7.cell (p := ⟨b, off + k * 6 + 3, none⟩) c3 zF; have d4 := hM7.cell (p := ⟨b, off + k * 6 + 4, none⟩) c4 zF; obtain ⟨hR7, hW7⟩ := (by first | exact ⟨hR6.keptP hM7.kept hW6.apart, hW6.one hR6.lt hM7⟩ | exact ⟨(hR6.drewN _).keptP hM7.kept hW6.apart, (hW6.drewN _).one (hR6.drewN _).lt hM7⟩ : RCt G w7 rb x.asked ∧ Sides w.heap.size w w7 F7 G))
                | (go_at_call 33; refine (rc_acc G rb x.asked hx6 (by omega) t.o t.b t.y t.m t.c _ (by first | exact hR7 | exact hR7.drewN _)).mono ?_; rintro e w8 ⟨rfl, G8, hR8, hM8⟩; have h0 := hM8.cell (p := ⟨b, off + k * 6, none⟩) d0 zG; have h1 := hM8.cell (p := ⟨b, off + k * 6 + 1, none⟩) d1 zG; have h2 := hM8.cell (p := ⟨b, off + k * 6 + 2, none⟩) d2 zG; have h3 := hM8.cell (p := ⟨b, off + k * 6 + 3, none⟩) d3 zG; have h4 := hM8.cell (p := ⟨b, off + k * 6 + 4, none⟩) d4 zG; obtain ⟨hP8, hW8⟩ := (by first | exact ⟨hP7.keptP hM8.kept (fun k hg hf => hW7.apart k hf hg), hW7.two hP7.lt hM8⟩ | exact ⟨(hP7.drewN _).keptP hM8.kept (fun k hg hf => hW7.apart k hf hg), (hW7.drewN _).two (hP7.drewN _).lt hM8⟩ : PCt F7 w8 cb (x.asked.acc t.o (t.b, t.y, t.m) t.c) (4 * k + 4) ∧ Sides w.heap.size w w8 F7 G8); have L8 := hL.below hW8.below)
                | (go_at_call 31; refine (coded2_of (hE7.tells (by first | exact L8 | exact L8.drewN _))).mono ?_; rintro e w9 ⟨rfl, hB9⟩; have i0 := old_cell hB9 h0; have i1 := old_cell hB9 h1; have i2 := old_cell hB9 h2; have i3 := old_cell hB9 h3; have i4 := old_cell hB9 h4))
            have hP9 := hP8.nextB hB9
            have hR9 := hR8.nextB hB9
            have hW9 := hW8.nextB hB9
            have hl9 : (x.asked.acc t.o (t.b, t.y, t.m) t.c).L.length ≤ k + 1 := by have := x.asked.acc_len t.o (t.b, t.y, t.m) t.c; omega
            have hx9 := hx6.acc t.o (t.b, t.y, t.m) t.c
            clear c0 c1 c2 c3 c4 d0 d1 d2 d3 d4 h0 h1 h2 h3 h4 hP6 hR6 hW6 hP7 hR7 hW7 hP8 hR8 hW8 hB9 L6 L8 hE7 hM7 hM8
            go_wp2_with fail
            refine (pc_percent t.m wm _).mono ?_
            rintro e w10 ⟨rfl, hw10⟩
            subst hw10
            by_cases hev : t.m % 2 = 0
            · have g1 : pctOf t.m = 5 := if_pos hev
              have g2 : (t.m.tmod 2 == 0) = true := by rw [beq_iff_eq]; exact (tmod_two _).2 hev
              have g3 : (t.m.tmod 2 != 0) = false := by rw [bne, g2]; rfl
              rw [g1]
              go_wp2_with fail
              go_roundw
              case rel => exact ⟨k + 1, by omega, by go_num, F7, G8, _, hx9, hl9, by rw [Nat.mul_add]; exact hP9, hR9, hW9⟩
              case measure => simp [intOf]; omega
            · have g1 : pctOf t.m = 50 := if_neg hev
              have g2 : (t.m.tmod 2 == 0) = false := by rw [beq_eq_false_iff_ne]; exact fun e => hev ((tmod_two _).1 e)
              have g3 : (t.m.tmod 2 != 0) = true := by rw [bne, g2]; rfl
              rw [g1]
              go_wp2_with fail
              go_roundw
              case rel => exact ⟨k + 1, by omega, by go_num, F7, G8, _, hx9, hl9, by rw [Nat.mul_add]; exact hP9, hR9, hW9⟩
              case measure => simp [intOf]; omega
      · have hd : t0.d = false := by simpa using hd
        rw [hd] at cd
        clear hd
        have hP6 := hP
        have hR6 := hR
        have hW6 := hW
        have hl6 := hl
        have hx6 := hx
        clear hP hR hW
        obtain ⟨t, hT, hwf⟩ := hA.below hW6.below (hb (by omega)).2 k hlt
        have c0 := hT.c0
        have c1 := hT.c1
        have c2 := hT.c2
        have c3 := hT.c3
        have c4 := hT.c4
        have wb := hwf.b
        have wy := hwf.y
        have wm := hwf.m
        have wc := hwf.c
        have zb : b < w.heap.size := (hb (by omega)).2
        have zF : ¬ F b := fun g => by have := hW6.f b g; omega
        have zG : ¬ G b := fun g => by have := hW6.g b g; omega
        have L6 := hL.below hW6.below
        clear hT hwf
        go_wp2_with fail
        go_region_held3 (fun w' => w'.cell? ⟨b, off + k * 6, none⟩ = some (.int .i64 t.o) ∧ w'.cell? ⟨b, off + k * 6 + 1, none⟩ = some (.int .i64 t.b) ∧ w'.cell? ⟨b, off + k * 6 + 2, none⟩ = some (.int .i64 t.y) ∧ w'.cell? ⟨b, off + k * 6 + 3, none⟩ = some (.int .i64 t.m) ∧ w'.cell? ⟨b, off + k * 6 + 4, none⟩ = some (.int .i64 t.c)) (exact ⟨by assumption, by assumption, by assumption, by assumption, by assumption⟩)
          (first
            | (go_at_call 32; refine (pc_acc F cb x hx6 (by omega) (4 * k) (by omega) t.o t.b t.y t.m t.c wb wy wm wc A _ (by first | exact L6.ct | exact (L6.drewN _).ct) (by first | exact hP6 | exact hP6.drewN _)).mono ?_; rintro e w7 ⟨ev, F7, rfl, hE7, hP7, hM7⟩; have d0 := hM7.cell (p := ⟨b, off + k * 6, none⟩) c0 zF; have d1 := hM7.cell (p := ⟨b, off + k * 6 + 1, none⟩) c1 zF; have d2 := hM7.cell (p := ⟨b, off + k * 6 + 2, none⟩) c2 zF; have d3 := hM7.cell (p := ⟨b, off + k * 6 + 3, none⟩) c3 zF; have d4 := hM7.cell (p := ⟨b, off + k * 6 + 4, none⟩) c4 zF; obtain ⟨hR7, hW7⟩ := (by first | exact ⟨hR6.keptP hM7.kept hW6.apart, hW6.one hR6.lt hM7⟩ | exact ⟨(hR6.drewN _).keptP hM7.kept hW6.apart, (hW6.drewN _).one (hR6.drewN _).lt hM7⟩ : RCt G w7 rb x ∧ Sides w.heap.size w w7 F7 G))
            | (go_at_call 33; refine (rc_acc G rb x hx6 (by omega) t.o t.b t.y t.m t.c _ (by first | exact hR7 | exact hR7.drewN _)).mono ?_; rintro e w8 ⟨rfl, G8, hR8, hM8⟩; have h0 := hM8.cell (p := ⟨b, off + k * 6, none⟩) d0 zG; have h1 := hM8.cell (p := ⟨b, off + k * 6 + 1, none⟩) d1 zG; have h2 := hM8.cell (p := ⟨b, off + k * 6 + 2, none⟩) d2 zG; have h3 := hM8.cell (p := ⟨b, off + k * 6 + 3, none⟩) d3 zG; have h4 := hM8.cell (p := ⟨b, off + k * 6 + 4, none⟩) d4 zG; obtain ⟨hP8, hW8⟩ := (by first | exact ⟨hP7.keptP hM8.kept (fun k hg hf => hW7.apart k hf hg), hW7.two hP7.lt hM8⟩ | exact ⟨(hP7.drewN _).keptP hM8.kept (fun k hg hf => hW7.apart k hf hg), (hW7.drewN _).two (hP7.drewN _).lt hM8⟩ : PCt F7 w8 cb (x.acc t.o (t.b, t.y, t.m) t.c) (4 * k + 4) ∧ Sides w.heap.size w w8 F7 G8); have L8 := hL.below hW8.below)
            | (go_at_call 31; refine (coded2_of (hE7.tells (by first | exact L8 | exact L8.drewN _))).mono ?_; rintro e w9 ⟨rfl, hB9⟩; have i0 := old_cell hB9 h0; have i1 := old_cell hB9 h1; have i2 := old_cell hB9 h2; have i3 := old_cell hB9 h3; have i4 := old_cell hB9 h4))
        have hP9 := hP8.nextB hB9
        have hR9 := hR8.nextB hB9
        have hW9 := hW8.nextB hB9
        have hl9 : (x.acc t.o (t.b, t.y, t.m) t.c).L.length ≤ k + 1 := by have := x.acc_len t.o (t.b, t.y, t.m) t.c; omega
        have hx9 := hx6.acc t.o (t.b, t.y, t.m) t.c
        clear c0 c1 c2 c3 c4 d0 d1 d2 d3 d4 h0 h1 h2 h3 h4 hP6 hR6 hW6 hP7 hR7 hW7 hP8 hR8 hW8 hB9 L6 L8 hE7 hM7 hM8
        go_wp2_with fail
        refine (pc_percent t.m wm _).mono ?_
        rintro e w10 ⟨rfl, hw10⟩
        subst hw10
        by_cases hev : t.m % 2 = 0
        · have g1 : pctOf t.m = 5 := if_pos hev
          have g2 : (t.m.tmod 2 == 0) = true := by rw [beq_iff_eq]; exact (tmod_two _).2 hev
          have g3 : (t.m.tmod 2 != 0) = false := by rw [bne, g2]; rfl
          rw [g1]
          go_wp2_with fail
          go_roundw
          case rel => exact ⟨k + 1, by omega, by go_num, F7, G8, _, hx9, hl9, by rw [Nat.mul_add]; exact hP9, hR9, hW9⟩
          case measure => simp [intOf]; omega
        · have g1 : pctOf t.m = 50 := if_neg hev
          have g2 : (t.m.tmod 2 == 0) = false := by rw [beq_eq_false_iff_ne]; exact fun e => hev ((tmod_two _).1 e)
          have g3 : (t.m.tmod 2 != 0) = true := by rw [bne, g2]; rfl
          rw [g1]
          go_wp2_with fail
          go_roundw
          case rel => exact ⟨k + 1, by omega, by go_num, F7, G8, _, hx9, hl9, by rw [Nat.mul_add]; exact hP9, hR9, hW9⟩
          case measure => simp [intOf]; omega
    · obtain rfl : k = len := by omega
      go_wp2_with fail
      refine (pc_due F cb x hx (by omega) _ wr hP).mono ?_
      rintro e w4 ⟨d, q, F4, rfl, hC4, hq4, hP4, hM4⟩
      have hR4 := hR.keptP hM4.kept hW.apart
      have hW4 := hW.one hR.lt hM4
      have nq : 0 < x.due.length → ¬ G q := fun h0 g => by
        rcases (hq4 h0).2 with a | a
        · exact hW.apart q a g
        · have := hR.lt q g; omega
      clear hP hR hW hM4
      go_wp2_with fail
      refine (rc_due G rb x hx (by omega) w4 hR4).mono ?_
      rintro e w5 ⟨d2, rfl, ho5, hR5, hK5⟩
      have hC5 := hC4.keptP hK5 nq
      obtain ⟨q2, hD5, _⟩ := CasesAt.of_row ho5
      have hP5 := hP4.keptP hK5 (fun k hg hf => hW4.apart k hf hg)
      have hW5 := hW4.two hP4.lt ⟨hK5, fun _ _ g => g⟩
      clear hC4 hP4 hW4 hR4 ho5 hK5 nq hq4
      obtain ⟨aD, oD, cD, rfl, lD, mD, nD, fD⟩ := hC5
      obtain ⟨aE, oE, cE, rfl, lE, mE, nE, fE⟩ := hD5
      go_wp2_with fail
      go_loopw [11] (fun j wz => ∃ i n : Nat, i ≤ x.due.length ∧ j = .int .i64 i ∧ wz = w5.drewN n) (fun j _ => x.due.length - (intOf j).toNat)
      case atStart => exact ⟨0, 0, Nat.zero_le _, rfl, rfl⟩
      case round =>
        obtain ⟨i, nd, hi, rfl, hw⟩ := hrel
        by_cases hlt2 : i < x.due.length
        · obtain ⟨t2, ht2⟩ : ∃ t2, x.due[i]? = some t2 := ⟨x.due[i], List.getElem?_eq_getElem hlt2⟩
          obtain ⟨u0, u1, u2, u3⟩ := fD i t2 ht2
          obtain ⟨v0, v1, v2, v3⟩ := fE i t2 ht2
          obtain rfl := nD (by omega)
          obtain rfl := nE (by omega)
          rw [← drew_cell w5 nd, ← hw] at u0 u1 u2 u3 v0 v1 v2 v3
          have HW := hide hw
          have E1 := ev_guard
          have E2 := fun w => ev_neq t2.2.1 t2.2.2.1 t2.2.2.2 w
          have e1 : (t2.1 != t2.1) = false := by simp
          clear hw fD fE nD nE hP5 hR5 hW5 ht2
          go_wp2_with fail
          go_quiet (fail)
          go_wp2_with fail
          go_roundw
          case rel => exact ⟨i + 1, _, by omega, by go_num, by rw [HW.out, drewN_twice]⟩
          case measure => simp [intOf]; omega
        · obtain rfl : i = x.due.length := by omega
          have hP6 := (by rw [hw]; exact hP5.drewN nd : PCt F4 wr cb x.asked (4 * k))
          have hR6 := (by rw [hw]; exact hR5.drewN nd : RCt G wr rb x.asked)
          have hW6 := (by rw [hw]; exact hW5.drewN nd : Sides w.heap.size w wr F4 G)
          have hl6 : x.asked.L.length ≤ k := hl
          have hx6 := hx.asked
          clear hw fD fE nD nE hP5 hR5 hW5 hlt2
          go_wp2_with fail
          refine (pc_share lost wl _).mono ?_
          rintro e w9 ⟨rfl, m9, hw9⟩
          have hB9 : Below w.heap.size w w9 := by rw [hw9]; exact below_drewN hW6.below m9
          clear hP6 hR6 hW6 hw9
          by_cases hneg : lost < 0
          · have g1 : shareA lost = 0 := if_pos hneg
            have g2 : shareB lost = 0 := if_pos hneg
            rw [g1, g2]
            go_wp2_with fail
            go_ret
            exact ⟨rfl, hB9⟩
          · have g1 : shareA lost = lost / 7 := if_neg hneg
            have g2 : shareB lost = lost - lost / 7 := if_neg hneg
            rw [g1, g2]
            have n0 : 0 ≤ lost := by omega
            have n1 : lost ≤ 9223372036854775807 := (bounds_i64 wl).2
            have ht : lost.tdiv 7 = lost / 7 := Int.tdiv_eq_ediv_of_nonneg n0
            obtain ⟨qq, hqq⟩ : ∃ qq, lost / 7 = qq := ⟨_, rfl⟩
            have q0 : 0 ≤ qq := by omega
            have q1 : qq ≤ lost := by omega
            rw [hqq] at ht ⊢
            have t1 : (qq == qq) = true := by simp
            have t2 : (lost - qq == lost - qq) = true := by simp
            clear hqq g1 g2 hneg
            go_wp2_with fail
            go_ret
            exact ⟨rfl, hB9⟩
end Go.Proofs.YtamjnkjgdaojiaaDoor
