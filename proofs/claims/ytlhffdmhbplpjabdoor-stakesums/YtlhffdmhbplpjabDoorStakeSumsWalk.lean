/-
  The law StakeSums, walked: for every slice of acts it returns true.
-/
import Derived.Test.YtlhffdmhbplpjabDoorStaked
import Derived.Test.YtlhffdmhbplpjabDoorStakeTotals
import Derived.Test.YtlhffdmhbplpjabDoorStkLens
import Derived.Test.YtlhffdmhbplpjabDoorActs2
namespace Go.Proofs.YtlhffdmhbplpjabDoor
open Go.RowKit

theorem tot_bd {S : Sk} (h : S.Ok) (hl : S.K.length ≤ 900) : 0 ≤ S.total ∧ S.total ≤ 1000 * 1125899906842624 := by
  have b := h.total_bd
  refine ⟨b.1, Int.le_trans b.2 ?_⟩
  exact Int.mul_le_mul_of_nonneg_right (by omega) (by decide)
set_option maxRecDepth 100000 in
set_option maxHeartbeats 8000000 in
theorem stakeSums_walk (b off len cap : Nat) (A : Nat → Addr) (w : World) (hL : StkLaid w A) (hb : b < w.heap.size) (h1 : 0 < len) (h80 : len ≤ 80) (hA : Acts2 w b off len) :
    Calls Tryd.prog 5 #[.slice (some ⟨b, off, none⟩) len cap] w fun e w' => e = .returned (.bool true) ∧ Below w.heap.size w w' := by
  go_enter Tryd.func5, Tryd.ntmps5
  go_wp2_with fail
  refine (staked_of A w hL).mono ?_
  rintro e w1 ⟨rfl, hB1⟩
  go_wp2_with fail
  refine (ps_new _).mono ?_
  rintro e w2 ⟨sb, F2, rfl, hP2, hf2, hB2⟩
  have M2 : Mine w.heap.size w w2 F2 := ⟨fun k hk => Nat.le_trans hB1.size (hf2 k hk), hB1.trans (hB2.mono hB1.size), Nat.le_trans hB1.size hB2.size⟩
  clear hB1 hB2 hf2
  go_wp2_with fail
  go_loopw [5, 6] (fun all i w' => ∃ (k : Nat) (S : Sk) (F : Nat → Prop), k ≤ len ∧ all = .int .i64 S.total ∧ i = .int .i64 k ∧ S.Ok ∧ S.K.length ≤ k ∧ PSk F w' sb S (4 * k) ∧ Mine w.heap.size w w' F) (fun _ i _ => len - (intOf i).toNat)
  case atStart => exact ⟨0, Sk.none, F2, Nat.zero_le _, rfl, rfl, Sk.none_ok, Nat.le_refl _, hP2, M2⟩
  case round =>
    obtain ⟨k, S, F, hk, rfl, rfl, hS, hl, hP, hM⟩ := hrel
    clear hP2 M2
    by_cases hlt : k < len
    · obtain ⟨K, O, C, N, Y, a⟩ := hA.below hM.below hb k hlt
      have a0 := a.c0
      have a1 := a.c1
      have a2 := a.c2
      have a3 := a.c3
      have a4 := a.c4
      have wO := a.wO
      have wY := a.wY
      clear a
      cases t0 : (K.toList == [114, 101, 103, 105, 115, 116, 101, 114]) with
      | true =>
        have s0 : (wr.alloc (.cells #[.string K, .int .i64 O, .int .i64 C, .int .i64 N, .int .i64 Y] 49)).cell? ⟨wr.heap.size, 0, none⟩ = some (.string K) := by simp
        have s1 : (wr.alloc (.cells #[.string K, .int .i64 O, .int .i64 C, .int .i64 N, .int .i64 Y] 49)).cell? ⟨wr.heap.size, 1, none⟩ = some (.int .i64 O) := by simp
        have s2 : (wr.alloc (.cells #[.string K, .int .i64 O, .int .i64 C, .int .i64 N, .int .i64 Y] 49)).cell? ⟨wr.heap.size, 2, none⟩ = some (.int .i64 C) := by simp
        have s3 : (wr.alloc (.cells #[.string K, .int .i64 O, .int .i64 C, .int .i64 N, .int .i64 Y] 49)).cell? ⟨wr.heap.size, 3, none⟩ = some (.int .i64 N) := by simp
        have s4 : (wr.alloc (.cells #[.string K, .int .i64 O, .int .i64 C, .int .i64 N, .int .i64 Y] 49)).cell? ⟨wr.heap.size, 4, none⟩ = some (.int .i64 Y) := by simp
        have hB4 : Below wr.heap.size wr (wr.alloc (.cells #[.string K, .int .i64 O, .int .i64 C, .int .i64 N, .int .i64 Y] 49)) := (Below.refl _ _).alloc (Nat.le_refl _) _
        have hP4 := hP.keptP (KeptP.of_below (F := fun _ => False) hB4) (fun _ g => g.elim)
        have hM4 := hM.nextB hB4
        have L4 := hL.below hM4.below
        have zF : ¬ F wr.heap.size := fun g => by have := hP.lt _ g; omega
        clear hP hM hB4
        have hS5 := hS.reg C
        have hl5 := Nat.le_trans (reg_len S C) (Nat.succ_le_succ hl)
        obtain ⟨T0, T1⟩ := tot_bd hS (by omega)
        obtain ⟨U0, U1⟩ := tot_bd hS5 (by omega)
        go_wp2_with fail
        generalize wr.heap.size = na at *
        generalize wr.alloc (.cells #[.string K, .int .i64 O, .int .i64 C, .int .i64 N, .int .i64 Y] 49) = w4 at *
        refine (ps_register F sb S hS (4 * k) (by omega) C A w4 L4 hP4).mono ?_
        rintro e w5 ⟨ev, F5, rfl, hE, hP5, hV⟩
        have hM5 := hM4.next hV
        clear hP4 hM4 hV L4 zF s0 s1 s2 s3 s4
        have eT : S.total = (S.reg C).total := (Sk.reg_total C).symm
        rw [eT]
        clear eT T0 T1 hE
        have d1 : ((S.reg C).total != (S.reg C).total) = false := by simp
        generalize S.reg C = T at *
        go_wp2_with fail
        refine (ps_total F5 sb T hS5 (by omega) _ w5 hP5).mono ?_
        rintro e w6 ⟨rfl, hB6⟩
        have hP6 := hP5.keptP (KeptP.of_below (F := fun _ => False) hB6) (fun _ g => g.elim)
        have hM6 := hM5.nextB hB6
        clear hP5 hM5 hB6
        go_wp2_with fail
        go_roundw
        case rel => exact ⟨k + 1, T, F5, by omega, rfl, by go_num, hS5, hl5, by rw [Nat.mul_add]; exact hP6, hM6⟩
        case measure => simp [intOf]; omega
      | false =>
        cases t1 : (K.toList == [106, 111, 105, 110]) with
        | true =>
          have s0 : (wr.alloc (.cells #[.string K, .int .i64 O, .int .i64 C, .int .i64 N, .int .i64 Y] 49)).cell? ⟨wr.heap.size, 0, none⟩ = some (.string K) := by simp
          have s1 : (wr.alloc (.cells #[.string K, .int .i64 O, .int .i64 C, .int .i64 N, .int .i64 Y] 49)).cell? ⟨wr.heap.size, 1, none⟩ = some (.int .i64 O) := by simp
          have s2 : (wr.alloc (.cells #[.string K, .int .i64 O, .int .i64 C, .int .i64 N, .int .i64 Y] 49)).cell? ⟨wr.heap.size, 2, none⟩ = some (.int .i64 C) := by simp
          have s3 : (wr.alloc (.cells #[.string K, .int .i64 O, .int .i64 C, .int .i64 N, .int .i64 Y] 49)).cell? ⟨wr.heap.size, 3, none⟩ = some (.int .i64 N) := by simp
          have s4 : (wr.alloc (.cells #[.string K, .int .i64 O, .int .i64 C, .int .i64 N, .int .i64 Y] 49)).cell? ⟨wr.heap.size, 4, none⟩ = some (.int .i64 Y) := by simp
          have hB4 : Below wr.heap.size wr (wr.alloc (.cells #[.string K, .int .i64 O, .int .i64 C, .int .i64 N, .int .i64 Y] 49)) := (Below.refl _ _).alloc (Nat.le_refl _) _
          have hP4 := hP.keptP (KeptP.of_below (F := fun _ => False) hB4) (fun _ g => g.elim)
          have hM4 := hM.nextB hB4
          have L4 := hL.below hM4.below
          have zF : ¬ F wr.heap.size := fun g => by have := hP.lt _ g; omega
          clear hP hM hB4
          have hS5 := hS.join O C N
          have hl5 := Nat.le_trans (join_len S O C N) (Nat.succ_le_succ hl)
          obtain ⟨T0, T1⟩ := tot_bd hS (by omega)
          obtain ⟨U0, U1⟩ := tot_bd hS5 (by omega)
          go_wp2_with fail
          generalize wr.heap.size = na at *
          generalize wr.alloc (.cells #[.string K, .int .i64 O, .int .i64 C, .int .i64 N, .int .i64 Y] 49) = w4 at *
          refine (ps_join F sb S hS (4 * k) (by omega) O C N wO A w4 L4 hP4).mono ?_
          rintro e w5 ⟨ev, F5, rfl, hE, hP5, hV⟩
          have hM5 := hM4.next hV
          have s53 : w5.cell? ⟨na, 3, none⟩ = some (.int .i64 N) := hV.kept.old s3 zF
          clear hP4 hM4 hV L4 zF s0 s1 s2 s3 s4
          by_cases hc : S.joinC O C N = 0
          · obtain rfl := hE.nil hc
            have eT : S.total + N = (S.join O C N).total := (hS.join_total hc).symm
            have n0 : 0 ≤ S.total + N := by omega
            have n1 : S.total + N ≤ 1000 * 1125899906842624 := by omega
            clear hE hc
            have d1 : ((S.join O C N).total != S.total + N) = false := by rw [eT]; simp
            have ET := hide eT
            clear eT
            generalize S.join O C N = T at *
            go_wp2_with fail
            refine (ps_total F5 sb T hS5 (by omega) _ w5 hP5).mono ?_
            rintro e w6 ⟨rfl, hB6⟩
            have hP6 := hP5.keptP (KeptP.of_below (F := fun _ => False) hB6) (fun _ g => g.elim)
            have hM6 := hM5.nextB hB6
            clear hP5 hM5 hB6
            go_wp2_with fail
            go_roundw
            case rel => exact ⟨k + 1, T, F5, by omega, by rw [← ET.out], by go_num, hS5, hl5, by rw [Nat.mul_add]; exact hP6, hM6⟩
            case measure => simp [intOf]; omega
          · obtain ⟨ix, rfl⟩ := hE.err hc
            have eT : S.total = (S.join O C N).total := by rw [Sk.join_same hc]
            rw [eT]
            clear hE hc eT T0 T1
            have d1 : ((S.join O C N).total != (S.join O C N).total) = false := by simp
            generalize S.join O C N = T at *
            go_wp2_with fail
            refine (ps_total F5 sb T hS5 (by omega) _ w5 hP5).mono ?_
            rintro e w6 ⟨rfl, hB6⟩
            have hP6 := hP5.keptP (KeptP.of_below (F := fun _ => False) hB6) (fun _ g => g.elim)
            have hM6 := hM5.nextB hB6
            clear hP5 hM5 hB6
            go_wp2_with fail
            go_roundw
            case rel => exact ⟨k + 1, T, F5, by omega, rfl, by go_num, hS5, hl5, by rw [Nat.mul_add]; exact hP6, hM6⟩
            case measure => simp [intOf]; omega
        | false =>
          cases t2 : (K.toList == [108, 101, 97, 118, 101]) with
          | true =>
            have s0 : (wr.alloc (.cells #[.string K, .int .i64 O, .int .i64 C, .int .i64 N, .int .i64 Y] 49)).cell? ⟨wr.heap.size, 0, none⟩ = some (.string K) := by simp
            have s1 : (wr.alloc (.cells #[.string K, .int .i64 O, .int .i64 C, .int .i64 N, .int .i64 Y] 49)).cell? ⟨wr.heap.size, 1, none⟩ = some (.int .i64 O) := by simp
            have s2 : (wr.alloc (.cells #[.string K, .int .i64 O, .int .i64 C, .int .i64 N, .int .i64 Y] 49)).cell? ⟨wr.heap.size, 2, none⟩ = some (.int .i64 C) := by simp
            have s3 : (wr.alloc (.cells #[.string K, .int .i64 O, .int .i64 C, .int .i64 N, .int .i64 Y] 49)).cell? ⟨wr.heap.size, 3, none⟩ = some (.int .i64 N) := by simp
            have s4 : (wr.alloc (.cells #[.string K, .int .i64 O, .int .i64 C, .int .i64 N, .int .i64 Y] 49)).cell? ⟨wr.heap.size, 4, none⟩ = some (.int .i64 Y) := by simp
            have hB4 : Below wr.heap.size wr (wr.alloc (.cells #[.string K, .int .i64 O, .int .i64 C, .int .i64 N, .int .i64 Y] 49)) := (Below.refl _ _).alloc (Nat.le_refl _) _
            have hP4 := hP.keptP (KeptP.of_below (F := fun _ => False) hB4) (fun _ g => g.elim)
            have hM4 := hM.nextB hB4
            have L4 := hL.below hM4.below
            have zF : ¬ F wr.heap.size := fun g => by have := hP.lt _ g; omega
            clear hP hM hB4
            have hS5 := hS.leave O C N Y
            have hl5 := Nat.le_trans (leave_len S O C N Y) (Nat.succ_le_succ hl)
            obtain ⟨T0, T1⟩ := tot_bd hS (by omega)
            obtain ⟨U0, U1⟩ := tot_bd hS5 (by omega)
            go_wp2_with fail
            generalize wr.heap.size = na at *
            generalize wr.alloc (.cells #[.string K, .int .i64 O, .int .i64 C, .int .i64 N, .int .i64 Y] 49) = w4 at *
            refine (ps_leave F sb S hS (4 * k) (by omega) O C N Y wO wY A w4 L4 hP4).mono ?_
            rintro e w5 ⟨ev, F5, rfl, hE, hP5, hV⟩
            have hM5 := hM4.next hV
            clear hP4 hM4 hV L4 zF s0 s1 s2 s3 s4
            have eT : S.total = (S.leave O C N Y).total := (hS.leave_total O C N Y).symm
            rw [eT]
            clear eT T0 T1 hE
            have d1 : ((S.leave O C N Y).total != (S.leave O C N Y).total) = false := by simp
            generalize S.leave O C N Y = T at *
            go_wp2_with fail
            refine (ps_total F5 sb T hS5 (by omega) _ w5 hP5).mono ?_
            rintro e w6 ⟨rfl, hB6⟩
            have hP6 := hP5.keptP (KeptP.of_below (F := fun _ => False) hB6) (fun _ g => g.elim)
            have hM6 := hM5.nextB hB6
            clear hP5 hM5 hB6
            go_wp2_with fail
            go_roundw
            case rel => exact ⟨k + 1, T, F5, by omega, rfl, by go_num, hS5, hl5, by rw [Nat.mul_add]; exact hP6, hM6⟩
            case measure => simp [intOf]; omega
          | false =>
            cases t3 : (K.toList == [102, 114, 101, 101]) with
            | true =>
              have s0 : (wr.alloc (.cells #[.string K, .int .i64 O, .int .i64 C, .int .i64 N, .int .i64 Y] 49)).cell? ⟨wr.heap.size, 0, none⟩ = some (.string K) := by simp
              have s1 : (wr.alloc (.cells #[.string K, .int .i64 O, .int .i64 C, .int .i64 N, .int .i64 Y] 49)).cell? ⟨wr.heap.size, 1, none⟩ = some (.int .i64 O) := by simp
              have s2 : (wr.alloc (.cells #[.string K, .int .i64 O, .int .i64 C, .int .i64 N, .int .i64 Y] 49)).cell? ⟨wr.heap.size, 2, none⟩ = some (.int .i64 C) := by simp
              have s3 : (wr.alloc (.cells #[.string K, .int .i64 O, .int .i64 C, .int .i64 N, .int .i64 Y] 49)).cell? ⟨wr.heap.size, 3, none⟩ = some (.int .i64 N) := by simp
              have s4 : (wr.alloc (.cells #[.string K, .int .i64 O, .int .i64 C, .int .i64 N, .int .i64 Y] 49)).cell? ⟨wr.heap.size, 4, none⟩ = some (.int .i64 Y) := by simp
              have hB4 : Below wr.heap.size wr (wr.alloc (.cells #[.string K, .int .i64 O, .int .i64 C, .int .i64 N, .int .i64 Y] 49)) := (Below.refl _ _).alloc (Nat.le_refl _) _
              have hP4 := hP.keptP (KeptP.of_below (F := fun _ => False) hB4) (fun _ g => g.elim)
              have hM4 := hM.nextB hB4
              have L4 := hL.below hM4.below
              have zF : ¬ F wr.heap.size := fun g => by have := hP.lt _ g; omega
              clear hP hM hB4
              have hS5 := hS.free O Y
              have hl5 := Nat.le_trans (free_len S O Y) (Nat.succ_le_succ hl)
              obtain ⟨T0, T1⟩ := tot_bd hS (by omega)
              obtain ⟨U0, U1⟩ := tot_bd hS5 (by omega)
              go_wp2_with fail
              generalize wr.heap.size = na at *
              generalize wr.alloc (.cells #[.string K, .int .i64 O, .int .i64 C, .int .i64 N, .int .i64 Y] 49) = w4 at *
              refine (ps_free F sb S hS (by omega) (4 * k) (by omega) O Y wO wY A w4 L4 hP4).mono ?_
              rintro e w5 ⟨ev, F5, rfl, hE, hP5, hV⟩
              have hM5 := hM4.next hV
              clear hP4 hM4 hV L4 zF s0 s1 s2 s3 s4
              have eT : S.total - S.freeN O Y = (S.free O Y).total := (Sk.free_total S O Y).symm
              have m0 := hS.freeN_nn O Y
              by_cases hc : S.freeC O Y = 0
              · obtain rfl := hE.nil hc
                have m1 : S.freeN O Y ≤ 1000 * 1125899906842624 := by omega
                have n0 : 0 ≤ S.total - S.freeN O Y := by omega
                have n1 : S.total - S.freeN O Y ≤ 1000 * 1125899906842624 := by omega
                clear hE hc
                generalize S.freeN O Y = Q at *
                have d1 : ((S.free O Y).total != S.total - Q) = false := by rw [eT]; simp
                have ET := hide eT
                clear eT
                generalize S.free O Y = T at *
                go_wp2_with fail
                refine (ps_total F5 sb T hS5 (by omega) _ w5 hP5).mono ?_
                rintro e w6 ⟨rfl, hB6⟩
                have hP6 := hP5.keptP (KeptP.of_below (F := fun _ => False) hB6) (fun _ g => g.elim)
                have hM6 := hM5.nextB hB6
                clear hP5 hM5 hB6
                go_wp2_with fail
                go_roundw
                case rel => exact ⟨k + 1, T, F5, by omega, by rw [← ET.out], by go_num, hS5, hl5, by rw [Nat.mul_add]; exact hP6, hM6⟩
                case measure => simp [intOf]; omega
              · obtain ⟨ix, rfl⟩ := hE.err hc
                have z := Sk.freeN_err hc
                rw [z] at eT ⊢
                have eT2 : S.total = (S.free O Y).total := by omega
                rw [eT2]
                clear hE hc eT eT2 T0 T1 m0 z
                have d1 : ((S.free O Y).total != (S.free O Y).total) = false := by simp
                generalize S.free O Y = T at *
                go_wp2_with fail
                refine (ps_total F5 sb T hS5 (by omega) _ w5 hP5).mono ?_
                rintro e w6 ⟨rfl, hB6⟩
                have hP6 := hP5.keptP (KeptP.of_below (F := fun _ => False) hB6) (fun _ g => g.elim)
                have hM6 := hM5.nextB hB6
                clear hP5 hM5 hB6
                go_wp2_with fail
                go_roundw
                case rel => exact ⟨k + 1, T, F5, by omega, rfl, by go_num, hS5, hl5, by rw [Nat.mul_add]; exact hP6, hM6⟩
                case measure => simp [intOf]; omega
            | false =>
              cases t4 : (K.toList == [97, 100, 100]) with
              | true =>
                have s0 : (wr.alloc (.cells #[.string K, .int .i64 O, .int .i64 C, .int .i64 N, .int .i64 Y] 49)).cell? ⟨wr.heap.size, 0, none⟩ = some (.string K) := by simp
                have s1 : (wr.alloc (.cells #[.string K, .int .i64 O, .int .i64 C, .int .i64 N, .int .i64 Y] 49)).cell? ⟨wr.heap.size, 1, none⟩ = some (.int .i64 O) := by simp
                have s2 : (wr.alloc (.cells #[.string K, .int .i64 O, .int .i64 C, .int .i64 N, .int .i64 Y] 49)).cell? ⟨wr.heap.size, 2, none⟩ = some (.int .i64 C) := by simp
                have s3 : (wr.alloc (.cells #[.string K, .int .i64 O, .int .i64 C, .int .i64 N, .int .i64 Y] 49)).cell? ⟨wr.heap.size, 3, none⟩ = some (.int .i64 N) := by simp
                have s4 : (wr.alloc (.cells #[.string K, .int .i64 O, .int .i64 C, .int .i64 N, .int .i64 Y] 49)).cell? ⟨wr.heap.size, 4, none⟩ = some (.int .i64 Y) := by simp
                have hB4 : Below wr.heap.size wr (wr.alloc (.cells #[.string K, .int .i64 O, .int .i64 C, .int .i64 N, .int .i64 Y] 49)) := (Below.refl _ _).alloc (Nat.le_refl _) _
                have hP4 := hP.keptP (KeptP.of_below (F := fun _ => False) hB4) (fun _ g => g.elim)
                have hM4 := hM.nextB hB4
                have L4 := hL.below hM4.below
                have zF : ¬ F wr.heap.size := fun g => by have := hP.lt _ g; omega
                clear hP hM hB4
                have hS5 := hS.add C N
                have hl5 := Nat.le_trans (add_len S C N) (Nat.succ_le_succ hl)
                obtain ⟨T0, T1⟩ := tot_bd hS (by omega)
                obtain ⟨U0, U1⟩ := tot_bd hS5 (by omega)
                go_wp2_with fail
                generalize wr.heap.size = na at *
                generalize wr.alloc (.cells #[.string K, .int .i64 O, .int .i64 C, .int .i64 N, .int .i64 Y] 49) = w4 at *
                refine (ps_add F sb S hS (4 * k) (by omega) C N A w4 L4 hP4).mono ?_
                rintro e w5 ⟨ev, F5, rfl, hE, hP5, hV⟩
                have hM5 := hM4.next hV
                have s53 : w5.cell? ⟨na, 3, none⟩ = some (.int .i64 N) := hV.kept.old s3 zF
                clear hP4 hM4 hV L4 zF s0 s1 s2 s3 s4
                by_cases hc : S.addC C N = 0
                · obtain rfl := hE.nil hc
                  have eT : S.total + N = (S.add C N).total := (hS.add_total hc).symm
                  have n0 : 0 ≤ S.total + N := by omega
                  have n1 : S.total + N ≤ 1000 * 1125899906842624 := by omega
                  clear hE hc
                  have d1 : ((S.add C N).total != S.total + N) = false := by rw [eT]; simp
                  have ET := hide eT
                  clear eT
                  generalize S.add C N = T at *
                  go_wp2_with fail
                  refine (ps_total F5 sb T hS5 (by omega) _ w5 hP5).mono ?_
                  rintro e w6 ⟨rfl, hB6⟩
                  have hP6 := hP5.keptP (KeptP.of_below (F := fun _ => False) hB6) (fun _ g => g.elim)
                  have hM6 := hM5.nextB hB6
                  clear hP5 hM5 hB6
                  go_wp2_with fail
                  go_roundw
                  case rel => exact ⟨k + 1, T, F5, by omega, by rw [← ET.out], by go_num, hS5, hl5, by rw [Nat.mul_add]; exact hP6, hM6⟩
                  case measure => simp [intOf]; omega
                · obtain ⟨ix, rfl⟩ := hE.err hc
                  have eT : S.total = (S.add C N).total := by rw [Sk.add_same hc]
                  rw [eT]
                  clear hE hc eT T0 T1
                  have d1 : ((S.add C N).total != (S.add C N).total) = false := by simp
                  generalize S.add C N = T at *
                  go_wp2_with fail
                  refine (ps_total F5 sb T hS5 (by omega) _ w5 hP5).mono ?_
                  rintro e w6 ⟨rfl, hB6⟩
                  have hP6 := hP5.keptP (KeptP.of_below (F := fun _ => False) hB6) (fun _ g => g.elim)
                  have hM6 := hM5.nextB hB6
                  clear hP5 hM5 hB6
                  go_wp2_with fail
                  go_roundw
                  case rel => exact ⟨k + 1, T, F5, by omega, rfl, by go_num, hS5, hl5, by rw [Nat.mul_add]; exact hP6, hM6⟩
                  case measure => simp [intOf]; omega
              | false =>
                have s0 : (wr.alloc (.cells #[.string K, .int .i64 O, .int .i64 C, .int .i64 N, .int .i64 Y] 49)).cell? ⟨wr.heap.size, 0, none⟩ = some (.string K) := by simp
                have s1 : (wr.alloc (.cells #[.string K, .int .i64 O, .int .i64 C, .int .i64 N, .int .i64 Y] 49)).cell? ⟨wr.heap.size, 1, none⟩ = some (.int .i64 O) := by simp
                have s2 : (wr.alloc (.cells #[.string K, .int .i64 O, .int .i64 C, .int .i64 N, .int .i64 Y] 49)).cell? ⟨wr.heap.size, 2, none⟩ = some (.int .i64 C) := by simp
                have s3 : (wr.alloc (.cells #[.string K, .int .i64 O, .int .i64 C, .int .i64 N, .int .i64 Y] 49)).cell? ⟨wr.heap.size, 3, none⟩ = some (.int .i64 N) := by simp
                have s4 : (wr.alloc (.cells #[.string K, .int .i64 O, .int .i64 C, .int .i64 N, .int .i64 Y] 49)).cell? ⟨wr.heap.size, 4, none⟩ = some (.int .i64 Y) := by simp
                have hB4 : Below wr.heap.size wr (wr.alloc (.cells #[.string K, .int .i64 O, .int .i64 C, .int .i64 N, .int .i64 Y] 49)) := (Below.refl _ _).alloc (Nat.le_refl _) _
                have hP4 := hP.keptP (KeptP.of_below (F := fun _ => False) hB4) (fun _ g => g.elim)
                have hM4 := hM.nextB hB4
                have L4 := hL.below hM4.below
                have zF : ¬ F wr.heap.size := fun g => by have := hP.lt _ g; omega
                clear hP hM hB4
                have hS5 := hS.slash C Y N
                have hl5 := Nat.le_trans (slash_len S C Y N) (Nat.succ_le_succ hl)
                obtain ⟨T0, T1⟩ := tot_bd hS (by omega)
                obtain ⟨U0, U1⟩ := tot_bd hS5 (by omega)
                go_wp2_with fail
                generalize wr.heap.size = na at *
                generalize wr.alloc (.cells #[.string K, .int .i64 O, .int .i64 C, .int .i64 N, .int .i64 Y] 49) = w4 at *
                refine (ps_slash F sb S hS (by omega) (4 * k) (by omega) C Y N wY A w4 L4 hP4).mono ?_
                rintro e w5 ⟨ev, F5, rfl, hE, hP5, hV⟩
                have hM5 := hM4.next hV
                clear hP4 hM4 hV L4 zF s0 s1 s2 s3 s4
                have eT : S.total - S.slashN C Y N = (S.slash C Y N).total := (hS.slash_total C Y N).symm
                have m0 := hS.slashN_nn C Y N
                by_cases hc : S.slashC C N = 0
                · obtain rfl := hE.nil hc
                  have m1 : S.slashN C Y N ≤ 1000 * 1125899906842624 := by omega
                  have n0 : 0 ≤ S.total - S.slashN C Y N := by omega
                  have n1 : S.total - S.slashN C Y N ≤ 1000 * 1125899906842624 := by omega
                  clear hE hc
                  generalize S.slashN C Y N = Q at *
                  have d1 : ((S.slash C Y N).total != S.total - Q) = false := by rw [eT]; simp
                  have ET := hide eT
                  clear eT
                  generalize S.slash C Y N = T at *
                  go_wp2_with fail
                  refine (ps_total F5 sb T hS5 (by omega) _ w5 hP5).mono ?_
                  rintro e w6 ⟨rfl, hB6⟩
                  have hP6 := hP5.keptP (KeptP.of_below (F := fun _ => False) hB6) (fun _ g => g.elim)
                  have hM6 := hM5.nextB hB6
                  clear hP5 hM5 hB6
                  go_wp2_with fail
                  go_roundw
                  case rel => exact ⟨k + 1, T, F5, by omega, by rw [← ET.out], by go_num, hS5, hl5, by rw [Nat.mul_add]; exact hP6, hM6⟩
                  case measure => simp [intOf]; omega
                · obtain ⟨ix, rfl⟩ := hE.err hc
                  have z := Sk.slashN_err (f := Y) hc
                  rw [z] at eT ⊢
                  have eT2 : S.total = (S.slash C Y N).total := by omega
                  rw [eT2]
                  clear hE hc eT eT2 T0 T1 m0 z
                  have d1 : ((S.slash C Y N).total != (S.slash C Y N).total) = false := by simp
                  generalize S.slash C Y N = T at *
                  go_wp2_with fail
                  refine (ps_total F5 sb T hS5 (by omega) _ w5 hP5).mono ?_
                  rintro e w6 ⟨rfl, hB6⟩
                  have hP6 := hP5.keptP (KeptP.of_below (F := fun _ => False) hB6) (fun _ g => g.elim)
                  have hM6 := hM5.nextB hB6
                  clear hP5 hM5 hB6
                  go_wp2_with fail
                  go_roundw
                  case rel => exact ⟨k + 1, T, F5, by omega, rfl, by go_num, hS5, hl5, by rw [Nat.mul_add]; exact hP6, hM6⟩
                  case measure => simp [intOf]; omega
    · obtain rfl : k = len := by omega
      have hB := hM.below
      clear hP hM
      go_wp2_with fail
      go_ret
      exact ⟨rfl, hB⟩
end Go.Proofs.YtlhffdmhbplpjabDoor
