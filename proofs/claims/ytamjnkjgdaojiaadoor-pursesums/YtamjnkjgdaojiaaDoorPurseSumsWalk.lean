/-
  The law PurseSums, walked.
-/
import Derived.Test.YtamjnkjgdaojiaaDoorPursed
import Derived.Test.YtamjnkjgdaojiaaDoorSumP
import Derived.Test.YtamjnkjgdaojiaaDoorActs
import Derived.Test.YtamjnkjgdaojiaaDoorIntsAt
namespace Go.Proofs.YtamjnkjgdaojiaaDoor
open Go.RowKit

set_option maxRecDepth 100000 in
theorem purseSums_many (a a2 : Option Addr) (len cap len2 cap2 : Nat) (A : Nat → Addr) (w : World) (hL : PurLaid w A) (h : 100 < len) (hm : len ≤ 9223372036854775807) :
    Calls Tryd.prog 3 #[.slice a len cap, .slice a2 len2 cap2] w fun e w' => e = .returned (.bool true) ∧ Below w.heap.size w w' := by
  go_enter Tryd.func3, Tryd.ntmps3
  go_wp2_with (go_at_call 7; refine (pursed_of A _ hL).mono ?_; rintro e w1 ⟨rfl, hB1⟩)
  go_ret
  exact ⟨rfl, hB1⟩

set_option maxRecDepth 100000 in
set_option maxHeartbeats 16000000 in
theorem purseSums_walk (a a2 : Option Addr) (b off len cap b2 off2 len2 cap2 : Nat) (K : Nat → ByteArray) (O N T : Nat → Int) (A : Nat → Addr) (w : World) (hL : PurLaid w A) (ha : Hid (0 < len → a = some ⟨b, off, none⟩)) (hb : Hid (0 < len → b < w.heap.size)) (h100 : len ≤ 100) (hA : Acts w b off len K O N)
    (ha2 : Hid (0 < len2 → a2 = some ⟨b2, off2, none⟩)) (hb2 : Hid (0 < len2 → b2 < w.heap.size)) (hI : Ints w b2 off2 len2 T) :
    Calls Tryd.prog 3 #[.slice a len cap, .slice a2 len2 cap2] w fun e w' => e = .returned (.bool true) ∧ Below w.heap.size w w' := by
  go_enter Tryd.func3, Tryd.ntmps3
  go_wp2_with fail
  refine (pursed_of A w hL).mono ?_
  rintro e w1 ⟨rfl, hB1⟩
  go_wp2_with fail
  refine (pu_new w1).mono ?_
  rintro e w2 ⟨pb, rfl, hpb, hP2, hB2'⟩
  have hB2 := hB1.trans (hB2'.mono hB1.size)
  have gpb := Nat.le_trans hB1.size hpb
  clear hB1 hB2' hpb
  go_wp2_with fail
  go_loopw [4, 7, 8] (fun r s i wr => ∃ (k : Nat) (x : Pu), k ≤ len ∧ r = .bool false ∧ s = .int .i64 x.S ∧ i = .int .i64 k ∧ x.Ok ∧ PurAt wr pb x ∧ Below w.heap.size w wr) (fun _ _ i _ => len - (intOf i).toNat)
  case atStart => exact ⟨0, none', Nat.zero_le _, rfl, rfl, rfl, none_ok, hP2, hB2⟩
  case round =>
    obtain ⟨k, x, hk, rfl, rfl, rfl, hx, hP, hB⟩ := hrel
    clear hP2 hB2
    by_cases hlt : k < len
    · have hb' : b < w.heap.size := hb.out (by omega)
      obtain rfl := ha.out (by omega)
      obtain ⟨a0, a1, a3, wO, wN⟩ := hA.below hB hb' k hlt
      have x0 := hx.sum0
      have x1 := hx.le
      have x2 := hx.top
      cases hm : ((K k).toList == [109, 105, 110, 116]) with
      | true =>
        by_cases hc : x.mintC (O k) (N k) = 0
        · have hS : (x.mint (O k) (N k)).S = x.S + N k := by unfold Pu.mint; rw [if_pos hc]
          have hN : 0 ≤ N k ∧ x.S + N k ≤ 1125899906842624 := by
            unfold Pu.mintC at hc
            split at hc
            · next g => exact ⟨g.2.1.1, g.2.2⟩
            · omega
          go_wp2_with fail
          have hB4 : Below w.heap.size w (wr.alloc (.cells #[.string (K k), .int .i64 (O k), .int .i64 (N k)] 28)) := hB.alloc hB.size _
          have hK4 : Kept [] wr (wr.alloc (.cells #[.string (K k), .int .i64 (O k), .int .i64 (N k)] 28)) := Kept.of_below ((Below.refl _ _).alloc (Nat.le_refl _) _)
          have s1 : (wr.alloc (.cells #[.string (K k), .int .i64 (O k), .int .i64 (N k)] 28)).cell? ⟨wr.heap.size, 1, none⟩ = some (.int .i64 (O k)) := by simp
          have s2 : (wr.alloc (.cells #[.string (K k), .int .i64 (O k), .int .i64 (N k)] 28)).cell? ⟨wr.heap.size, 2, none⟩ = some (.int .i64 (N k)) := by simp
          have hP4 := hP.kept hK4 (by simp)
          have z1 : wr.heap.size ≠ pb := by have := hP.lt; omega
          clear hP hK4 a0 a1 a3 hB
          generalize wr.heap.size = na at *
          generalize wr.alloc (.cells #[.string (K k), .int .i64 (O k), .int .i64 (N k)] 28) = w4 at *
          have L4 := hL.below hB4
          refine (pu_mint pb x hx (O k) (N k) A w4 L4 hP4).mono ?_
          rintro e w5 ⟨ev, rfl, hE5, hP5, hK5⟩
          have t5 : w5.cell? ⟨na, 2, none⟩ = some (.int .i64 (N k)) := hK5.old s2 (by simp [z1])
          have hB5 : Below w.heap.size w w5 := hB4.trans (hK5.below hB4.size (by simp [gpb]))
          rw [hc] at hE5
          obtain rfl := hE5.zero
          have hy : (x.mint (O k) (N k)).Ok := hx.mint _ _
          have hyS : Hid (x.S + N k = (x.mint (O k) (N k)).S) := hS.symm
          clear hE5 s1 s2 L4 hB4 hP4 hK5 hx
          generalize x.mint (O k) (N k) = y at *
          have y0 := hy.sum0
          have y1 := hy.le
          have y2 := hy.top
          go_wp2_with fail
          go_loopw [4, 11, 12] (fun r s o wx => ∃ q : Nat, q ≤ 6 ∧ r = .bool false ∧ s = .int .i64 (sumQ y q) ∧ o = .int .i64 q ∧ wx = w5) (fun _ _ o _ => 6 - (intOf o).toNat)
          case atStart => exact ⟨0, by omega, rfl, rfl, rfl, rfl⟩
          case round =>
            obtain ⟨q, hq, rfl, rfl, rfl, rfl⟩ := hrel
            by_cases hq6 : q < 6
            · have sb := sumQ_bd hy q (by omega)
              have sb2 := sumQ_bd hy (q + 1) (by omega)
              have he : sumQ y (q + 1) = sumQ y q + y.s q := rfl
              rw [he] at sb2
              have p0 := hy.pos q
              have HE := hide he
              clear he
              go_wp2_with (go_at_call 15; refine (pu_has pb y hy q _ hP5).mono ?_; rintro e w' ⟨rfl, rfl⟩)
              go_roundw
              case rel => exact ⟨q + 1, by omega, rfl, by rw [HE.out], by go_num, by first | rfl | trivial⟩
              case measure => simp [intOf]; omega
            · obtain rfl : q = 6 := by omega
              have e6 := sumQ_six y
              have d2 : ¬ x.S + N k < sumQ y 6 := by rw [e6]; have := hyS.out; omega
              have d1 : (y.S != x.S + N k) = false := by rw [hyS.out]; simp
              have IA := isAmt_of (x.S + N k) (by have := hyS.out; omega) (by have := hyS.out; omega)
              clear e6
              go_wp2_with (first | (go_at_call 16; refine (pu_supply pb y _ hP5).mono ?_; rintro e w' ⟨rfl, rfl⟩) | (go_at_call 17; refine (IA _).mono ?_; rintro e w' ⟨rfl, rfl⟩))
              go_roundw
              case rel => exact ⟨k + 1, y, by omega, rfl, by rw [hyS.out], by go_num, hy, hP5, hB5⟩
              case measure => simp [intOf]; omega
        · have hS : (x.mint (O k) (N k)).S = x.S := by unfold Pu.mint; rw [if_neg hc]
          go_wp2_with fail
          have hB4 : Below w.heap.size w (wr.alloc (.cells #[.string (K k), .int .i64 (O k), .int .i64 (N k)] 28)) := hB.alloc hB.size _
          have hK4 : Kept [] wr (wr.alloc (.cells #[.string (K k), .int .i64 (O k), .int .i64 (N k)] 28)) := Kept.of_below ((Below.refl _ _).alloc (Nat.le_refl _) _)
          have s1 : (wr.alloc (.cells #[.string (K k), .int .i64 (O k), .int .i64 (N k)] 28)).cell? ⟨wr.heap.size, 1, none⟩ = some (.int .i64 (O k)) := by simp
          have s2 : (wr.alloc (.cells #[.string (K k), .int .i64 (O k), .int .i64 (N k)] 28)).cell? ⟨wr.heap.size, 2, none⟩ = some (.int .i64 (N k)) := by simp
          have hP4 := hP.kept hK4 (by simp)
          have z1 : wr.heap.size ≠ pb := by have := hP.lt; omega
          clear hP hK4 a0 a1 a3 hB
          generalize wr.heap.size = na at *
          generalize wr.alloc (.cells #[.string (K k), .int .i64 (O k), .int .i64 (N k)] 28) = w4 at *
          have L4 := hL.below hB4
          refine (pu_mint pb x hx (O k) (N k) A w4 L4 hP4).mono ?_
          rintro e w5 ⟨ev, rfl, hE5, hP5, hK5⟩
          have t5 : w5.cell? ⟨na, 2, none⟩ = some (.int .i64 (N k)) := hK5.old s2 (by simp [z1])
          have hB5 : Below w.heap.size w w5 := hB4.trans (hK5.below hB4.size (by simp [gpb]))
          obtain ⟨ei, rfl⟩ := hE5.some hc
          have hy : (x.mint (O k) (N k)).Ok := hx.mint _ _
          have hyS : Hid (x.S = (x.mint (O k) (N k)).S) := hS.symm
          clear hE5 s1 s2 L4 hB4 hP4 hK5 hx
          generalize x.mint (O k) (N k) = y at *
          have y0 := hy.sum0
          have y1 := hy.le
          have y2 := hy.top
          go_wp2_with fail
          go_loopw [4, 11, 12] (fun r s o wx => ∃ q : Nat, q ≤ 6 ∧ r = .bool false ∧ s = .int .i64 (sumQ y q) ∧ o = .int .i64 q ∧ wx = w5) (fun _ _ o _ => 6 - (intOf o).toNat)
          case atStart => exact ⟨0, by omega, rfl, rfl, rfl, rfl⟩
          case round =>
            obtain ⟨q, hq, rfl, rfl, rfl, rfl⟩ := hrel
            by_cases hq6 : q < 6
            · have sb := sumQ_bd hy q (by omega)
              have sb2 := sumQ_bd hy (q + 1) (by omega)
              have he : sumQ y (q + 1) = sumQ y q + y.s q := rfl
              rw [he] at sb2
              have p0 := hy.pos q
              have HE := hide he
              clear he
              go_wp2_with (go_at_call 15; refine (pu_has pb y hy q _ hP5).mono ?_; rintro e w' ⟨rfl, rfl⟩)
              go_roundw
              case rel => exact ⟨q + 1, by omega, rfl, by rw [HE.out], by go_num, by first | rfl | trivial⟩
              case measure => simp [intOf]; omega
            · obtain rfl : q = 6 := by omega
              have e6 := sumQ_six y
              have d2 : ¬ x.S < sumQ y 6 := by rw [e6]; have := hyS.out; omega
              have d1 : (y.S != x.S) = false := by rw [hyS.out]; simp
              have IA := isAmt_of (x.S) (by have := hyS.out; omega) (by have := hyS.out; omega)
              clear e6
              go_wp2_with (first | (go_at_call 16; refine (pu_supply pb y _ hP5).mono ?_; rintro e w' ⟨rfl, rfl⟩) | (go_at_call 17; refine (IA _).mono ?_; rintro e w' ⟨rfl, rfl⟩))
              go_roundw
              case rel => exact ⟨k + 1, y, by omega, rfl, by rw [hyS.out], by go_num, hy, hP5, hB5⟩
              case measure => simp [intOf]; omega
      | false =>
        cases hg : ((K k).toList == [103, 114, 111, 119]) with
        | true =>
          by_cases hc : x.growC (N k) = 0
          · have hS : (x.grow (N k)).S = x.S + N k := by unfold Pu.grow; rw [if_pos hc]
            have hN : 0 ≤ N k ∧ x.S + N k ≤ 1125899906842624 := by
              unfold Pu.growC at hc
              split at hc
              · next g => exact ⟨g.1.1, g.2⟩
              · omega
            go_wp2_with fail
            have hB4 : Below w.heap.size w (wr.alloc (.cells #[.string (K k), .int .i64 (O k), .int .i64 (N k)] 28)) := hB.alloc hB.size _
            have hK4 : Kept [] wr (wr.alloc (.cells #[.string (K k), .int .i64 (O k), .int .i64 (N k)] 28)) := Kept.of_below ((Below.refl _ _).alloc (Nat.le_refl _) _)
            have s1 : (wr.alloc (.cells #[.string (K k), .int .i64 (O k), .int .i64 (N k)] 28)).cell? ⟨wr.heap.size, 1, none⟩ = some (.int .i64 (O k)) := by simp
            have s2 : (wr.alloc (.cells #[.string (K k), .int .i64 (O k), .int .i64 (N k)] 28)).cell? ⟨wr.heap.size, 2, none⟩ = some (.int .i64 (N k)) := by simp
            have hP4 := hP.kept hK4 (by simp)
            have z1 : wr.heap.size ≠ pb := by have := hP.lt; omega
            clear hP hK4 a0 a1 a3 hB
            generalize wr.heap.size = na at *
            generalize wr.alloc (.cells #[.string (K k), .int .i64 (O k), .int .i64 (N k)] 28) = w4 at *
            have L4 := hL.below hB4
            refine (pu_grow pb x hx (N k) A w4 L4 hP4).mono ?_
            rintro e w5 ⟨ev, rfl, hE5, hP5, hK5⟩
            have t5 : w5.cell? ⟨na, 2, none⟩ = some (.int .i64 (N k)) := hK5.old s2 (by simp [z1])
            have hB5 : Below w.heap.size w w5 := hB4.trans (hK5.below hB4.size (by simp [gpb]))
            rw [hc] at hE5
            obtain rfl := hE5.zero
            have hy : (x.grow (N k)).Ok := hx.grow _
            have hyS : Hid (x.S + N k = (x.grow (N k)).S) := hS.symm
            clear hE5 s1 s2 L4 hB4 hP4 hK5 hx
            generalize x.grow (N k) = y at *
            have y0 := hy.sum0
            have y1 := hy.le
            have y2 := hy.top
            go_wp2_with fail
            go_loopw [4, 11, 12] (fun r s o wx => ∃ q : Nat, q ≤ 6 ∧ r = .bool false ∧ s = .int .i64 (sumQ y q) ∧ o = .int .i64 q ∧ wx = w5) (fun _ _ o _ => 6 - (intOf o).toNat)
            case atStart => exact ⟨0, by omega, rfl, rfl, rfl, rfl⟩
            case round =>
              obtain ⟨q, hq, rfl, rfl, rfl, rfl⟩ := hrel
              by_cases hq6 : q < 6
              · have sb := sumQ_bd hy q (by omega)
                have sb2 := sumQ_bd hy (q + 1) (by omega)
                have he : sumQ y (q + 1) = sumQ y q + y.s q := rfl
                rw [he] at sb2
                have p0 := hy.pos q
                have HE := hide he
                clear he
                go_wp2_with (go_at_call 15; refine (pu_has pb y hy q _ hP5).mono ?_; rintro e w' ⟨rfl, rfl⟩)
                go_roundw
                case rel => exact ⟨q + 1, by omega, rfl, by rw [HE.out], by go_num, by first | rfl | trivial⟩
                case measure => simp [intOf]; omega
              · obtain rfl : q = 6 := by omega
                have e6 := sumQ_six y
                have d2 : ¬ x.S + N k < sumQ y 6 := by rw [e6]; have := hyS.out; omega
                have d1 : (y.S != x.S + N k) = false := by rw [hyS.out]; simp
                have IA := isAmt_of (x.S + N k) (by have := hyS.out; omega) (by have := hyS.out; omega)
                clear e6
                go_wp2_with (first | (go_at_call 16; refine (pu_supply pb y _ hP5).mono ?_; rintro e w' ⟨rfl, rfl⟩) | (go_at_call 17; refine (IA _).mono ?_; rintro e w' ⟨rfl, rfl⟩))
                go_roundw
                case rel => exact ⟨k + 1, y, by omega, rfl, by rw [hyS.out], by go_num, hy, hP5, hB5⟩
                case measure => simp [intOf]; omega
          · have hS : (x.grow (N k)).S = x.S := by unfold Pu.grow; rw [if_neg hc]
            go_wp2_with fail
            have hB4 : Below w.heap.size w (wr.alloc (.cells #[.string (K k), .int .i64 (O k), .int .i64 (N k)] 28)) := hB.alloc hB.size _
            have hK4 : Kept [] wr (wr.alloc (.cells #[.string (K k), .int .i64 (O k), .int .i64 (N k)] 28)) := Kept.of_below ((Below.refl _ _).alloc (Nat.le_refl _) _)
            have s1 : (wr.alloc (.cells #[.string (K k), .int .i64 (O k), .int .i64 (N k)] 28)).cell? ⟨wr.heap.size, 1, none⟩ = some (.int .i64 (O k)) := by simp
            have s2 : (wr.alloc (.cells #[.string (K k), .int .i64 (O k), .int .i64 (N k)] 28)).cell? ⟨wr.heap.size, 2, none⟩ = some (.int .i64 (N k)) := by simp
            have hP4 := hP.kept hK4 (by simp)
            have z1 : wr.heap.size ≠ pb := by have := hP.lt; omega
            clear hP hK4 a0 a1 a3 hB
            generalize wr.heap.size = na at *
            generalize wr.alloc (.cells #[.string (K k), .int .i64 (O k), .int .i64 (N k)] 28) = w4 at *
            have L4 := hL.below hB4
            refine (pu_grow pb x hx (N k) A w4 L4 hP4).mono ?_
            rintro e w5 ⟨ev, rfl, hE5, hP5, hK5⟩
            have t5 : w5.cell? ⟨na, 2, none⟩ = some (.int .i64 (N k)) := hK5.old s2 (by simp [z1])
            have hB5 : Below w.heap.size w w5 := hB4.trans (hK5.below hB4.size (by simp [gpb]))
            obtain ⟨ei, rfl⟩ := hE5.some hc
            have hy : (x.grow (N k)).Ok := hx.grow _
            have hyS : Hid (x.S = (x.grow (N k)).S) := hS.symm
            clear hE5 s1 s2 L4 hB4 hP4 hK5 hx
            generalize x.grow (N k) = y at *
            have y0 := hy.sum0
            have y1 := hy.le
            have y2 := hy.top
            go_wp2_with fail
            go_loopw [4, 11, 12] (fun r s o wx => ∃ q : Nat, q ≤ 6 ∧ r = .bool false ∧ s = .int .i64 (sumQ y q) ∧ o = .int .i64 q ∧ wx = w5) (fun _ _ o _ => 6 - (intOf o).toNat)
            case atStart => exact ⟨0, by omega, rfl, rfl, rfl, rfl⟩
            case round =>
              obtain ⟨q, hq, rfl, rfl, rfl, rfl⟩ := hrel
              by_cases hq6 : q < 6
              · have sb := sumQ_bd hy q (by omega)
                have sb2 := sumQ_bd hy (q + 1) (by omega)
                have he : sumQ y (q + 1) = sumQ y q + y.s q := rfl
                rw [he] at sb2
                have p0 := hy.pos q
                have HE := hide he
                clear he
                go_wp2_with (go_at_call 15; refine (pu_has pb y hy q _ hP5).mono ?_; rintro e w' ⟨rfl, rfl⟩)
                go_roundw
                case rel => exact ⟨q + 1, by omega, rfl, by rw [HE.out], by go_num, by first | rfl | trivial⟩
                case measure => simp [intOf]; omega
              · obtain rfl : q = 6 := by omega
                have e6 := sumQ_six y
                have d2 : ¬ x.S < sumQ y 6 := by rw [e6]; have := hyS.out; omega
                have d1 : (y.S != x.S) = false := by rw [hyS.out]; simp
                have IA := isAmt_of (x.S) (by have := hyS.out; omega) (by have := hyS.out; omega)
                clear e6
                go_wp2_with (first | (go_at_call 16; refine (pu_supply pb y _ hP5).mono ?_; rintro e w' ⟨rfl, rfl⟩) | (go_at_call 17; refine (IA _).mono ?_; rintro e w' ⟨rfl, rfl⟩))
                go_roundw
                case rel => exact ⟨k + 1, y, by omega, rfl, by rw [hyS.out], by go_num, hy, hP5, hB5⟩
                case measure => simp [intOf]; omega
        | false =>
          cases hu : ((K k).toList == [98, 117, 114, 110]) with
          | true =>
            by_cases hc : x.burnC (N k) = 0
            · have hS : (x.burn (N k)).S = x.S - N k := by unfold Pu.burn; rw [if_pos hc]
              have hN : 0 ≤ N k ∧ N k ≤ x.S := by
                unfold Pu.burnC at hc
                split at hc
                · omega
                · next g =>
                  split at hc
                  · omega
                  · have : Amt (N k) := Classical.not_not.1 g
                    exact ⟨this.1, by omega⟩
              go_wp2_with fail
              have hB4 : Below w.heap.size w (wr.alloc (.cells #[.string (K k), .int .i64 (O k), .int .i64 (N k)] 28)) := hB.alloc hB.size _
              have hK4 : Kept [] wr (wr.alloc (.cells #[.string (K k), .int .i64 (O k), .int .i64 (N k)] 28)) := Kept.of_below ((Below.refl _ _).alloc (Nat.le_refl _) _)
              have s1 : (wr.alloc (.cells #[.string (K k), .int .i64 (O k), .int .i64 (N k)] 28)).cell? ⟨wr.heap.size, 1, none⟩ = some (.int .i64 (O k)) := by simp
              have s2 : (wr.alloc (.cells #[.string (K k), .int .i64 (O k), .int .i64 (N k)] 28)).cell? ⟨wr.heap.size, 2, none⟩ = some (.int .i64 (N k)) := by simp
              have hP4 := hP.kept hK4 (by simp)
              have z1 : wr.heap.size ≠ pb := by have := hP.lt; omega
              clear hP hK4 a0 a1 a3 hB
              generalize wr.heap.size = na at *
              generalize wr.alloc (.cells #[.string (K k), .int .i64 (O k), .int .i64 (N k)] 28) = w4 at *
              have L4 := hL.below hB4
              refine (pu_burn pb x hx (N k) A w4 L4 hP4).mono ?_
              rintro e w5 ⟨ev, rfl, hE5, hP5, hK5⟩
              have t5 : w5.cell? ⟨na, 2, none⟩ = some (.int .i64 (N k)) := hK5.old s2 (by simp [z1])
              have hB5 : Below w.heap.size w w5 := hB4.trans (hK5.below hB4.size (by simp [gpb]))
              rw [hc] at hE5
              obtain rfl := hE5.zero
              have hy : (x.burn (N k)).Ok := hx.burn _
              have hyS : Hid (x.S - N k = (x.burn (N k)).S) := hS.symm
              clear hE5 s1 s2 L4 hB4 hP4 hK5 hx
              generalize x.burn (N k) = y at *
              have y0 := hy.sum0
              have y1 := hy.le
              have y2 := hy.top
              go_wp2_with fail
              go_loopw [4, 11, 12] (fun r s o wx => ∃ q : Nat, q ≤ 6 ∧ r = .bool false ∧ s = .int .i64 (sumQ y q) ∧ o = .int .i64 q ∧ wx = w5) (fun _ _ o _ => 6 - (intOf o).toNat)
              case atStart => exact ⟨0, by omega, rfl, rfl, rfl, rfl⟩
              case round =>
                obtain ⟨q, hq, rfl, rfl, rfl, rfl⟩ := hrel
                by_cases hq6 : q < 6
                · have sb := sumQ_bd hy q (by omega)
                  have sb2 := sumQ_bd hy (q + 1) (by omega)
                  have he : sumQ y (q + 1) = sumQ y q + y.s q := rfl
                  rw [he] at sb2
                  have p0 := hy.pos q
                  have HE := hide he
                  clear he
                  go_wp2_with (go_at_call 15; refine (pu_has pb y hy q _ hP5).mono ?_; rintro e w' ⟨rfl, rfl⟩)
                  go_roundw
                  case rel => exact ⟨q + 1, by omega, rfl, by rw [HE.out], by go_num, by first | rfl | trivial⟩
                  case measure => simp [intOf]; omega
                · obtain rfl : q = 6 := by omega
                  have e6 := sumQ_six y
                  have d2 : ¬ x.S - N k < sumQ y 6 := by rw [e6]; have := hyS.out; omega
                  have d1 : (y.S != x.S - N k) = false := by rw [hyS.out]; simp
                  have IA := isAmt_of (x.S - N k) (by have := hyS.out; omega) (by have := hyS.out; omega)
                  clear e6
                  go_wp2_with (first | (go_at_call 16; refine (pu_supply pb y _ hP5).mono ?_; rintro e w' ⟨rfl, rfl⟩) | (go_at_call 17; refine (IA _).mono ?_; rintro e w' ⟨rfl, rfl⟩))
                  go_roundw
                  case rel => exact ⟨k + 1, y, by omega, rfl, by rw [hyS.out], by go_num, hy, hP5, hB5⟩
                  case measure => simp [intOf]; omega
            · have hS : (x.burn (N k)).S = x.S := by unfold Pu.burn; rw [if_neg hc]
              go_wp2_with fail
              have hB4 : Below w.heap.size w (wr.alloc (.cells #[.string (K k), .int .i64 (O k), .int .i64 (N k)] 28)) := hB.alloc hB.size _
              have hK4 : Kept [] wr (wr.alloc (.cells #[.string (K k), .int .i64 (O k), .int .i64 (N k)] 28)) := Kept.of_below ((Below.refl _ _).alloc (Nat.le_refl _) _)
              have s1 : (wr.alloc (.cells #[.string (K k), .int .i64 (O k), .int .i64 (N k)] 28)).cell? ⟨wr.heap.size, 1, none⟩ = some (.int .i64 (O k)) := by simp
              have s2 : (wr.alloc (.cells #[.string (K k), .int .i64 (O k), .int .i64 (N k)] 28)).cell? ⟨wr.heap.size, 2, none⟩ = some (.int .i64 (N k)) := by simp
              have hP4 := hP.kept hK4 (by simp)
              have z1 : wr.heap.size ≠ pb := by have := hP.lt; omega
              clear hP hK4 a0 a1 a3 hB
              generalize wr.heap.size = na at *
              generalize wr.alloc (.cells #[.string (K k), .int .i64 (O k), .int .i64 (N k)] 28) = w4 at *
              have L4 := hL.below hB4
              refine (pu_burn pb x hx (N k) A w4 L4 hP4).mono ?_
              rintro e w5 ⟨ev, rfl, hE5, hP5, hK5⟩
              have t5 : w5.cell? ⟨na, 2, none⟩ = some (.int .i64 (N k)) := hK5.old s2 (by simp [z1])
              have hB5 : Below w.heap.size w w5 := hB4.trans (hK5.below hB4.size (by simp [gpb]))
              obtain ⟨ei, rfl⟩ := hE5.some hc
              have hy : (x.burn (N k)).Ok := hx.burn _
              have hyS : Hid (x.S = (x.burn (N k)).S) := hS.symm
              clear hE5 s1 s2 L4 hB4 hP4 hK5 hx
              generalize x.burn (N k) = y at *
              have y0 := hy.sum0
              have y1 := hy.le
              have y2 := hy.top
              go_wp2_with fail
              go_loopw [4, 11, 12] (fun r s o wx => ∃ q : Nat, q ≤ 6 ∧ r = .bool false ∧ s = .int .i64 (sumQ y q) ∧ o = .int .i64 q ∧ wx = w5) (fun _ _ o _ => 6 - (intOf o).toNat)
              case atStart => exact ⟨0, by omega, rfl, rfl, rfl, rfl⟩
              case round =>
                obtain ⟨q, hq, rfl, rfl, rfl, rfl⟩ := hrel
                by_cases hq6 : q < 6
                · have sb := sumQ_bd hy q (by omega)
                  have sb2 := sumQ_bd hy (q + 1) (by omega)
                  have he : sumQ y (q + 1) = sumQ y q + y.s q := rfl
                  rw [he] at sb2
                  have p0 := hy.pos q
                  have HE := hide he
                  clear he
                  go_wp2_with (go_at_call 15; refine (pu_has pb y hy q _ hP5).mono ?_; rintro e w' ⟨rfl, rfl⟩)
                  go_roundw
                  case rel => exact ⟨q + 1, by omega, rfl, by rw [HE.out], by go_num, by first | rfl | trivial⟩
                  case measure => simp [intOf]; omega
                · obtain rfl : q = 6 := by omega
                  have e6 := sumQ_six y
                  have d2 : ¬ x.S < sumQ y 6 := by rw [e6]; have := hyS.out; omega
                  have d1 : (y.S != x.S) = false := by rw [hyS.out]; simp
                  have IA := isAmt_of (x.S) (by have := hyS.out; omega) (by have := hyS.out; omega)
                  clear e6
                  go_wp2_with (first | (go_at_call 16; refine (pu_supply pb y _ hP5).mono ?_; rintro e w' ⟨rfl, rfl⟩) | (go_at_call 17; refine (IA _).mono ?_; rintro e w' ⟨rfl, rfl⟩))
                  go_roundw
                  case rel => exact ⟨k + 1, y, by omega, rfl, by rw [hyS.out], by go_num, hy, hP5, hB5⟩
                  case measure => simp [intOf]; omega
          | false =>
            cases ho : ((K k).toList == [111, 117, 116]) with
            | true =>
              have hS : (x.out (O k) (N k)).S = x.S := by unfold Pu.out; split <;> rfl
              go_wp2_with fail
              have hB4 : Below w.heap.size w (wr.alloc (.cells #[.string (K k), .int .i64 (O k), .int .i64 (N k)] 28)) := hB.alloc hB.size _
              have hK4 : Kept [] wr (wr.alloc (.cells #[.string (K k), .int .i64 (O k), .int .i64 (N k)] 28)) := Kept.of_below ((Below.refl _ _).alloc (Nat.le_refl _) _)
              have s1 : (wr.alloc (.cells #[.string (K k), .int .i64 (O k), .int .i64 (N k)] 28)).cell? ⟨wr.heap.size, 1, none⟩ = some (.int .i64 (O k)) := by simp
              have s2 : (wr.alloc (.cells #[.string (K k), .int .i64 (O k), .int .i64 (N k)] 28)).cell? ⟨wr.heap.size, 2, none⟩ = some (.int .i64 (N k)) := by simp
              have hP4 := hP.kept hK4 (by simp)
              have z1 : wr.heap.size ≠ pb := by have := hP.lt; omega
              clear hP hK4 a0 a1 a3 hB
              generalize wr.heap.size = na at *
              generalize wr.alloc (.cells #[.string (K k), .int .i64 (O k), .int .i64 (N k)] 28) = w4 at *
              have L4 := hL.below hB4
              refine (pu_out pb x hx (O k) (N k) A w4 L4 hP4).mono ?_
              rintro e w5 ⟨ev, rfl, hE5, hP5, hK5⟩
              have t5 : w5.cell? ⟨na, 2, none⟩ = some (.int .i64 (N k)) := hK5.old s2 (by simp [z1])
              have hB5 : Below w.heap.size w w5 := hB4.trans (hK5.below hB4.size (by simp [gpb]))
              have hy : (x.out (O k) (N k)).Ok := hx.out' _ _
              have hyS : Hid (x.S = (x.out (O k) (N k)).S) := hS.symm
              clear hE5 s1 s2 L4 hB4 hP4 hK5 hx
              generalize x.out (O k) (N k) = y at *
              have y0 := hy.sum0
              have y1 := hy.le
              have y2 := hy.top
              go_wp2_with fail
              go_loopw [4, 11, 12] (fun r s o wx => ∃ q : Nat, q ≤ 6 ∧ r = .bool false ∧ s = .int .i64 (sumQ y q) ∧ o = .int .i64 q ∧ wx = w5) (fun _ _ o _ => 6 - (intOf o).toNat)
              case atStart => exact ⟨0, by omega, rfl, rfl, rfl, rfl⟩
              case round =>
                obtain ⟨q, hq, rfl, rfl, rfl, rfl⟩ := hrel
                by_cases hq6 : q < 6
                · have sb := sumQ_bd hy q (by omega)
                  have sb2 := sumQ_bd hy (q + 1) (by omega)
                  have he : sumQ y (q + 1) = sumQ y q + y.s q := rfl
                  rw [he] at sb2
                  have p0 := hy.pos q
                  have HE := hide he
                  clear he
                  go_wp2_with (go_at_call 15; refine (pu_has pb y hy q _ hP5).mono ?_; rintro e w' ⟨rfl, rfl⟩)
                  go_roundw
                  case rel => exact ⟨q + 1, by omega, rfl, by rw [HE.out], by go_num, by first | rfl | trivial⟩
                  case measure => simp [intOf]; omega
                · obtain rfl : q = 6 := by omega
                  have e6 := sumQ_six y
                  have d2 : ¬ x.S < sumQ y 6 := by rw [e6]; have := hyS.out; omega
                  have d1 : (y.S != x.S) = false := by rw [hyS.out]; simp
                  have IA := isAmt_of (x.S) (by have := hyS.out; omega) (by have := hyS.out; omega)
                  clear e6
                  go_wp2_with (first | (go_at_call 16; refine (pu_supply pb y _ hP5).mono ?_; rintro e w' ⟨rfl, rfl⟩) | (go_at_call 17; refine (IA _).mono ?_; rintro e w' ⟨rfl, rfl⟩))
                  go_roundw
                  case rel => exact ⟨k + 1, y, by omega, rfl, by rw [hyS.out], by go_num, hy, hP5, hB5⟩
                  case measure => simp [intOf]; omega
            | false =>
              cases hi : ((K k).toList == [105, 110]) with
              | true =>
                have hS : (x.in' (O k) (N k)).S = x.S := by unfold Pu.in'; split <;> rfl
                go_wp2_with fail
                have hB4 : Below w.heap.size w (wr.alloc (.cells #[.string (K k), .int .i64 (O k), .int .i64 (N k)] 28)) := hB.alloc hB.size _
                have hK4 : Kept [] wr (wr.alloc (.cells #[.string (K k), .int .i64 (O k), .int .i64 (N k)] 28)) := Kept.of_below ((Below.refl _ _).alloc (Nat.le_refl _) _)
                have s1 : (wr.alloc (.cells #[.string (K k), .int .i64 (O k), .int .i64 (N k)] 28)).cell? ⟨wr.heap.size, 1, none⟩ = some (.int .i64 (O k)) := by simp
                have s2 : (wr.alloc (.cells #[.string (K k), .int .i64 (O k), .int .i64 (N k)] 28)).cell? ⟨wr.heap.size, 2, none⟩ = some (.int .i64 (N k)) := by simp
                have hP4 := hP.kept hK4 (by simp)
                have z1 : wr.heap.size ≠ pb := by have := hP.lt; omega
                clear hP hK4 a0 a1 a3 hB
                generalize wr.heap.size = na at *
                generalize wr.alloc (.cells #[.string (K k), .int .i64 (O k), .int .i64 (N k)] 28) = w4 at *
                have L4 := hL.below hB4
                refine (pu_in pb x hx (O k) (N k) A w4 L4 hP4).mono ?_
                rintro e w5 ⟨ev, rfl, hE5, hP5, hK5⟩
                have t5 : w5.cell? ⟨na, 2, none⟩ = some (.int .i64 (N k)) := hK5.old s2 (by simp [z1])
                have hB5 : Below w.heap.size w w5 := hB4.trans (hK5.below hB4.size (by simp [gpb]))
                have hy : (x.in' (O k) (N k)).Ok := hx.in' _ _
                have hyS : Hid (x.S = (x.in' (O k) (N k)).S) := hS.symm
                clear hE5 s1 s2 L4 hB4 hP4 hK5 hx
                generalize x.in' (O k) (N k) = y at *
                have y0 := hy.sum0
                have y1 := hy.le
                have y2 := hy.top
                go_wp2_with fail
                go_loopw [4, 11, 12] (fun r s o wx => ∃ q : Nat, q ≤ 6 ∧ r = .bool false ∧ s = .int .i64 (sumQ y q) ∧ o = .int .i64 q ∧ wx = w5) (fun _ _ o _ => 6 - (intOf o).toNat)
                case atStart => exact ⟨0, by omega, rfl, rfl, rfl, rfl⟩
                case round =>
                  obtain ⟨q, hq, rfl, rfl, rfl, rfl⟩ := hrel
                  by_cases hq6 : q < 6
                  · have sb := sumQ_bd hy q (by omega)
                    have sb2 := sumQ_bd hy (q + 1) (by omega)
                    have he : sumQ y (q + 1) = sumQ y q + y.s q := rfl
                    rw [he] at sb2
                    have p0 := hy.pos q
                    have HE := hide he
                    clear he
                    go_wp2_with (go_at_call 15; refine (pu_has pb y hy q _ hP5).mono ?_; rintro e w' ⟨rfl, rfl⟩)
                    go_roundw
                    case rel => exact ⟨q + 1, by omega, rfl, by rw [HE.out], by go_num, by first | rfl | trivial⟩
                    case measure => simp [intOf]; omega
                  · obtain rfl : q = 6 := by omega
                    have e6 := sumQ_six y
                    have d2 : ¬ x.S < sumQ y 6 := by rw [e6]; have := hyS.out; omega
                    have d1 : (y.S != x.S) = false := by rw [hyS.out]; simp
                    have IA := isAmt_of (x.S) (by have := hyS.out; omega) (by have := hyS.out; omega)
                    clear e6
                    go_wp2_with (first | (go_at_call 16; refine (pu_supply pb y _ hP5).mono ?_; rintro e w' ⟨rfl, rfl⟩) | (go_at_call 17; refine (IA _).mono ?_; rintro e w' ⟨rfl, rfl⟩))
                    go_roundw
                    case rel => exact ⟨k + 1, y, by omega, rfl, by rw [hyS.out], by go_num, hy, hP5, hB5⟩
                    case measure => simp [intOf]; omega
              | false =>
                by_cases ht : k < len2
                · obtain rfl := ha2.out (by omega)
                  have ct : (wr.alloc (.cells #[.string (K k), .int .i64 (O k), .int .i64 (N k)] 28)).cell? ⟨b2, off2 + k, none⟩ = some (.int .i64 (T k)) := by
                    rw [World.cell?_alloc_lt _ _ ⟨b2, off2 + k, none⟩ (Nat.lt_of_lt_of_le (hb2.out (by omega)) hB.size)]
                    exact hI.below hB (hb2.out (by omega)) k ht
                  have hS : (x.move (O k) (T k) (N k)).S = x.S := by unfold Pu.move; split <;> rfl
                  go_wp2_with fail
                  have hB4 : Below w.heap.size w (wr.alloc (.cells #[.string (K k), .int .i64 (O k), .int .i64 (N k)] 28)) := hB.alloc hB.size _
                  have hK4 : Kept [] wr (wr.alloc (.cells #[.string (K k), .int .i64 (O k), .int .i64 (N k)] 28)) := Kept.of_below ((Below.refl _ _).alloc (Nat.le_refl _) _)
                  have s1 : (wr.alloc (.cells #[.string (K k), .int .i64 (O k), .int .i64 (N k)] 28)).cell? ⟨wr.heap.size, 1, none⟩ = some (.int .i64 (O k)) := by simp
                  have s2 : (wr.alloc (.cells #[.string (K k), .int .i64 (O k), .int .i64 (N k)] 28)).cell? ⟨wr.heap.size, 2, none⟩ = some (.int .i64 (N k)) := by simp
                  have hP4 := hP.kept hK4 (by simp)
                  have z1 : wr.heap.size ≠ pb := by have := hP.lt; omega
                  clear hP hK4 a0 a1 a3 hB
                  generalize wr.heap.size = na at *
                  generalize wr.alloc (.cells #[.string (K k), .int .i64 (O k), .int .i64 (N k)] 28) = w4 at *
                  have L4 := hL.below hB4
                  refine (pu_move pb x hx (O k) (T k) (N k) A w4 L4 hP4).mono ?_
                  rintro e w5 ⟨ev, rfl, hE5, hP5, hK5⟩
                  have t5 : w5.cell? ⟨na, 2, none⟩ = some (.int .i64 (N k)) := hK5.old s2 (by simp [z1])
                  have hB5 : Below w.heap.size w w5 := hB4.trans (hK5.below hB4.size (by simp [gpb]))
                  have hy : (x.move (O k) (T k) (N k)).Ok := hx.move _ _ _
                  have hyS : Hid (x.S = (x.move (O k) (T k) (N k)).S) := hS.symm
                  clear hE5 s1 s2 L4 hB4 hP4 hK5 hx
                  generalize x.move (O k) (T k) (N k) = y at *
                  have y0 := hy.sum0
                  have y1 := hy.le
                  have y2 := hy.top
                  go_wp2_with fail
                  go_loopw [4, 11, 12] (fun r s o wx => ∃ q : Nat, q ≤ 6 ∧ r = .bool false ∧ s = .int .i64 (sumQ y q) ∧ o = .int .i64 q ∧ wx = w5) (fun _ _ o _ => 6 - (intOf o).toNat)
                  case atStart => exact ⟨0, by omega, rfl, rfl, rfl, rfl⟩
                  case round =>
                    obtain ⟨q, hq, rfl, rfl, rfl, rfl⟩ := hrel
                    by_cases hq6 : q < 6
                    · have sb := sumQ_bd hy q (by omega)
                      have sb2 := sumQ_bd hy (q + 1) (by omega)
                      have he : sumQ y (q + 1) = sumQ y q + y.s q := rfl
                      rw [he] at sb2
                      have p0 := hy.pos q
                      have HE := hide he
                      clear he
                      go_wp2_with (go_at_call 15; refine (pu_has pb y hy q _ hP5).mono ?_; rintro e w' ⟨rfl, rfl⟩)
                      go_roundw
                      case rel => exact ⟨q + 1, by omega, rfl, by rw [HE.out], by go_num, by first | rfl | trivial⟩
                      case measure => simp [intOf]; omega
                    · obtain rfl : q = 6 := by omega
                      have e6 := sumQ_six y
                      have d2 : ¬ x.S < sumQ y 6 := by rw [e6]; have := hyS.out; omega
                      have d1 : (y.S != x.S) = false := by rw [hyS.out]; simp
                      have IA := isAmt_of (x.S) (by have := hyS.out; omega) (by have := hyS.out; omega)
                      clear e6
                      go_wp2_with (first | (go_at_call 16; refine (pu_supply pb y _ hP5).mono ?_; rintro e w' ⟨rfl, rfl⟩) | (go_at_call 17; refine (IA _).mono ?_; rintro e w' ⟨rfl, rfl⟩))
                      go_roundw
                      case rel => exact ⟨k + 1, y, by omega, rfl, by rw [hyS.out], by go_num, hy, hP5, hB5⟩
                      case measure => simp [intOf]; omega
                · have hS : (x.move (O k) (0) (N k)).S = x.S := by unfold Pu.move; split <;> rfl
                  go_wp2_with fail
                  have hB4 : Below w.heap.size w (wr.alloc (.cells #[.string (K k), .int .i64 (O k), .int .i64 (N k)] 28)) := hB.alloc hB.size _
                  have hK4 : Kept [] wr (wr.alloc (.cells #[.string (K k), .int .i64 (O k), .int .i64 (N k)] 28)) := Kept.of_below ((Below.refl _ _).alloc (Nat.le_refl _) _)
                  have s1 : (wr.alloc (.cells #[.string (K k), .int .i64 (O k), .int .i64 (N k)] 28)).cell? ⟨wr.heap.size, 1, none⟩ = some (.int .i64 (O k)) := by simp
                  have s2 : (wr.alloc (.cells #[.string (K k), .int .i64 (O k), .int .i64 (N k)] 28)).cell? ⟨wr.heap.size, 2, none⟩ = some (.int .i64 (N k)) := by simp
                  have hP4 := hP.kept hK4 (by simp)
                  have z1 : wr.heap.size ≠ pb := by have := hP.lt; omega
                  clear hP hK4 a0 a1 a3 hB
                  generalize wr.heap.size = na at *
                  generalize wr.alloc (.cells #[.string (K k), .int .i64 (O k), .int .i64 (N k)] 28) = w4 at *
                  have L4 := hL.below hB4
                  refine (pu_move pb x hx (O k) (0) (N k) A w4 L4 hP4).mono ?_
                  rintro e w5 ⟨ev, rfl, hE5, hP5, hK5⟩
                  have t5 : w5.cell? ⟨na, 2, none⟩ = some (.int .i64 (N k)) := hK5.old s2 (by simp [z1])
                  have hB5 : Below w.heap.size w w5 := hB4.trans (hK5.below hB4.size (by simp [gpb]))
                  have hy : (x.move (O k) (0) (N k)).Ok := hx.move _ _ _
                  have hyS : Hid (x.S = (x.move (O k) (0) (N k)).S) := hS.symm
                  clear hE5 s1 s2 L4 hB4 hP4 hK5 hx
                  generalize x.move (O k) (0) (N k) = y at *
                  have y0 := hy.sum0
                  have y1 := hy.le
                  have y2 := hy.top
                  go_wp2_with fail
                  go_loopw [4, 11, 12] (fun r s o wx => ∃ q : Nat, q ≤ 6 ∧ r = .bool false ∧ s = .int .i64 (sumQ y q) ∧ o = .int .i64 q ∧ wx = w5) (fun _ _ o _ => 6 - (intOf o).toNat)
                  case atStart => exact ⟨0, by omega, rfl, rfl, rfl, rfl⟩
                  case round =>
                    obtain ⟨q, hq, rfl, rfl, rfl, rfl⟩ := hrel
                    by_cases hq6 : q < 6
                    · have sb := sumQ_bd hy q (by omega)
                      have sb2 := sumQ_bd hy (q + 1) (by omega)
                      have he : sumQ y (q + 1) = sumQ y q + y.s q := rfl
                      rw [he] at sb2
                      have p0 := hy.pos q
                      have HE := hide he
                      clear he
                      go_wp2_with (go_at_call 15; refine (pu_has pb y hy q _ hP5).mono ?_; rintro e w' ⟨rfl, rfl⟩)
                      go_roundw
                      case rel => exact ⟨q + 1, by omega, rfl, by rw [HE.out], by go_num, by first | rfl | trivial⟩
                      case measure => simp [intOf]; omega
                    · obtain rfl : q = 6 := by omega
                      have e6 := sumQ_six y
                      have d2 : ¬ x.S < sumQ y 6 := by rw [e6]; have := hyS.out; omega
                      have d1 : (y.S != x.S) = false := by rw [hyS.out]; simp
                      have IA := isAmt_of (x.S) (by have := hyS.out; omega) (by have := hyS.out; omega)
                      clear e6
                      go_wp2_with (first | (go_at_call 16; refine (pu_supply pb y _ hP5).mono ?_; rintro e w' ⟨rfl, rfl⟩) | (go_at_call 17; refine (IA _).mono ?_; rintro e w' ⟨rfl, rfl⟩))
                      go_roundw
                      case rel => exact ⟨k + 1, y, by omega, rfl, by rw [hyS.out], by go_num, hy, hP5, hB5⟩
                      case measure => simp [intOf]; omega
    · obtain rfl : len = k := by omega
      go_wp2_with fail
      go_ret
      exact ⟨rfl, hB⟩
end Go.Proofs.YtamjnkjgdaojiaaDoor
