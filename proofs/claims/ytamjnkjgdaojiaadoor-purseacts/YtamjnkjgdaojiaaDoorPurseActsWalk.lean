/-
  The law PurseActs, walked.
-/
import Derived.Test.YtamjnkjgdaojiaaDoorPursed
import Derived.Test.YtamjnkjgdaojiaaDoorRefPurseActs
import Derived.Test.YtamjnkjgdaojiaaDoorErrTells
import Derived.Test.YtamjnkjgdaojiaaDoorActs
import Derived.Test.YtamjnkjgdaojiaaDoorIntsAt
import Derived.Deep.RegionHeld3
namespace Go.Proofs.YtamjnkjgdaojiaaDoor
open Go.RowKit

theorem Laid.pur {w : World} {A : Nat → Addr} (h : Laid w A) : PurLaid w A := ⟨h.v1, h.v5⟩
set_option maxRecDepth 100000 in
theorem purseActs_many (a a2 : Option Addr) (len cap len2 cap2 : Nat) (A : Nat → Addr) (w : World) (hL : PurLaid w A) (h : 100 < len) (hm : len ≤ 9223372036854775807) :
    Calls Tryd.prog 4 #[.slice a len cap, .slice a2 len2 cap2] w fun e w' => e = .returned (.bool true) ∧ Below w.heap.size w w' := by
  go_enter Tryd.func4, Tryd.ntmps4
  go_wp2_with (go_at_call 7; refine (pursed_of A _ hL).mono ?_; rintro e w1 ⟨rfl, hB1⟩)
  go_ret
  exact ⟨rfl, hB1⟩

set_option maxRecDepth 100000 in
set_option maxHeartbeats 16000000 in
theorem purseActs_walk (a a2 : Option Addr) (b off len cap b2 off2 len2 cap2 : Nat) (K : Nat → ByteArray) (O N T : Nat → Int) (A : Nat → Addr) (w : World) (hL : Laid w A) (ha : Hid (0 < len → a = some ⟨b, off, none⟩)) (hb : Hid (0 < len → b < w.heap.size)) (h100 : len ≤ 100) (hA : Acts w b off len K O N)
    (ha2 : Hid (0 < len2 → a2 = some ⟨b2, off2, none⟩)) (hb2 : Hid (0 < len2 → b2 < w.heap.size)) (hI : Ints w b2 off2 len2 T) :
    Calls Tryd.prog 4 #[.slice a len cap, .slice a2 len2 cap2] w fun e w' => e = .returned (.bool true) ∧ Below w.heap.size w w' := by
  go_enter Tryd.func4, Tryd.ntmps4
  go_wp2_with fail
  refine (pursed_of A w hL.pur).mono ?_
  rintro e w1 ⟨rfl, hB1⟩
  go_wp2_with fail
  refine (pu_new w1).mono ?_
  rintro e w2 ⟨pb, rfl, hpb, hP2, hB2'⟩
  have hB2 := hB1.trans (hB2'.mono hB1.size)
  have gpb := Nat.le_trans hB1.size hpb
  have lpb := hP2.lt
  clear hB1 hB2' hpb
  go_wp2_with fail
  refine (rp_new w2).mono ?_
  rintro e w3 ⟨rb, rq, rfl, hrb, hrq, hR3, hB3'⟩
  have hB3 := hB2.trans (hB3'.mono hB2.size)
  have hP3 := hP2.kept (Kept.of_below (X := []) hB3') (by simp)
  have n1 : pb ≠ rb := by omega
  have n2 : pb ≠ rq := by omega
  have grb := Nat.le_trans hB2.size hrb
  have grq := Nat.le_trans hB2.size hrq
  clear hB2 hB3' hP2 hrb hrq lpb
  go_wp2_with fail
  go_loopw [4, 8] (fun r i wr => ∃ (k : Nat) (x : Pu), k ≤ len ∧ r = .bool false ∧ i = .int .i64 k ∧ x.Ok ∧ PurAt wr pb x ∧ RPu wr rb rq x ∧ Below w.heap.size w wr) (fun _ i _ => len - (intOf i).toNat)
  case atStart => exact ⟨0, none', Nat.zero_le _, rfl, rfl, none_ok, hP3, hR3, hB3⟩
  case round =>
    obtain ⟨k, x, hk, rfl, rfl, hx, hP, hR, hB⟩ := hrel
    clear hP3 hR3 hB3
    by_cases hlt : k < len
    · have hb' : b < w.heap.size := hb.out (by omega)
      obtain rfl := ha.out (by omega)
      obtain ⟨a0, a1, a3, wO, wN⟩ := hA.below hB hb' k hlt
      cases hm : ((K k).toList == [109, 105, 110, 116]) with
      | true =>
        go_wp2_with fail
        have hB4 : Below w.heap.size w (wr.alloc (.cells #[.string (K k), .int .i64 (O k), .int .i64 (N k)] 28)) := hB.alloc hB.size _
        have hK4 : Kept [] wr (wr.alloc (.cells #[.string (K k), .int .i64 (O k), .int .i64 (N k)] 28)) := Kept.of_below ((Below.refl _ _).alloc (Nat.le_refl _) _)
        have s1 : (wr.alloc (.cells #[.string (K k), .int .i64 (O k), .int .i64 (N k)] 28)).cell? ⟨wr.heap.size, 1, none⟩ = some (.int .i64 (O k)) := by simp
        have s2 : (wr.alloc (.cells #[.string (K k), .int .i64 (O k), .int .i64 (N k)] 28)).cell? ⟨wr.heap.size, 2, none⟩ = some (.int .i64 (N k)) := by simp
        have hP4 := hP.kept hK4 (by simp)
        have hR4 := hR.kept hK4 (by simp) (by simp)
        have z1 : wr.heap.size ≠ pb := by have := hP.lt; omega
        have z3 : wr.heap.size ≠ rb := by have := hR.lt.1; omega
        have z4 : wr.heap.size ≠ rq := by have := hR.lt.2; omega
        clear hP hR hK4 a0 a1 a3 hB
        generalize wr.heap.size = na at *
        generalize wr.alloc (.cells #[.string (K k), .int .i64 (O k), .int .i64 (N k)] 28) = w4 at *
        have L4 := hL.below hB4
        go_region_held3 (fun w' => w'.cell? ⟨na, 1, none⟩ = some (.int .i64 (O k)) ∧ w'.cell? ⟨na, 2, none⟩ = some (.int .i64 (N k))) (exact ⟨by assumption, by assumption⟩)
          (first
            | (go_at_call 9; refine (pu_mint pb x hx (O k) (N k) A _ (by first | exact L4.pur | exact (L4.drewN _).pur) (by first | exact hP4 | exact hP4.drewN _)).mono ?_; rintro e w5 ⟨ev, rfl, hE5, hP5, hK5⟩; have s5 : w5.cell? ⟨na, 1, none⟩ = some (.int .i64 (O k)) := hK5.old s1 (by simp [z1]); have t5 : w5.cell? ⟨na, 2, none⟩ = some (.int .i64 (N k)) := hK5.old s2 (by simp [z1]); have hB5 : Below w.heap.size w w5 := (by first | exact hB4.trans (hK5.below hB4.size (by simp [gpb])) | exact (below_drewN hB4 _).trans (hK5.below hB4.size (by simp [gpb]))); have hR5 : RPu w5 rb rq x := (by first | exact hR4.kept hK5 (by simp [n1.symm]) (by simp [n2.symm]) | exact (hR4.drewN _).kept hK5 (by simp [n1.symm]) (by simp [n2.symm])); have L5 := hL.below hB5)
            | (go_at_call 20; refine (rp_mint rb rq x hx (O k) (N k) _ (by first | exact hR5 | exact hR5.drewN _)).mono ?_; rintro e w6 ⟨rfl, hR6, hK6⟩; have s6 : w6.cell? ⟨na, 1, none⟩ = some (.int .i64 (O k)) := hK6.old s5 (by simp [z3, z4]); have t6 : w6.cell? ⟨na, 2, none⟩ = some (.int .i64 (N k)) := hK6.old t5 (by simp [z3, z4]); have hB6 : Below w.heap.size w w6 := (by first | exact hB5.trans (hK6.below hB5.size (by simp [grb, grq])) | exact (below_drewN hB5 _).trans (hK6.below hB5.size (by simp [grb, grq]))); have hP6 : PurAt w6 pb (x.mint (O k) (N k)) := (by first | exact hP5.kept hK6 (by simp [n1, n2]) | exact (hP5.drewN _).kept hK6 (by simp [n1, n2])); have L6 := hL.below hB6)
            | (go_at_call 19; refine (coded_of (hE5.tells (by first | exact L6 | exact L6.drewN _))).mono ?_; rintro e w7 ⟨rfl, hB7⟩; have s7 : w7.cell? ⟨na, 1, none⟩ = some (.int .i64 (O k)) := old_cell hB7 s6; have t7 : w7.cell? ⟨na, 2, none⟩ = some (.int .i64 (N k)) := old_cell hB7 t6))
        have hK7 : Kept [] w6 w7 := Kept.of_below hB7
        have hB8 := hB6.trans (hB7.mono hB6.size)
        have hP8 := hP6.kept hK7 (by simp)
        have hR8 := hR6.kept hK7 (by simp) (by simp)
        have hy : (x.mint (O k) (N k)).Ok := hx.mint _ _
        generalize x.mint (O k) (N k) = y at *
        clear hK7 hB7 hB6 hP6 hR6 s7 t7 s6 t6 s5 t5 s1 s2 hE5 L6 L5 L4 hB4 hB5 hP4 hR4 hP5 hR5 hK5 hK6 hx
        have c1 := hR8.c1
        have d1 : (y.S != y.S) = false := by simp
        have d2 : ¬ y.S < y.sum := by have := hy.le; omega
        go_wp2_with fail
        go_quiet ((first | (go_at_call 16; exact Calls.quiet_of_same (pu_supply pb y _ (hP8.drewN _))) | (go_at_call 26; exact Calls.quiet_of_same (rp_sum rb rq y hy _ (hR8.drewN _)))))
        go_wp2_with fail
        go_loopw [4, 12] (fun r o wx => ∃ q : Nat, q ≤ 6 ∧ r = .bool false ∧ o = .int .i64 q ∧ PurAt wx pb y ∧ RPu wx rb rq y ∧ Below w.heap.size w wx) (fun _ o _ => 6 - (intOf o).toNat)
        case atStart => exact ⟨0, by omega, rfl, rfl, hP8.drewN _, hR8.drewN _, below_drewN hB8 _⟩
        case round =>
          clear hP8 hR8 hB8 c1
          obtain ⟨q, hq, rfl, rfl, hP9, hR9, hB9⟩ := hrel
          by_cases hq6 : q < 6
          · have e1 : (y.s q != y.s q) = false := by simp
            have c0 := hR9.c0
            have cs := hR9.s q hq6
            go_wp2_with fail
            go_quiet (first | (go_at_call 15; exact Calls.quiet_of_same (pu_has pb y hy q _ (hP9.drewN _))))
            go_wp2_with fail
            go_roundw
            case rel => exact ⟨q + 1, by omega, rfl, by go_num, hP9.drewN _, hR9.drewN _, below_drewN hB9 _⟩
            case measure => simp [intOf]; omega
          · go_wp2_with fail
            go_roundw
            case rel => exact ⟨k + 1, y, by omega, rfl, by go_num, hy, hP9, hR9, hB9⟩
            case measure => simp [intOf]; omega
      | false =>
        cases ho : ((K k).toList == [111, 117, 116]) with
        | true =>
          go_wp2_with fail
          have hB4 : Below w.heap.size w (wr.alloc (.cells #[.string (K k), .int .i64 (O k), .int .i64 (N k)] 28)) := hB.alloc hB.size _
          have hK4 : Kept [] wr (wr.alloc (.cells #[.string (K k), .int .i64 (O k), .int .i64 (N k)] 28)) := Kept.of_below ((Below.refl _ _).alloc (Nat.le_refl _) _)
          have s1 : (wr.alloc (.cells #[.string (K k), .int .i64 (O k), .int .i64 (N k)] 28)).cell? ⟨wr.heap.size, 1, none⟩ = some (.int .i64 (O k)) := by simp
          have s2 : (wr.alloc (.cells #[.string (K k), .int .i64 (O k), .int .i64 (N k)] 28)).cell? ⟨wr.heap.size, 2, none⟩ = some (.int .i64 (N k)) := by simp
          have hP4 := hP.kept hK4 (by simp)
          have hR4 := hR.kept hK4 (by simp) (by simp)
          have z1 : wr.heap.size ≠ pb := by have := hP.lt; omega
          have z3 : wr.heap.size ≠ rb := by have := hR.lt.1; omega
          have z4 : wr.heap.size ≠ rq := by have := hR.lt.2; omega
          clear hP hR hK4 a0 a1 a3 hB
          generalize wr.heap.size = na at *
          generalize wr.alloc (.cells #[.string (K k), .int .i64 (O k), .int .i64 (N k)] 28) = w4 at *
          have L4 := hL.below hB4
          go_region_held3 (fun w' => w'.cell? ⟨na, 1, none⟩ = some (.int .i64 (O k)) ∧ w'.cell? ⟨na, 2, none⟩ = some (.int .i64 (N k))) (exact ⟨by assumption, by assumption⟩)
            (first
              | (go_at_call 12; refine (pu_out pb x hx (O k) (N k) A _ (by first | exact L4.pur | exact (L4.drewN _).pur) (by first | exact hP4 | exact hP4.drewN _)).mono ?_; rintro e w5 ⟨ev, rfl, hE5, hP5, hK5⟩; have s5 : w5.cell? ⟨na, 1, none⟩ = some (.int .i64 (O k)) := hK5.old s1 (by simp [z1]); have t5 : w5.cell? ⟨na, 2, none⟩ = some (.int .i64 (N k)) := hK5.old s2 (by simp [z1]); have hB5 : Below w.heap.size w w5 := (by first | exact hB4.trans (hK5.below hB4.size (by simp [gpb])) | exact (below_drewN hB4 _).trans (hK5.below hB4.size (by simp [gpb]))); have hR5 : RPu w5 rb rq x := (by first | exact hR4.kept hK5 (by simp [n1.symm]) (by simp [n2.symm]) | exact (hR4.drewN _).kept hK5 (by simp [n1.symm]) (by simp [n2.symm])); have L5 := hL.below hB5)
              | (go_at_call 21; refine (rp_out rb rq x hx (O k) (N k) _ (by first | exact hR5 | exact hR5.drewN _)).mono ?_; rintro e w6 ⟨rfl, hR6, hK6⟩; have s6 : w6.cell? ⟨na, 1, none⟩ = some (.int .i64 (O k)) := hK6.old s5 (by simp [z3, z4]); have t6 : w6.cell? ⟨na, 2, none⟩ = some (.int .i64 (N k)) := hK6.old t5 (by simp [z3, z4]); have hB6 : Below w.heap.size w w6 := (by first | exact hB5.trans (hK6.below hB5.size (by simp [grb, grq])) | exact (below_drewN hB5 _).trans (hK6.below hB5.size (by simp [grb, grq]))); have hP6 : PurAt w6 pb (x.out (O k) (N k)) := (by first | exact hP5.kept hK6 (by simp [n1, n2]) | exact (hP5.drewN _).kept hK6 (by simp [n1, n2])); have L6 := hL.below hB6)
              | (go_at_call 19; refine (coded_of (hE5.tells (by first | exact L6 | exact L6.drewN _))).mono ?_; rintro e w7 ⟨rfl, hB7⟩; have s7 : w7.cell? ⟨na, 1, none⟩ = some (.int .i64 (O k)) := old_cell hB7 s6; have t7 : w7.cell? ⟨na, 2, none⟩ = some (.int .i64 (N k)) := old_cell hB7 t6))
          have hK7 : Kept [] w6 w7 := Kept.of_below hB7
          have hB8 := hB6.trans (hB7.mono hB6.size)
          have hP8 := hP6.kept hK7 (by simp)
          have hR8 := hR6.kept hK7 (by simp) (by simp)
          have hy : (x.out (O k) (N k)).Ok := hx.out' _ _
          generalize x.out (O k) (N k) = y at *
          clear hK7 hB7 hB6 hP6 hR6 s7 t7 s6 t6 s5 t5 s1 s2 hE5 L6 L5 L4 hB4 hB5 hP4 hR4 hP5 hR5 hK5 hK6 hx
          have c1 := hR8.c1
          have d1 : (y.S != y.S) = false := by simp
          have d2 : ¬ y.S < y.sum := by have := hy.le; omega
          go_wp2_with fail
          go_quiet ((first | (go_at_call 16; exact Calls.quiet_of_same (pu_supply pb y _ (hP8.drewN _))) | (go_at_call 26; exact Calls.quiet_of_same (rp_sum rb rq y hy _ (hR8.drewN _)))))
          go_wp2_with fail
          go_loopw [4, 12] (fun r o wx => ∃ q : Nat, q ≤ 6 ∧ r = .bool false ∧ o = .int .i64 q ∧ PurAt wx pb y ∧ RPu wx rb rq y ∧ Below w.heap.size w wx) (fun _ o _ => 6 - (intOf o).toNat)
          case atStart => exact ⟨0, by omega, rfl, rfl, hP8.drewN _, hR8.drewN _, below_drewN hB8 _⟩
          case round =>
            clear hP8 hR8 hB8 c1
            obtain ⟨q, hq, rfl, rfl, hP9, hR9, hB9⟩ := hrel
            by_cases hq6 : q < 6
            · have e1 : (y.s q != y.s q) = false := by simp
              have c0 := hR9.c0
              have cs := hR9.s q hq6
              go_wp2_with fail
              go_quiet (first | (go_at_call 15; exact Calls.quiet_of_same (pu_has pb y hy q _ (hP9.drewN _))))
              go_wp2_with fail
              go_roundw
              case rel => exact ⟨q + 1, by omega, rfl, by go_num, hP9.drewN _, hR9.drewN _, below_drewN hB9 _⟩
              case measure => simp [intOf]; omega
            · go_wp2_with fail
              go_roundw
              case rel => exact ⟨k + 1, y, by omega, rfl, by go_num, hy, hP9, hR9, hB9⟩
              case measure => simp [intOf]; omega
        | false =>
          cases hi : ((K k).toList == [105, 110]) with
          | true =>
            go_wp2_with fail
            have hB4 : Below w.heap.size w (wr.alloc (.cells #[.string (K k), .int .i64 (O k), .int .i64 (N k)] 28)) := hB.alloc hB.size _
            have hK4 : Kept [] wr (wr.alloc (.cells #[.string (K k), .int .i64 (O k), .int .i64 (N k)] 28)) := Kept.of_below ((Below.refl _ _).alloc (Nat.le_refl _) _)
            have s1 : (wr.alloc (.cells #[.string (K k), .int .i64 (O k), .int .i64 (N k)] 28)).cell? ⟨wr.heap.size, 1, none⟩ = some (.int .i64 (O k)) := by simp
            have s2 : (wr.alloc (.cells #[.string (K k), .int .i64 (O k), .int .i64 (N k)] 28)).cell? ⟨wr.heap.size, 2, none⟩ = some (.int .i64 (N k)) := by simp
            have hP4 := hP.kept hK4 (by simp)
            have hR4 := hR.kept hK4 (by simp) (by simp)
            have z1 : wr.heap.size ≠ pb := by have := hP.lt; omega
            have z3 : wr.heap.size ≠ rb := by have := hR.lt.1; omega
            have z4 : wr.heap.size ≠ rq := by have := hR.lt.2; omega
            clear hP hR hK4 a0 a1 a3 hB
            generalize wr.heap.size = na at *
            generalize wr.alloc (.cells #[.string (K k), .int .i64 (O k), .int .i64 (N k)] 28) = w4 at *
            have L4 := hL.below hB4
            go_region_held3 (fun w' => w'.cell? ⟨na, 1, none⟩ = some (.int .i64 (O k)) ∧ w'.cell? ⟨na, 2, none⟩ = some (.int .i64 (N k))) (exact ⟨by assumption, by assumption⟩)
              (first
                | (go_at_call 13; refine (pu_in pb x hx (O k) (N k) A _ (by first | exact L4.pur | exact (L4.drewN _).pur) (by first | exact hP4 | exact hP4.drewN _)).mono ?_; rintro e w5 ⟨ev, rfl, hE5, hP5, hK5⟩; have s5 : w5.cell? ⟨na, 1, none⟩ = some (.int .i64 (O k)) := hK5.old s1 (by simp [z1]); have t5 : w5.cell? ⟨na, 2, none⟩ = some (.int .i64 (N k)) := hK5.old s2 (by simp [z1]); have hB5 : Below w.heap.size w w5 := (by first | exact hB4.trans (hK5.below hB4.size (by simp [gpb])) | exact (below_drewN hB4 _).trans (hK5.below hB4.size (by simp [gpb]))); have hR5 : RPu w5 rb rq x := (by first | exact hR4.kept hK5 (by simp [n1.symm]) (by simp [n2.symm]) | exact (hR4.drewN _).kept hK5 (by simp [n1.symm]) (by simp [n2.symm])); have L5 := hL.below hB5)
                | (go_at_call 22; refine (rp_in rb rq x hx (O k) (N k) _ (by first | exact hR5 | exact hR5.drewN _)).mono ?_; rintro e w6 ⟨rfl, hR6, hK6⟩; have s6 : w6.cell? ⟨na, 1, none⟩ = some (.int .i64 (O k)) := hK6.old s5 (by simp [z3, z4]); have t6 : w6.cell? ⟨na, 2, none⟩ = some (.int .i64 (N k)) := hK6.old t5 (by simp [z3, z4]); have hB6 : Below w.heap.size w w6 := (by first | exact hB5.trans (hK6.below hB5.size (by simp [grb, grq])) | exact (below_drewN hB5 _).trans (hK6.below hB5.size (by simp [grb, grq]))); have hP6 : PurAt w6 pb (x.in' (O k) (N k)) := (by first | exact hP5.kept hK6 (by simp [n1, n2]) | exact (hP5.drewN _).kept hK6 (by simp [n1, n2])); have L6 := hL.below hB6)
                | (go_at_call 19; refine (coded_of (hE5.tells (by first | exact L6 | exact L6.drewN _))).mono ?_; rintro e w7 ⟨rfl, hB7⟩; have s7 : w7.cell? ⟨na, 1, none⟩ = some (.int .i64 (O k)) := old_cell hB7 s6; have t7 : w7.cell? ⟨na, 2, none⟩ = some (.int .i64 (N k)) := old_cell hB7 t6))
            have hK7 : Kept [] w6 w7 := Kept.of_below hB7
            have hB8 := hB6.trans (hB7.mono hB6.size)
            have hP8 := hP6.kept hK7 (by simp)
            have hR8 := hR6.kept hK7 (by simp) (by simp)
            have hy : (x.in' (O k) (N k)).Ok := hx.in' _ _
            generalize x.in' (O k) (N k) = y at *
            clear hK7 hB7 hB6 hP6 hR6 s7 t7 s6 t6 s5 t5 s1 s2 hE5 L6 L5 L4 hB4 hB5 hP4 hR4 hP5 hR5 hK5 hK6 hx
            have c1 := hR8.c1
            have d1 : (y.S != y.S) = false := by simp
            have d2 : ¬ y.S < y.sum := by have := hy.le; omega
            go_wp2_with fail
            go_quiet ((first | (go_at_call 16; exact Calls.quiet_of_same (pu_supply pb y _ (hP8.drewN _))) | (go_at_call 26; exact Calls.quiet_of_same (rp_sum rb rq y hy _ (hR8.drewN _)))))
            go_wp2_with fail
            go_loopw [4, 12] (fun r o wx => ∃ q : Nat, q ≤ 6 ∧ r = .bool false ∧ o = .int .i64 q ∧ PurAt wx pb y ∧ RPu wx rb rq y ∧ Below w.heap.size w wx) (fun _ o _ => 6 - (intOf o).toNat)
            case atStart => exact ⟨0, by omega, rfl, rfl, hP8.drewN _, hR8.drewN _, below_drewN hB8 _⟩
            case round =>
              clear hP8 hR8 hB8 c1
              obtain ⟨q, hq, rfl, rfl, hP9, hR9, hB9⟩ := hrel
              by_cases hq6 : q < 6
              · have e1 : (y.s q != y.s q) = false := by simp
                have c0 := hR9.c0
                have cs := hR9.s q hq6
                go_wp2_with fail
                go_quiet (first | (go_at_call 15; exact Calls.quiet_of_same (pu_has pb y hy q _ (hP9.drewN _))))
                go_wp2_with fail
                go_roundw
                case rel => exact ⟨q + 1, by omega, rfl, by go_num, hP9.drewN _, hR9.drewN _, below_drewN hB9 _⟩
                case measure => simp [intOf]; omega
              · go_wp2_with fail
                go_roundw
                case rel => exact ⟨k + 1, y, by omega, rfl, by go_num, hy, hP9, hR9, hB9⟩
                case measure => simp [intOf]; omega
          | false =>
            cases hu : ((K k).toList == [98, 117, 114, 110]) with
            | true =>
              go_wp2_with fail
              have hB4 : Below w.heap.size w (wr.alloc (.cells #[.string (K k), .int .i64 (O k), .int .i64 (N k)] 28)) := hB.alloc hB.size _
              have hK4 : Kept [] wr (wr.alloc (.cells #[.string (K k), .int .i64 (O k), .int .i64 (N k)] 28)) := Kept.of_below ((Below.refl _ _).alloc (Nat.le_refl _) _)
              have s1 : (wr.alloc (.cells #[.string (K k), .int .i64 (O k), .int .i64 (N k)] 28)).cell? ⟨wr.heap.size, 1, none⟩ = some (.int .i64 (O k)) := by simp
              have s2 : (wr.alloc (.cells #[.string (K k), .int .i64 (O k), .int .i64 (N k)] 28)).cell? ⟨wr.heap.size, 2, none⟩ = some (.int .i64 (N k)) := by simp
              have hP4 := hP.kept hK4 (by simp)
              have hR4 := hR.kept hK4 (by simp) (by simp)
              have z1 : wr.heap.size ≠ pb := by have := hP.lt; omega
              have z3 : wr.heap.size ≠ rb := by have := hR.lt.1; omega
              have z4 : wr.heap.size ≠ rq := by have := hR.lt.2; omega
              clear hP hR hK4 a0 a1 a3 hB
              generalize wr.heap.size = na at *
              generalize wr.alloc (.cells #[.string (K k), .int .i64 (O k), .int .i64 (N k)] 28) = w4 at *
              have L4 := hL.below hB4
              go_region_held3 (fun w' => w'.cell? ⟨na, 1, none⟩ = some (.int .i64 (O k)) ∧ w'.cell? ⟨na, 2, none⟩ = some (.int .i64 (N k))) (exact ⟨by assumption, by assumption⟩)
                (first
                  | (go_at_call 11; refine (pu_burn pb x hx (N k) A _ (by first | exact L4.pur | exact (L4.drewN _).pur) (by first | exact hP4 | exact hP4.drewN _)).mono ?_; rintro e w5 ⟨ev, rfl, hE5, hP5, hK5⟩; have s5 : w5.cell? ⟨na, 1, none⟩ = some (.int .i64 (O k)) := hK5.old s1 (by simp [z1]); have t5 : w5.cell? ⟨na, 2, none⟩ = some (.int .i64 (N k)) := hK5.old s2 (by simp [z1]); have hB5 : Below w.heap.size w w5 := (by first | exact hB4.trans (hK5.below hB4.size (by simp [gpb])) | exact (below_drewN hB4 _).trans (hK5.below hB4.size (by simp [gpb]))); have hR5 : RPu w5 rb rq x := (by first | exact hR4.kept hK5 (by simp [n1.symm]) (by simp [n2.symm]) | exact (hR4.drewN _).kept hK5 (by simp [n1.symm]) (by simp [n2.symm])); have L5 := hL.below hB5)
                  | (go_at_call 23; refine (rp_burn rb rq x hx (N k) _ (by first | exact hR5 | exact hR5.drewN _)).mono ?_; rintro e w6 ⟨rfl, hR6, hK6⟩; have s6 : w6.cell? ⟨na, 1, none⟩ = some (.int .i64 (O k)) := hK6.old s5 (by simp [z3, z4]); have t6 : w6.cell? ⟨na, 2, none⟩ = some (.int .i64 (N k)) := hK6.old t5 (by simp [z3, z4]); have hB6 : Below w.heap.size w w6 := (by first | exact hB5.trans (hK6.below hB5.size (by simp [grb, grq])) | exact (below_drewN hB5 _).trans (hK6.below hB5.size (by simp [grb, grq]))); have hP6 : PurAt w6 pb (x.burn (N k)) := (by first | exact hP5.kept hK6 (by simp [n1, n2]) | exact (hP5.drewN _).kept hK6 (by simp [n1, n2])); have L6 := hL.below hB6)
                  | (go_at_call 19; refine (coded_of (hE5.tells (by first | exact L6 | exact L6.drewN _))).mono ?_; rintro e w7 ⟨rfl, hB7⟩; have s7 : w7.cell? ⟨na, 1, none⟩ = some (.int .i64 (O k)) := old_cell hB7 s6; have t7 : w7.cell? ⟨na, 2, none⟩ = some (.int .i64 (N k)) := old_cell hB7 t6))
              have hK7 : Kept [] w6 w7 := Kept.of_below hB7
              have hB8 := hB6.trans (hB7.mono hB6.size)
              have hP8 := hP6.kept hK7 (by simp)
              have hR8 := hR6.kept hK7 (by simp) (by simp)
              have hy : (x.burn (N k)).Ok := hx.burn _
              generalize x.burn (N k) = y at *
              clear hK7 hB7 hB6 hP6 hR6 s7 t7 s6 t6 s5 t5 s1 s2 hE5 L6 L5 L4 hB4 hB5 hP4 hR4 hP5 hR5 hK5 hK6 hx
              have c1 := hR8.c1
              have d1 : (y.S != y.S) = false := by simp
              have d2 : ¬ y.S < y.sum := by have := hy.le; omega
              go_wp2_with fail
              go_quiet ((first | (go_at_call 16; exact Calls.quiet_of_same (pu_supply pb y _ (hP8.drewN _))) | (go_at_call 26; exact Calls.quiet_of_same (rp_sum rb rq y hy _ (hR8.drewN _)))))
              go_wp2_with fail
              go_loopw [4, 12] (fun r o wx => ∃ q : Nat, q ≤ 6 ∧ r = .bool false ∧ o = .int .i64 q ∧ PurAt wx pb y ∧ RPu wx rb rq y ∧ Below w.heap.size w wx) (fun _ o _ => 6 - (intOf o).toNat)
              case atStart => exact ⟨0, by omega, rfl, rfl, hP8.drewN _, hR8.drewN _, below_drewN hB8 _⟩
              case round =>
                clear hP8 hR8 hB8 c1
                obtain ⟨q, hq, rfl, rfl, hP9, hR9, hB9⟩ := hrel
                by_cases hq6 : q < 6
                · have e1 : (y.s q != y.s q) = false := by simp
                  have c0 := hR9.c0
                  have cs := hR9.s q hq6
                  go_wp2_with fail
                  go_quiet (first | (go_at_call 15; exact Calls.quiet_of_same (pu_has pb y hy q _ (hP9.drewN _))))
                  go_wp2_with fail
                  go_roundw
                  case rel => exact ⟨q + 1, by omega, rfl, by go_num, hP9.drewN _, hR9.drewN _, below_drewN hB9 _⟩
                  case measure => simp [intOf]; omega
                · go_wp2_with fail
                  go_roundw
                  case rel => exact ⟨k + 1, y, by omega, rfl, by go_num, hy, hP9, hR9, hB9⟩
                  case measure => simp [intOf]; omega
            | false =>
              cases hg : ((K k).toList == [103, 114, 111, 119]) with
              | true =>
                go_wp2_with fail
                have hB4 : Below w.heap.size w (wr.alloc (.cells #[.string (K k), .int .i64 (O k), .int .i64 (N k)] 28)) := hB.alloc hB.size _
                have hK4 : Kept [] wr (wr.alloc (.cells #[.string (K k), .int .i64 (O k), .int .i64 (N k)] 28)) := Kept.of_below ((Below.refl _ _).alloc (Nat.le_refl _) _)
                have s1 : (wr.alloc (.cells #[.string (K k), .int .i64 (O k), .int .i64 (N k)] 28)).cell? ⟨wr.heap.size, 1, none⟩ = some (.int .i64 (O k)) := by simp
                have s2 : (wr.alloc (.cells #[.string (K k), .int .i64 (O k), .int .i64 (N k)] 28)).cell? ⟨wr.heap.size, 2, none⟩ = some (.int .i64 (N k)) := by simp
                have hP4 := hP.kept hK4 (by simp)
                have hR4 := hR.kept hK4 (by simp) (by simp)
                have z1 : wr.heap.size ≠ pb := by have := hP.lt; omega
                have z3 : wr.heap.size ≠ rb := by have := hR.lt.1; omega
                have z4 : wr.heap.size ≠ rq := by have := hR.lt.2; omega
                clear hP hR hK4 a0 a1 a3 hB
                generalize wr.heap.size = na at *
                generalize wr.alloc (.cells #[.string (K k), .int .i64 (O k), .int .i64 (N k)] 28) = w4 at *
                have L4 := hL.below hB4
                go_region_held3 (fun w' => w'.cell? ⟨na, 1, none⟩ = some (.int .i64 (O k)) ∧ w'.cell? ⟨na, 2, none⟩ = some (.int .i64 (N k))) (exact ⟨by assumption, by assumption⟩)
                  (first
                    | (go_at_call 10; refine (pu_grow pb x hx (N k) A _ (by first | exact L4.pur | exact (L4.drewN _).pur) (by first | exact hP4 | exact hP4.drewN _)).mono ?_; rintro e w5 ⟨ev, rfl, hE5, hP5, hK5⟩; have s5 : w5.cell? ⟨na, 1, none⟩ = some (.int .i64 (O k)) := hK5.old s1 (by simp [z1]); have t5 : w5.cell? ⟨na, 2, none⟩ = some (.int .i64 (N k)) := hK5.old s2 (by simp [z1]); have hB5 : Below w.heap.size w w5 := (by first | exact hB4.trans (hK5.below hB4.size (by simp [gpb])) | exact (below_drewN hB4 _).trans (hK5.below hB4.size (by simp [gpb]))); have hR5 : RPu w5 rb rq x := (by first | exact hR4.kept hK5 (by simp [n1.symm]) (by simp [n2.symm]) | exact (hR4.drewN _).kept hK5 (by simp [n1.symm]) (by simp [n2.symm])); have L5 := hL.below hB5)
                    | (go_at_call 24; refine (rp_grow rb rq x hx (N k) _ (by first | exact hR5 | exact hR5.drewN _)).mono ?_; rintro e w6 ⟨rfl, hR6, hK6⟩; have s6 : w6.cell? ⟨na, 1, none⟩ = some (.int .i64 (O k)) := hK6.old s5 (by simp [z3, z4]); have t6 : w6.cell? ⟨na, 2, none⟩ = some (.int .i64 (N k)) := hK6.old t5 (by simp [z3, z4]); have hB6 : Below w.heap.size w w6 := (by first | exact hB5.trans (hK6.below hB5.size (by simp [grb, grq])) | exact (below_drewN hB5 _).trans (hK6.below hB5.size (by simp [grb, grq]))); have hP6 : PurAt w6 pb (x.grow (N k)) := (by first | exact hP5.kept hK6 (by simp [n1, n2]) | exact (hP5.drewN _).kept hK6 (by simp [n1, n2])); have L6 := hL.below hB6)
                    | (go_at_call 19; refine (coded_of (hE5.tells (by first | exact L6 | exact L6.drewN _))).mono ?_; rintro e w7 ⟨rfl, hB7⟩; have s7 : w7.cell? ⟨na, 1, none⟩ = some (.int .i64 (O k)) := old_cell hB7 s6; have t7 : w7.cell? ⟨na, 2, none⟩ = some (.int .i64 (N k)) := old_cell hB7 t6))
                have hK7 : Kept [] w6 w7 := Kept.of_below hB7
                have hB8 := hB6.trans (hB7.mono hB6.size)
                have hP8 := hP6.kept hK7 (by simp)
                have hR8 := hR6.kept hK7 (by simp) (by simp)
                have hy : (x.grow (N k)).Ok := hx.grow _
                generalize x.grow (N k) = y at *
                clear hK7 hB7 hB6 hP6 hR6 s7 t7 s6 t6 s5 t5 s1 s2 hE5 L6 L5 L4 hB4 hB5 hP4 hR4 hP5 hR5 hK5 hK6 hx
                have c1 := hR8.c1
                have d1 : (y.S != y.S) = false := by simp
                have d2 : ¬ y.S < y.sum := by have := hy.le; omega
                go_wp2_with fail
                go_quiet ((first | (go_at_call 16; exact Calls.quiet_of_same (pu_supply pb y _ (hP8.drewN _))) | (go_at_call 26; exact Calls.quiet_of_same (rp_sum rb rq y hy _ (hR8.drewN _)))))
                go_wp2_with fail
                go_loopw [4, 12] (fun r o wx => ∃ q : Nat, q ≤ 6 ∧ r = .bool false ∧ o = .int .i64 q ∧ PurAt wx pb y ∧ RPu wx rb rq y ∧ Below w.heap.size w wx) (fun _ o _ => 6 - (intOf o).toNat)
                case atStart => exact ⟨0, by omega, rfl, rfl, hP8.drewN _, hR8.drewN _, below_drewN hB8 _⟩
                case round =>
                  clear hP8 hR8 hB8 c1
                  obtain ⟨q, hq, rfl, rfl, hP9, hR9, hB9⟩ := hrel
                  by_cases hq6 : q < 6
                  · have e1 : (y.s q != y.s q) = false := by simp
                    have c0 := hR9.c0
                    have cs := hR9.s q hq6
                    go_wp2_with fail
                    go_quiet (first | (go_at_call 15; exact Calls.quiet_of_same (pu_has pb y hy q _ (hP9.drewN _))))
                    go_wp2_with fail
                    go_roundw
                    case rel => exact ⟨q + 1, by omega, rfl, by go_num, hP9.drewN _, hR9.drewN _, below_drewN hB9 _⟩
                    case measure => simp [intOf]; omega
                  · go_wp2_with fail
                    go_roundw
                    case rel => exact ⟨k + 1, y, by omega, rfl, by go_num, hy, hP9, hR9, hB9⟩
                    case measure => simp [intOf]; omega
              | false =>
                by_cases ht : k < len2
                · obtain rfl := ha2.out (by omega)
                  have ct : (wr.alloc (.cells #[.string (K k), .int .i64 (O k), .int .i64 (N k)] 28)).cell? ⟨b2, off2 + k, none⟩ = some (.int .i64 (T k)) := by
                    rw [World.cell?_alloc_lt _ _ ⟨b2, off2 + k, none⟩ (Nat.lt_of_lt_of_le (hb2.out (by omega)) hB.size)]
                    exact hI.below hB (hb2.out (by omega)) k ht
                  go_wp2_with fail
                  have hB4 : Below w.heap.size w (wr.alloc (.cells #[.string (K k), .int .i64 (O k), .int .i64 (N k)] 28)) := hB.alloc hB.size _
                  have hK4 : Kept [] wr (wr.alloc (.cells #[.string (K k), .int .i64 (O k), .int .i64 (N k)] 28)) := Kept.of_below ((Below.refl _ _).alloc (Nat.le_refl _) _)
                  have s1 : (wr.alloc (.cells #[.string (K k), .int .i64 (O k), .int .i64 (N k)] 28)).cell? ⟨wr.heap.size, 1, none⟩ = some (.int .i64 (O k)) := by simp
                  have s2 : (wr.alloc (.cells #[.string (K k), .int .i64 (O k), .int .i64 (N k)] 28)).cell? ⟨wr.heap.size, 2, none⟩ = some (.int .i64 (N k)) := by simp
                  have hP4 := hP.kept hK4 (by simp)
                  have hR4 := hR.kept hK4 (by simp) (by simp)
                  have z1 : wr.heap.size ≠ pb := by have := hP.lt; omega
                  have z3 : wr.heap.size ≠ rb := by have := hR.lt.1; omega
                  have z4 : wr.heap.size ≠ rq := by have := hR.lt.2; omega
                  clear hP hR hK4 a0 a1 a3 hB
                  generalize wr.heap.size = na at *
                  generalize wr.alloc (.cells #[.string (K k), .int .i64 (O k), .int .i64 (N k)] 28) = w4 at *
                  have L4 := hL.below hB4
                  go_region_held3 (fun w' => w'.cell? ⟨na, 1, none⟩ = some (.int .i64 (O k)) ∧ w'.cell? ⟨na, 2, none⟩ = some (.int .i64 (N k))) (exact ⟨by assumption, by assumption⟩)
                    (first
                      | (go_at_call 14; refine (pu_move pb x hx (O k) (T k) (N k) A _ (by first | exact L4.pur | exact (L4.drewN _).pur) (by first | exact hP4 | exact hP4.drewN _)).mono ?_; rintro e w5 ⟨ev, rfl, hE5, hP5, hK5⟩; have s5 : w5.cell? ⟨na, 1, none⟩ = some (.int .i64 (O k)) := hK5.old s1 (by simp [z1]); have t5 : w5.cell? ⟨na, 2, none⟩ = some (.int .i64 (N k)) := hK5.old s2 (by simp [z1]); have hB5 : Below w.heap.size w w5 := (by first | exact hB4.trans (hK5.below hB4.size (by simp [gpb])) | exact (below_drewN hB4 _).trans (hK5.below hB4.size (by simp [gpb]))); have hR5 : RPu w5 rb rq x := (by first | exact hR4.kept hK5 (by simp [n1.symm]) (by simp [n2.symm]) | exact (hR4.drewN _).kept hK5 (by simp [n1.symm]) (by simp [n2.symm])); have L5 := hL.below hB5)
                      | (go_at_call 25; refine (rp_move rb rq x hx (O k) (T k) (N k) _ (by first | exact hR5 | exact hR5.drewN _)).mono ?_; rintro e w6 ⟨rfl, hR6, hK6⟩; have s6 : w6.cell? ⟨na, 1, none⟩ = some (.int .i64 (O k)) := hK6.old s5 (by simp [z3, z4]); have t6 : w6.cell? ⟨na, 2, none⟩ = some (.int .i64 (N k)) := hK6.old t5 (by simp [z3, z4]); have hB6 : Below w.heap.size w w6 := (by first | exact hB5.trans (hK6.below hB5.size (by simp [grb, grq])) | exact (below_drewN hB5 _).trans (hK6.below hB5.size (by simp [grb, grq]))); have hP6 : PurAt w6 pb (x.move (O k) (T k) (N k)) := (by first | exact hP5.kept hK6 (by simp [n1, n2]) | exact (hP5.drewN _).kept hK6 (by simp [n1, n2])); have L6 := hL.below hB6)
                      | (go_at_call 19; refine (coded_of (hE5.tells (by first | exact L6 | exact L6.drewN _))).mono ?_; rintro e w7 ⟨rfl, hB7⟩; have s7 : w7.cell? ⟨na, 1, none⟩ = some (.int .i64 (O k)) := old_cell hB7 s6; have t7 : w7.cell? ⟨na, 2, none⟩ = some (.int .i64 (N k)) := old_cell hB7 t6))
                  have hK7 : Kept [] w6 w7 := Kept.of_below hB7
                  have hB8 := hB6.trans (hB7.mono hB6.size)
                  have hP8 := hP6.kept hK7 (by simp)
                  have hR8 := hR6.kept hK7 (by simp) (by simp)
                  have hy : (x.move (O k) (T k) (N k)).Ok := hx.move _ _ _
                  generalize x.move (O k) (T k) (N k) = y at *
                  clear hK7 hB7 hB6 hP6 hR6 s7 t7 s6 t6 s5 t5 s1 s2 hE5 L6 L5 L4 hB4 hB5 hP4 hR4 hP5 hR5 hK5 hK6 hx
                  have c1 := hR8.c1
                  have d1 : (y.S != y.S) = false := by simp
                  have d2 : ¬ y.S < y.sum := by have := hy.le; omega
                  go_wp2_with fail
                  go_quiet ((first | (go_at_call 16; exact Calls.quiet_of_same (pu_supply pb y _ (hP8.drewN _))) | (go_at_call 26; exact Calls.quiet_of_same (rp_sum rb rq y hy _ (hR8.drewN _)))))
                  go_wp2_with fail
                  go_loopw [4, 12] (fun r o wx => ∃ q : Nat, q ≤ 6 ∧ r = .bool false ∧ o = .int .i64 q ∧ PurAt wx pb y ∧ RPu wx rb rq y ∧ Below w.heap.size w wx) (fun _ o _ => 6 - (intOf o).toNat)
                  case atStart => exact ⟨0, by omega, rfl, rfl, hP8.drewN _, hR8.drewN _, below_drewN hB8 _⟩
                  case round =>
                    clear hP8 hR8 hB8 c1
                    obtain ⟨q, hq, rfl, rfl, hP9, hR9, hB9⟩ := hrel
                    by_cases hq6 : q < 6
                    · have e1 : (y.s q != y.s q) = false := by simp
                      have c0 := hR9.c0
                      have cs := hR9.s q hq6
                      go_wp2_with fail
                      go_quiet (first | (go_at_call 15; exact Calls.quiet_of_same (pu_has pb y hy q _ (hP9.drewN _))))
                      go_wp2_with fail
                      go_roundw
                      case rel => exact ⟨q + 1, by omega, rfl, by go_num, hP9.drewN _, hR9.drewN _, below_drewN hB9 _⟩
                      case measure => simp [intOf]; omega
                    · go_wp2_with fail
                      go_roundw
                      case rel => exact ⟨k + 1, y, by omega, rfl, by go_num, hy, hP9, hR9, hB9⟩
                      case measure => simp [intOf]; omega
                · go_wp2_with fail
                  have hB4 : Below w.heap.size w (wr.alloc (.cells #[.string (K k), .int .i64 (O k), .int .i64 (N k)] 28)) := hB.alloc hB.size _
                  have hK4 : Kept [] wr (wr.alloc (.cells #[.string (K k), .int .i64 (O k), .int .i64 (N k)] 28)) := Kept.of_below ((Below.refl _ _).alloc (Nat.le_refl _) _)
                  have s1 : (wr.alloc (.cells #[.string (K k), .int .i64 (O k), .int .i64 (N k)] 28)).cell? ⟨wr.heap.size, 1, none⟩ = some (.int .i64 (O k)) := by simp
                  have s2 : (wr.alloc (.cells #[.string (K k), .int .i64 (O k), .int .i64 (N k)] 28)).cell? ⟨wr.heap.size, 2, none⟩ = some (.int .i64 (N k)) := by simp
                  have hP4 := hP.kept hK4 (by simp)
                  have hR4 := hR.kept hK4 (by simp) (by simp)
                  have z1 : wr.heap.size ≠ pb := by have := hP.lt; omega
                  have z3 : wr.heap.size ≠ rb := by have := hR.lt.1; omega
                  have z4 : wr.heap.size ≠ rq := by have := hR.lt.2; omega
                  clear hP hR hK4 a0 a1 a3 hB
                  generalize wr.heap.size = na at *
                  generalize wr.alloc (.cells #[.string (K k), .int .i64 (O k), .int .i64 (N k)] 28) = w4 at *
                  have L4 := hL.below hB4
                  go_region_held3 (fun w' => w'.cell? ⟨na, 1, none⟩ = some (.int .i64 (O k)) ∧ w'.cell? ⟨na, 2, none⟩ = some (.int .i64 (N k))) (exact ⟨by assumption, by assumption⟩)
                    (first
                      | (go_at_call 14; refine (pu_move pb x hx (O k) (0) (N k) A _ (by first | exact L4.pur | exact (L4.drewN _).pur) (by first | exact hP4 | exact hP4.drewN _)).mono ?_; rintro e w5 ⟨ev, rfl, hE5, hP5, hK5⟩; have s5 : w5.cell? ⟨na, 1, none⟩ = some (.int .i64 (O k)) := hK5.old s1 (by simp [z1]); have t5 : w5.cell? ⟨na, 2, none⟩ = some (.int .i64 (N k)) := hK5.old s2 (by simp [z1]); have hB5 : Below w.heap.size w w5 := (by first | exact hB4.trans (hK5.below hB4.size (by simp [gpb])) | exact (below_drewN hB4 _).trans (hK5.below hB4.size (by simp [gpb]))); have hR5 : RPu w5 rb rq x := (by first | exact hR4.kept hK5 (by simp [n1.symm]) (by simp [n2.symm]) | exact (hR4.drewN _).kept hK5 (by simp [n1.symm]) (by simp [n2.symm])); have L5 := hL.below hB5)
                      | (go_at_call 25; refine (rp_move rb rq x hx (O k) (0) (N k) _ (by first | exact hR5 | exact hR5.drewN _)).mono ?_; rintro e w6 ⟨rfl, hR6, hK6⟩; have s6 : w6.cell? ⟨na, 1, none⟩ = some (.int .i64 (O k)) := hK6.old s5 (by simp [z3, z4]); have t6 : w6.cell? ⟨na, 2, none⟩ = some (.int .i64 (N k)) := hK6.old t5 (by simp [z3, z4]); have hB6 : Below w.heap.size w w6 := (by first | exact hB5.trans (hK6.below hB5.size (by simp [grb, grq])) | exact (below_drewN hB5 _).trans (hK6.below hB5.size (by simp [grb, grq]))); have hP6 : PurAt w6 pb (x.move (O k) (0) (N k)) := (by first | exact hP5.kept hK6 (by simp [n1, n2]) | exact (hP5.drewN _).kept hK6 (by simp [n1, n2])); have L6 := hL.below hB6)
                      | (go_at_call 19; refine (coded_of (hE5.tells (by first | exact L6 | exact L6.drewN _))).mono ?_; rintro e w7 ⟨rfl, hB7⟩; have s7 : w7.cell? ⟨na, 1, none⟩ = some (.int .i64 (O k)) := old_cell hB7 s6; have t7 : w7.cell? ⟨na, 2, none⟩ = some (.int .i64 (N k)) := old_cell hB7 t6))
                  have hK7 : Kept [] w6 w7 := Kept.of_below hB7
                  have hB8 := hB6.trans (hB7.mono hB6.size)
                  have hP8 := hP6.kept hK7 (by simp)
                  have hR8 := hR6.kept hK7 (by simp) (by simp)
                  have hy : (x.move (O k) (0) (N k)).Ok := hx.move _ _ _
                  generalize x.move (O k) (0) (N k) = y at *
                  clear hK7 hB7 hB6 hP6 hR6 s7 t7 s6 t6 s5 t5 s1 s2 hE5 L6 L5 L4 hB4 hB5 hP4 hR4 hP5 hR5 hK5 hK6 hx
                  have c1 := hR8.c1
                  have d1 : (y.S != y.S) = false := by simp
                  have d2 : ¬ y.S < y.sum := by have := hy.le; omega
                  go_wp2_with fail
                  go_quiet ((first | (go_at_call 16; exact Calls.quiet_of_same (pu_supply pb y _ (hP8.drewN _))) | (go_at_call 26; exact Calls.quiet_of_same (rp_sum rb rq y hy _ (hR8.drewN _)))))
                  go_wp2_with fail
                  go_loopw [4, 12] (fun r o wx => ∃ q : Nat, q ≤ 6 ∧ r = .bool false ∧ o = .int .i64 q ∧ PurAt wx pb y ∧ RPu wx rb rq y ∧ Below w.heap.size w wx) (fun _ o _ => 6 - (intOf o).toNat)
                  case atStart => exact ⟨0, by omega, rfl, rfl, hP8.drewN _, hR8.drewN _, below_drewN hB8 _⟩
                  case round =>
                    clear hP8 hR8 hB8 c1
                    obtain ⟨q, hq, rfl, rfl, hP9, hR9, hB9⟩ := hrel
                    by_cases hq6 : q < 6
                    · have e1 : (y.s q != y.s q) = false := by simp
                      have c0 := hR9.c0
                      have cs := hR9.s q hq6
                      go_wp2_with fail
                      go_quiet (first | (go_at_call 15; exact Calls.quiet_of_same (pu_has pb y hy q _ (hP9.drewN _))))
                      go_wp2_with fail
                      go_roundw
                      case rel => exact ⟨q + 1, by omega, rfl, by go_num, hP9.drewN _, hR9.drewN _, below_drewN hB9 _⟩
                      case measure => simp [intOf]; omega
                    · go_wp2_with fail
                      go_roundw
                      case rel => exact ⟨k + 1, y, by omega, rfl, by go_num, hy, hP9, hR9, hB9⟩
                      case measure => simp [intOf]; omega
    · obtain rfl : len = k := by omega
      clear hlt hk
      have q1 := pu_has pb x hx (-1) wr hP
      have q2 := pu_has pb x hx 6 wr hP
      rw [hx.out (-1) (by omega)] at q1
      rw [hx.out 6 (by omega)] at q2
      go_wp2_with fail
      refine q1.mono ?_
      rintro e w5 ⟨rfl, rfl⟩
      go_wp2_with fail
      refine q2.mono ?_
      rintro e w5 ⟨rfl, rfl⟩
      go_wp2_with fail
      go_ret
      exact ⟨rfl, hB⟩
end Go.Proofs.YtamjnkjgdaojiaaDoor
