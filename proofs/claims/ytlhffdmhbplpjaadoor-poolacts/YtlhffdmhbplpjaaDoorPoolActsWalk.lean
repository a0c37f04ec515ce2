/-
  The law PoolActs, walked: for every slice of acts it returns true.
-/
import Derived.Test.YtlhffdmhbplpjaaDoorJoined
import Derived.Test.YtlhffdmhbplpjaaDoorPoolLaidOf
import Derived.Test.YtlhffdmhbplpjaaDoorRefJoin
import Derived.Test.YtlhffdmhbplpjaaDoorRefNew
import Derived.Test.YtlhffdmhbplpjaaDoorActs
import Derived.Deep.RegionHeld3
namespace Go.Proofs.YtlhffdmhbplpjaaDoor
open Go.RowKit

set_option maxRecDepth 100000 in
set_option maxHeartbeats 4000000 in
theorem poolActs_walk (b off len cap : Nat) (K : Nat → ByteArray) (O N : Nat → Int) (A : Nat → Addr) (w : World) (hL : Laid w A) (hb : b < w.heap.size) (h1 : 0 < len) (h100 : len ≤ 100) (hA : Acts w b off len K O N) :
    Calls Tryd.prog 10 #[.slice (some ⟨b, off, none⟩) len cap] w fun e w' => e = .returned (.bool true) ∧ Below w.heap.size w w' := by
  go_enter Tryd.func10, Tryd.ntmps10
  go_wp2_with fail
  refine (joined_yes A true w hL.pool).mono ?_
  rintro e w1 ⟨rfl, hB1⟩
  go_wp2_with fail
  refine (prog_new _).mono ?_
  rintro e w2 ⟨pb, pm, rfl, hpb, hpm, hP2, hB2'⟩
  have hB2 := hB1.trans (hB2'.mono hB1.size)
  have hpb2 := hP2.lt.1
  have hpm2 := hP2.lt.2
  have gpb := Nat.le_trans hB1.size hpb
  have gpm := Nat.le_trans hB1.size hpm
  have npb := hP2.ne
  clear hB1 hB2' hpb hpm
  go_wp2_with fail
  refine (ref_new _).mono ?_
  rintro e w3 ⟨rb, rq, rfl, hrb, hrq, _, _, hR3, hB3'⟩
  have hB3 := hB2.trans (hB3'.mono hB2.size)
  have hP3 := hP2.kept (Kept.of_below (X := []) hB3') (by simp) (by simp)
  have n1 : pb ≠ rb := by omega
  have n2 : pb ≠ rq := by omega
  have n3 : pm ≠ rb := by omega
  have n4 : pm ≠ rq := by omega
  have n5 := hR3.ne
  have grb := Nat.le_trans hB2.size hrb
  have grq := Nat.le_trans hB2.size hrq
  clear hB2 hB3' hP2 hrb hrq hpb2 hpm2
  go_wp2_with fail
  go_loopw [6] (fun i w' => ∃ (k : Nat) (x : St), k ≤ len ∧ i = .int .i64 k ∧ x.Ok ∧ PoolAt w' pb pm x (4 * k) ∧ RefAt w' rb rq x ∧ Below w.heap.size w w') (fun i _ => len - (intOf i).toNat)
  case atStart => exact ⟨0, st0, Nat.zero_le _, rfl, st0_ok, hP3, hR3, hB3⟩
  case round =>
    obtain ⟨k, x, hk, rfl, hx, hP, hR, hB⟩ := hrel
    clear hP3 hR3 hB3
    by_cases hlt : k < len
    · obtain ⟨a0, a1, a2, wO, wN⟩ := hA.below hB hb k hlt
      have hbr : b < wr.heap.size := Nat.lt_of_lt_of_le hb hB.size
      have hg : 4 * k ≤ 1000000 := by omega
      cases hj : ((K k).toList == [106, 111, 105, 110]) with
      | true =>
        go_wp2_with fail
        have hB4 : Below w.heap.size w (wr.alloc (.cells #[.string (K k), .int .i64 (O k), .int .i64 (N k)] 56)) := hB.alloc hB.size _
        have hK4 : Kept [] wr (wr.alloc (.cells #[.string (K k), .int .i64 (O k), .int .i64 (N k)] 56)) := Kept.of_below ((Below.refl _ _).alloc (Nat.le_refl _) _)
        have s1 : (wr.alloc (.cells #[.string (K k), .int .i64 (O k), .int .i64 (N k)] 56)).cell? ⟨wr.heap.size, 1, none⟩ = some (.int .i64 (O k)) := by simp
        have s2 : (wr.alloc (.cells #[.string (K k), .int .i64 (O k), .int .i64 (N k)] 56)).cell? ⟨wr.heap.size, 2, none⟩ = some (.int .i64 (N k)) := by simp
        have hP4 := hP.kept hK4 (by simp) (by simp)
        have hR4 := hR.kept hK4 (by simp) (by simp)
        have z1 : wr.heap.size ≠ pb := by have := hP.lt.1; omega
        have z2 : wr.heap.size ≠ pm := by have := hP.lt.2; omega
        have z3 : wr.heap.size ≠ rb := by have := hR.lt.1; omega
        have z4 : wr.heap.size ≠ rq := by have := hR.lt.2; omega
        clear hP hR hK4 hbr a0 a1 a2 hB
        generalize wr.heap.size = na at *
        generalize wr.alloc (.cells #[.string (K k), .int .i64 (O k), .int .i64 (N k)] 56) = w4 at *
        have L4 := hL.below hB4
        go_region_held3 (fun w' => w'.cell? ⟨na, 1, none⟩ = some (.int .i64 (O k)) ∧ w'.cell? ⟨na, 2, none⟩ = some (.int .i64 (N k))) (exact ⟨by assumption, by assumption⟩)
          (first
            | (go_at_call 32; refine (prog_join pb pm _ x hx (O k) (N k) wO hg A true _ (by first | exact L4.pool | exact (L4.drewN _).pool) (by first | exact hP4 | exact hP4.drewN _)).mono ?_; rintro e w5 ⟨ev, rfl, hE5, hP5, hK5⟩; have s5 : w5.cell? ⟨na, 1, none⟩ = some (.int .i64 (O k)) := hK5.old s1 (by simp [z1, z2]); have t5 : w5.cell? ⟨na, 2, none⟩ = some (.int .i64 (N k)) := hK5.old s2 (by simp [z1, z2]); have hB5 : Below w.heap.size w w5 := (by first | exact hB4.trans (hK5.below hB4.size (by simp [gpb, gpm])) | exact (below_drewN hB4 _).trans (hK5.below hB4.size (by simp [gpb, gpm]))); have hR5 : RefAt w5 rb rq x := (by first | exact hR4.kept hK5 (by simp [n1.symm, n3.symm]) (by simp [n2.symm, n4.symm]) | exact (hR4.drewN _).kept hK5 (by simp [n1.symm, n3.symm]) (by simp [n2.symm, n4.symm])); have L5 := hL.below hB5)
            | (go_at_call 41; refine (ref_join rb rq x hx (O k) (N k) _ (by first | exact hR5 | exact hR5.drewN _)).mono ?_; rintro e w6 ⟨rfl, hR6, hK6⟩; have s6 : w6.cell? ⟨na, 1, none⟩ = some (.int .i64 (O k)) := hK6.old s5 (by simp [z3, z4]); have t6 : w6.cell? ⟨na, 2, none⟩ = some (.int .i64 (N k)) := hK6.old t5 (by simp [z3, z4]); have hB6 : Below w.heap.size w w6 := (by first | exact hB5.trans (hK6.below hB5.size (by simp [grb, grq])) | exact (below_drewN hB5 _).trans (hK6.below hB5.size (by simp [grb, grq]))); have hP6 : PoolAt w6 pb pm (x.join (O k) (N k)) (4 * k + 4) := (by first | exact hP5.kept hK6 (by simp [n1, n2]) (by simp [n3, n4]) | exact (hP5.drewN _).kept hK6 (by simp [n1, n2]) (by simp [n3, n4])); have L6 := hL.below hB6)
            | (go_at_call 16; refine (coded_of (hE5.tells (by first | exact L6 | exact L6.drewN _))).mono ?_; rintro e w7 ⟨rfl, hB7⟩; have s7 : w7.cell? ⟨na, 1, none⟩ = some (.int .i64 (O k)) := old_cell hB7 s6; have t7 : w7.cell? ⟨na, 2, none⟩ = some (.int .i64 (N k)) := old_cell hB7 t6))
        have hK7 : Kept [] w6 w7 := Kept.of_below hB7
        have hB8 := hB6.trans (hB7.mono hB6.size)
        have hP8 := hP6.kept hK7 (by simp) (by simp)
        have hR8 := hR6.kept hK7 (by simp) (by simp)
        have hy := hx.join (O k) (N k)
        generalize x.join (O k) (N k) = y at *
        clear hK7 hB7 hB6 hP6 hR6 s7 t7 s6 t6 s5 t5 s1 s2 hE5 L6 L5 L4 hB4 hB5 hP4 hR4 hP5 hR5 hK5 hK6 hx
        have c0 := hR8.c0
        have d1 : (y.T != y.T) = false := by simp
        have d2 : (y.A != y.A) = false := by simp
        go_wp2_with fail
        go_quiet ((first | (go_at_call 37; exact Calls.quiet_of_same (prog_total pb pm _ y _ (hP8.drewN _))) | (go_at_call 38; exact Calls.quiet_of_same (prog_all pb pm _ y _ (hP8.drewN _))) | (go_at_call 46; exact Calls.quiet_of_same (ref_all rb rq y hy _ (hR8.drewN _)))))
        go_wp2_with fail
        go_loopw [16] (fun o w' => ∃ q : Int, -1 ≤ q ∧ q ≤ 7 ∧ o = .int .i64 q ∧ PoolAt w' pb pm y (4 * k + 4) ∧ RefAt w' rb rq y ∧ Below w.heap.size w w') (fun o _ => (7 - intOf o).toNat)
        case atStart => exact ⟨-1, by omega, by omega, rfl, hP8.drewN _, hR8.drewN _, below_drewN hB8 _⟩
        case round =>
          clear hP8 hR8 hB8 c0
          obtain ⟨q, q0, q7, rfl, hP9, hR9, hB9⟩ := hrel
          by_cases hq : q ≤ 6
          · have wq : (Lit.int .i64 q).wf = true := WalkArith.wf_i64 (by omega)
            have e1 : (y.s q != y.s q) = false := by simp
            have e2 : (y.val q != y.val q) = false := by simp
            go_wp2_with fail
            refine (prog_shares pb pm _ y q wq _ hP9).mono ?_
            rintro e wa ⟨rfl, rfl⟩
            go_wp2_with fail
            refine (ref_shares rb rq y hy q _ hR9).mono ?_
            rintro e wb ⟨rfl, rfl⟩
            go_wp2_with fail
            refine (prog_value pb pm _ y hy q wq _ hP9).mono ?_
            rintro e wc ⟨rfl, n, hw⟩
            have hPc : PoolAt wc pb pm y (4 * k + 4) := by rw [hw]; exact hP9.drewN n
            have hRc : RefAt wc rb rq y := by rw [hw]; exact hR9.drewN n
            have hBc : Below w.heap.size w wc := by rw [hw]; exact below_drewN hB9 n
            clear hw hP9 hR9 hB9
            go_wp2_with fail
            refine (ref_value rb rq y hy q _ hRc).mono ?_
            rintro e wd ⟨rfl, n, hw⟩
            have hPd : PoolAt wd pb pm y (4 * k + 4) := by rw [hw]; exact hPc.drewN n
            have hRd : RefAt wd rb rq y := by rw [hw]; exact hRc.drewN n
            have hBd : Below w.heap.size w wd := by rw [hw]; exact below_drewN hBc n
            clear hw hPc hRc hBc
            go_wp2
            go_roundw
            case rel => exact ⟨q + 1, by omega, by omega, rfl, hPd, hRd, hBd⟩
            case measure => simp [intOf]; omega
          · go_wp2
            go_roundw
            case rel => exact ⟨k + 1, y, by omega, by go_num, hy, hP9, hR9, hB9⟩
            case measure => simp [intOf]; omega
      | false =>
        cases ht : ((K k).toList == [116, 97, 107, 101]) with
        | true =>
          go_wp2_with fail
          have hB4 : Below w.heap.size w (wr.alloc (.cells #[.string (K k), .int .i64 (O k), .int .i64 (N k)] 56)) := hB.alloc hB.size _
          have hK4 : Kept [] wr (wr.alloc (.cells #[.string (K k), .int .i64 (O k), .int .i64 (N k)] 56)) := Kept.of_below ((Below.refl _ _).alloc (Nat.le_refl _) _)
          have s1 : (wr.alloc (.cells #[.string (K k), .int .i64 (O k), .int .i64 (N k)] 56)).cell? ⟨wr.heap.size, 1, none⟩ = some (.int .i64 (O k)) := by simp
          have s2 : (wr.alloc (.cells #[.string (K k), .int .i64 (O k), .int .i64 (N k)] 56)).cell? ⟨wr.heap.size, 2, none⟩ = some (.int .i64 (N k)) := by simp
          have hP4 := hP.kept hK4 (by simp) (by simp)
          have hR4 := hR.kept hK4 (by simp) (by simp)
          have z1 : wr.heap.size ≠ pb := by have := hP.lt.1; omega
          have z2 : wr.heap.size ≠ pm := by have := hP.lt.2; omega
          have z3 : wr.heap.size ≠ rb := by have := hR.lt.1; omega
          have z4 : wr.heap.size ≠ rq := by have := hR.lt.2; omega
          clear hP hR hK4 hbr a0 a1 a2 hB
          generalize wr.heap.size = na at *
          generalize wr.alloc (.cells #[.string (K k), .int .i64 (O k), .int .i64 (N k)] 56) = w4 at *
          have L4 := hL.below hB4
          go_region_held3 (fun w' => w'.cell? ⟨na, 1, none⟩ = some (.int .i64 (O k)) ∧ w'.cell? ⟨na, 2, none⟩ = some (.int .i64 (N k))) (exact ⟨by assumption, by assumption⟩)
            (first
              | (go_at_call 33; refine (prog_take pb pm _ x hx (O k) (N k) wO hg A _ (by first | exact L4.pool | exact (L4.drewN _).pool) (by first | exact hP4 | exact hP4.drewN _)).mono ?_; rintro e w5 ⟨ev, rfl, hE5, hP5, hK5⟩; have s5 : w5.cell? ⟨na, 1, none⟩ = some (.int .i64 (O k)) := hK5.old s1 (by simp [z1, z2]); have t5 : w5.cell? ⟨na, 2, none⟩ = some (.int .i64 (N k)) := hK5.old s2 (by simp [z1, z2]); have hB5 : Below w.heap.size w w5 := (by first | exact hB4.trans (hK5.below hB4.size (by simp [gpb, gpm])) | exact (below_drewN hB4 _).trans (hK5.below hB4.size (by simp [gpb, gpm]))); have hR5 : RefAt w5 rb rq x := (by first | exact hR4.kept hK5 (by simp [n1.symm, n3.symm]) (by simp [n2.symm, n4.symm]) | exact (hR4.drewN _).kept hK5 (by simp [n1.symm, n3.symm]) (by simp [n2.symm, n4.symm])); have L5 := hL.below hB5)
              | (go_at_call 42; refine (ref_take rb rq x hx (O k) (N k) _ (by first | exact hR5 | exact hR5.drewN _)).mono ?_; rintro e w6 ⟨rfl, hR6, hK6⟩; have s6 : w6.cell? ⟨na, 1, none⟩ = some (.int .i64 (O k)) := hK6.old s5 (by simp [z3, z4]); have t6 : w6.cell? ⟨na, 2, none⟩ = some (.int .i64 (N k)) := hK6.old t5 (by simp [z3, z4]); have hB6 : Below w.heap.size w w6 := (by first | exact hB5.trans (hK6.below hB5.size (by simp [grb, grq])) | exact (below_drewN hB5 _).trans (hK6.below hB5.size (by simp [grb, grq]))); have hP6 : PoolAt w6 pb pm (x.take (O k) (N k)) (4 * k + 4) := (by first | exact hP5.kept hK6 (by simp [n1, n2]) (by simp [n3, n4]) | exact (hP5.drewN _).kept hK6 (by simp [n1, n2]) (by simp [n3, n4])); have L6 := hL.below hB6)
              | (go_at_call 16; refine (coded_of (hE5.tells (by first | exact L6 | exact L6.drewN _))).mono ?_; rintro e w7 ⟨rfl, hB7⟩; have s7 : w7.cell? ⟨na, 1, none⟩ = some (.int .i64 (O k)) := old_cell hB7 s6; have t7 : w7.cell? ⟨na, 2, none⟩ = some (.int .i64 (N k)) := old_cell hB7 t6))
          have hK7 : Kept [] w6 w7 := Kept.of_below hB7
          have hB8 := hB6.trans (hB7.mono hB6.size)
          have hP8 := hP6.kept hK7 (by simp) (by simp)
          have hR8 := hR6.kept hK7 (by simp) (by simp)
          have hy := hx.take (O k) (N k)
          generalize x.take (O k) (N k) = y at *
          clear hK7 hB7 hB6 hP6 hR6 s7 t7 s6 t6 s5 t5 s1 s2 hE5 L6 L5 L4 hB4 hB5 hP4 hR4 hP5 hR5 hK5 hK6 hx
          have c0 := hR8.c0
          have d1 : (y.T != y.T) = false := by simp
          have d2 : (y.A != y.A) = false := by simp
          go_wp2_with fail
          go_quiet ((first | (go_at_call 37; exact Calls.quiet_of_same (prog_total pb pm _ y _ (hP8.drewN _))) | (go_at_call 38; exact Calls.quiet_of_same (prog_all pb pm _ y _ (hP8.drewN _))) | (go_at_call 46; exact Calls.quiet_of_same (ref_all rb rq y hy _ (hR8.drewN _)))))
          go_wp2_with fail
          go_loopw [16] (fun o w' => ∃ q : Int, -1 ≤ q ∧ q ≤ 7 ∧ o = .int .i64 q ∧ PoolAt w' pb pm y (4 * k + 4) ∧ RefAt w' rb rq y ∧ Below w.heap.size w w') (fun o _ => (7 - intOf o).toNat)
          case atStart => exact ⟨-1, by omega, by omega, rfl, hP8.drewN _, hR8.drewN _, below_drewN hB8 _⟩
          case round =>
            clear hP8 hR8 hB8 c0
            obtain ⟨q, q0, q7, rfl, hP9, hR9, hB9⟩ := hrel
            by_cases hq : q ≤ 6
            · have wq : (Lit.int .i64 q).wf = true := WalkArith.wf_i64 (by omega)
              have e1 : (y.s q != y.s q) = false := by simp
              have e2 : (y.val q != y.val q) = false := by simp
              go_wp2_with fail
              refine (prog_shares pb pm _ y q wq _ hP9).mono ?_
              rintro e wa ⟨rfl, rfl⟩
              go_wp2_with fail
              refine (ref_shares rb rq y hy q _ hR9).mono ?_
              rintro e wb ⟨rfl, rfl⟩
              go_wp2_with fail
              refine (prog_value pb pm _ y hy q wq _ hP9).mono ?_
              rintro e wc ⟨rfl, n, hw⟩
              have hPc : PoolAt wc pb pm y (4 * k + 4) := by rw [hw]; exact hP9.drewN n
              have hRc : RefAt wc rb rq y := by rw [hw]; exact hR9.drewN n
              have hBc : Below w.heap.size w wc := by rw [hw]; exact below_drewN hB9 n
              clear hw hP9 hR9 hB9
              go_wp2_with fail
              refine (ref_value rb rq y hy q _ hRc).mono ?_
              rintro e wd ⟨rfl, n, hw⟩
              have hPd : PoolAt wd pb pm y (4 * k + 4) := by rw [hw]; exact hPc.drewN n
              have hRd : RefAt wd rb rq y := by rw [hw]; exact hRc.drewN n
              have hBd : Below w.heap.size w wd := by rw [hw]; exact below_drewN hBc n
              clear hw hPc hRc hBc
              go_wp2
              go_roundw
              case rel => exact ⟨q + 1, by omega, by omega, rfl, hPd, hRd, hBd⟩
              case measure => simp [intOf]; omega
            · go_wp2
              go_roundw
              case rel => exact ⟨k + 1, y, by omega, by go_num, hy, hP9, hR9, hB9⟩
              case measure => simp [intOf]; omega
        | false =>
          cases hl : ((K k).toList == [108, 101, 97, 118, 101]) with
          | true =>
            go_wp2_with fail
            have hB4 : Below w.heap.size w (wr.alloc (.cells #[.string (K k), .int .i64 (O k), .int .i64 (N k)] 56)) := hB.alloc hB.size _
            have hK4 : Kept [] wr (wr.alloc (.cells #[.string (K k), .int .i64 (O k), .int .i64 (N k)] 56)) := Kept.of_below ((Below.refl _ _).alloc (Nat.le_refl _) _)
            have s1 : (wr.alloc (.cells #[.string (K k), .int .i64 (O k), .int .i64 (N k)] 56)).cell? ⟨wr.heap.size, 1, none⟩ = some (.int .i64 (O k)) := by simp
            have s2 : (wr.alloc (.cells #[.string (K k), .int .i64 (O k), .int .i64 (N k)] 56)).cell? ⟨wr.heap.size, 2, none⟩ = some (.int .i64 (N k)) := by simp
            have hP4 := hP.kept hK4 (by simp) (by simp)
            have hR4 := hR.kept hK4 (by simp) (by simp)
            have z1 : wr.heap.size ≠ pb := by have := hP.lt.1; omega
            have z2 : wr.heap.size ≠ pm := by have := hP.lt.2; omega
            have z3 : wr.heap.size ≠ rb := by have := hR.lt.1; omega
            have z4 : wr.heap.size ≠ rq := by have := hR.lt.2; omega
            clear hP hR hK4 hbr a0 a1 a2 hB
            generalize wr.heap.size = na at *
            generalize wr.alloc (.cells #[.string (K k), .int .i64 (O k), .int .i64 (N k)] 56) = w4 at *
            have L4 := hL.below hB4
            refine (prog_leave pb pm _ x hx (O k) wO hg A true w4 L4.pool hP4).mono ?_
            rintro e w5 ⟨ev, rfl, hE5, hP5, hK5⟩
            have s5 : w5.cell? ⟨na, 1, none⟩ = some (.int .i64 (O k)) := hK5.old s1 (by simp [z1, z2])
            have t5 : w5.cell? ⟨na, 2, none⟩ = some (.int .i64 (N k)) := hK5.old s2 (by simp [z1, z2])
            have hB5 : Below w.heap.size w w5 := (by first | exact hB4.trans (hK5.below hB4.size (by simp [gpb, gpm])) | exact (below_drewN hB4 _).trans (hK5.below hB4.size (by simp [gpb, gpm])))
            have hR5 : RefAt w5 rb rq x := (by first | exact hR4.kept hK5 (by simp [n1.symm, n3.symm]) (by simp [n2.symm, n4.symm]) | exact (hR4.drewN _).kept hK5 (by simp [n1.symm, n3.symm]) (by simp [n2.symm, n4.symm]))
            have L5 := hL.below hB5
            go_wp2_with fail
            refine (ref_leave rb rq x hx (O k) w5 hR5).mono ?_
            rintro e w6 ⟨rfl, hR6, hK6⟩
            have s6 : w6.cell? ⟨na, 1, none⟩ = some (.int .i64 (O k)) := hK6.old s5 (by simp [z3, z4])
            have t6 : w6.cell? ⟨na, 2, none⟩ = some (.int .i64 (N k)) := hK6.old t5 (by simp [z3, z4])
            have hB6 : Below w.heap.size w w6 := (by first | exact hB5.trans (hK6.below hB5.size (by simp [grb, grq])) | exact (below_drewN hB5 _).trans (hK6.below hB5.size (by simp [grb, grq])))
            have hP6 : PoolAt w6 pb pm (x.leave (O k)) (4 * k + 4) := (by first | exact hP5.kept hK6 (by simp [n1, n2]) (by simp [n3, n4]) | exact (hP5.drewN _).kept hK6 (by simp [n1, n2]) (by simp [n3, n4]))
            have L6 := hL.below hB6
            have d0 : (x.leaveN (O k) != x.leaveN (O k)) = false := by simp
            go_wp2_with fail
            refine (coded_of (hE5.tells L6)).mono ?_
            rintro e w7 ⟨rfl, hB7⟩
            have s7 : w7.cell? ⟨na, 1, none⟩ = some (.int .i64 (O k)) := old_cell hB7 s6
            have t7 : w7.cell? ⟨na, 2, none⟩ = some (.int .i64 (N k)) := old_cell hB7 t6
            have hK7 : Kept [] w6 w7 := Kept.of_below hB7
            have hB8 := hB6.trans (hB7.mono hB6.size)
            have hP8 := hP6.kept hK7 (by simp) (by simp)
            have hR8 := hR6.kept hK7 (by simp) (by simp)
            have hy := hx.leave (O k)
            generalize x.leave (O k) = y at *
            clear hK7 hB7 hB6 hP6 hR6 s7 t7 s6 t6 s5 t5 s1 s2 hE5 L6 L5 L4 hB4 hB5 hP4 hR4 hP5 hR5 hK5 hK6 hx
            have c0 := hR8.c0
            have d1 : (y.T != y.T) = false := by simp
            have d2 : (y.A != y.A) = false := by simp
            go_wp2_with fail
            go_quiet ((first | (go_at_call 37; exact Calls.quiet_of_same (prog_total pb pm _ y _ (hP8.drewN _))) | (go_at_call 38; exact Calls.quiet_of_same (prog_all pb pm _ y _ (hP8.drewN _))) | (go_at_call 46; exact Calls.quiet_of_same (ref_all rb rq y hy _ (hR8.drewN _)))))
            go_wp2_with fail
            go_loopw [16] (fun o w' => ∃ q : Int, -1 ≤ q ∧ q ≤ 7 ∧ o = .int .i64 q ∧ PoolAt w' pb pm y (4 * k + 4) ∧ RefAt w' rb rq y ∧ Below w.heap.size w w') (fun o _ => (7 - intOf o).toNat)
            case atStart => exact ⟨-1, by omega, by omega, rfl, hP8.drewN _, hR8.drewN _, below_drewN hB8 _⟩
            case round =>
              clear hP8 hR8 hB8 c0
              obtain ⟨q, q0, q7, rfl, hP9, hR9, hB9⟩ := hrel
              by_cases hq : q ≤ 6
              · have wq : (Lit.int .i64 q).wf = true := WalkArith.wf_i64 (by omega)
                have e1 : (y.s q != y.s q) = false := by simp
                have e2 : (y.val q != y.val q) = false := by simp
                go_wp2_with fail
                refine (prog_shares pb pm _ y q wq _ hP9).mono ?_
                rintro e wa ⟨rfl, rfl⟩
                go_wp2_with fail
                refine (ref_shares rb rq y hy q _ hR9).mono ?_
                rintro e wb ⟨rfl, rfl⟩
                go_wp2_with fail
                refine (prog_value pb pm _ y hy q wq _ hP9).mono ?_
                rintro e wc ⟨rfl, n, hw⟩
                have hPc : PoolAt wc pb pm y (4 * k + 4) := by rw [hw]; exact hP9.drewN n
                have hRc : RefAt wc rb rq y := by rw [hw]; exact hR9.drewN n
                have hBc : Below w.heap.size w wc := by rw [hw]; exact below_drewN hB9 n
                clear hw hP9 hR9 hB9
                go_wp2_with fail
                refine (ref_value rb rq y hy q _ hRc).mono ?_
                rintro e wd ⟨rfl, n, hw⟩
                have hPd : PoolAt wd pb pm y (4 * k + 4) := by rw [hw]; exact hPc.drewN n
                have hRd : RefAt wd rb rq y := by rw [hw]; exact hRc.drewN n
                have hBd : Below w.heap.size w wd := by rw [hw]; exact below_drewN hBc n
                clear hw hPc hRc hBc
                go_wp2
                go_roundw
                case rel => exact ⟨q + 1, by omega, by omega, rfl, hPd, hRd, hBd⟩
                case measure => simp [intOf]; omega
              · go_wp2
                go_roundw
                case rel => exact ⟨k + 1, y, by omega, by go_num, hy, hP9, hR9, hB9⟩
                case measure => simp [intOf]; omega
          | false =>
            cases ha : ((K k).toList == [97, 100, 100]) with
            | true =>
              go_wp2_with fail
              have hB4 : Below w.heap.size w (wr.alloc (.cells #[.string (K k), .int .i64 (O k), .int .i64 (N k)] 56)) := hB.alloc hB.size _
              have hK4 : Kept [] wr (wr.alloc (.cells #[.string (K k), .int .i64 (O k), .int .i64 (N k)] 56)) := Kept.of_below ((Below.refl _ _).alloc (Nat.le_refl _) _)
              have s1 : (wr.alloc (.cells #[.string (K k), .int .i64 (O k), .int .i64 (N k)] 56)).cell? ⟨wr.heap.size, 1, none⟩ = some (.int .i64 (O k)) := by simp
              have s2 : (wr.alloc (.cells #[.string (K k), .int .i64 (O k), .int .i64 (N k)] 56)).cell? ⟨wr.heap.size, 2, none⟩ = some (.int .i64 (N k)) := by simp
              have hP4 := hP.kept hK4 (by simp) (by simp)
              have hR4 := hR.kept hK4 (by simp) (by simp)
              have z1 : wr.heap.size ≠ pb := by have := hP.lt.1; omega
              have z2 : wr.heap.size ≠ pm := by have := hP.lt.2; omega
              have z3 : wr.heap.size ≠ rb := by have := hR.lt.1; omega
              have z4 : wr.heap.size ≠ rq := by have := hR.lt.2; omega
              clear hP hR hK4 hbr a0 a1 a2 hB
              generalize wr.heap.size = na at *
              generalize wr.alloc (.cells #[.string (K k), .int .i64 (O k), .int .i64 (N k)] 56) = w4 at *
              have L4 := hL.below hB4
              go_region_held3 (fun w' => w'.cell? ⟨na, 1, none⟩ = some (.int .i64 (O k)) ∧ w'.cell? ⟨na, 2, none⟩ = some (.int .i64 (N k))) (exact ⟨by assumption, by assumption⟩)
                (first
                  | (go_at_call 35; refine (prog_add pb pm _ x hx (N k) A true _ (by first | exact L4.pool | exact (L4.drewN _).pool) (by first | exact hP4 | exact hP4.drewN _)).mono ?_; rintro e w5 ⟨ev, rfl, hE5, hP5, hK5⟩; have s5 : w5.cell? ⟨na, 1, none⟩ = some (.int .i64 (O k)) := hK5.old s1 (by simp [z1, z2]); have t5 : w5.cell? ⟨na, 2, none⟩ = some (.int .i64 (N k)) := hK5.old s2 (by simp [z1, z2]); have hB5 : Below w.heap.size w w5 := (by first | exact hB4.trans (hK5.below hB4.size (by simp [gpb, gpm])) | exact (below_drewN hB4 _).trans (hK5.below hB4.size (by simp [gpb, gpm]))); have hR5 : RefAt w5 rb rq x := (by first | exact hR4.kept hK5 (by simp [n1.symm, n3.symm]) (by simp [n2.symm, n4.symm]) | exact (hR4.drewN _).kept hK5 (by simp [n1.symm, n3.symm]) (by simp [n2.symm, n4.symm])); have L5 := hL.below hB5)
                  | (go_at_call 44; refine (ref_add rb rq x hx (N k) _ (by first | exact hR5 | exact hR5.drewN _)).mono ?_; rintro e w6 ⟨rfl, hR6, hK6⟩; have s6 : w6.cell? ⟨na, 1, none⟩ = some (.int .i64 (O k)) := hK6.old s5 (by simp [z3, z4]); have t6 : w6.cell? ⟨na, 2, none⟩ = some (.int .i64 (N k)) := hK6.old t5 (by simp [z3, z4]); have hB6 : Below w.heap.size w w6 := (by first | exact hB5.trans (hK6.below hB5.size (by simp [grb, grq])) | exact (below_drewN hB5 _).trans (hK6.below hB5.size (by simp [grb, grq]))); have hP6 : PoolAt w6 pb pm (x.add (N k)) (4 * k + 4) := (by first | exact hP5.kept hK6 (by simp [n1, n2]) (by simp [n3, n4]) | exact (hP5.drewN _).kept hK6 (by simp [n1, n2]) (by simp [n3, n4])); have L6 := hL.below hB6)
                  | (go_at_call 16; refine (coded_of (hE5.tells (by first | exact L6 | exact L6.drewN _))).mono ?_; rintro e w7 ⟨rfl, hB7⟩; have s7 : w7.cell? ⟨na, 1, none⟩ = some (.int .i64 (O k)) := old_cell hB7 s6; have t7 : w7.cell? ⟨na, 2, none⟩ = some (.int .i64 (N k)) := old_cell hB7 t6))
              have hK7 : Kept [] w6 w7 := Kept.of_below hB7
              have hB8 := hB6.trans (hB7.mono hB6.size)
              have hP8 := hP6.kept hK7 (by simp) (by simp)
              have hR8 := hR6.kept hK7 (by simp) (by simp)
              have hy := hx.add (N k)
              generalize x.add (N k) = y at *
              clear hK7 hB7 hB6 hP6 hR6 s7 t7 s6 t6 s5 t5 s1 s2 hE5 L6 L5 L4 hB4 hB5 hP4 hR4 hP5 hR5 hK5 hK6 hx
              have c0 := hR8.c0
              have d1 : (y.T != y.T) = false := by simp
              have d2 : (y.A != y.A) = false := by simp
              go_wp2_with fail
              go_quiet ((first | (go_at_call 37; exact Calls.quiet_of_same (prog_total pb pm _ y _ (hP8.drewN _))) | (go_at_call 38; exact Calls.quiet_of_same (prog_all pb pm _ y _ (hP8.drewN _))) | (go_at_call 46; exact Calls.quiet_of_same (ref_all rb rq y hy _ (hR8.drewN _)))))
              go_wp2_with fail
              go_loopw [16] (fun o w' => ∃ q : Int, -1 ≤ q ∧ q ≤ 7 ∧ o = .int .i64 q ∧ PoolAt w' pb pm y (4 * k + 4) ∧ RefAt w' rb rq y ∧ Below w.heap.size w w') (fun o _ => (7 - intOf o).toNat)
              case atStart => exact ⟨-1, by omega, by omega, rfl, hP8.drewN _, hR8.drewN _, below_drewN hB8 _⟩
              case round =>
                clear hP8 hR8 hB8 c0
                obtain ⟨q, q0, q7, rfl, hP9, hR9, hB9⟩ := hrel
                by_cases hq : q ≤ 6
                · have wq : (Lit.int .i64 q).wf = true := WalkArith.wf_i64 (by omega)
                  have e1 : (y.s q != y.s q) = false := by simp
                  have e2 : (y.val q != y.val q) = false := by simp
                  go_wp2_with fail
                  refine (prog_shares pb pm _ y q wq _ hP9).mono ?_
                  rintro e wa ⟨rfl, rfl⟩
                  go_wp2_with fail
                  refine (ref_shares rb rq y hy q _ hR9).mono ?_
                  rintro e wb ⟨rfl, rfl⟩
                  go_wp2_with fail
                  refine (prog_value pb pm _ y hy q wq _ hP9).mono ?_
                  rintro e wc ⟨rfl, n, hw⟩
                  have hPc : PoolAt wc pb pm y (4 * k + 4) := by rw [hw]; exact hP9.drewN n
                  have hRc : RefAt wc rb rq y := by rw [hw]; exact hR9.drewN n
                  have hBc : Below w.heap.size w wc := by rw [hw]; exact below_drewN hB9 n
                  clear hw hP9 hR9 hB9
                  go_wp2_with fail
                  refine (ref_value rb rq y hy q _ hRc).mono ?_
                  rintro e wd ⟨rfl, n, hw⟩
                  have hPd : PoolAt wd pb pm y (4 * k + 4) := by rw [hw]; exact hPc.drewN n
                  have hRd : RefAt wd rb rq y := by rw [hw]; exact hRc.drewN n
                  have hBd : Below w.heap.size w wd := by rw [hw]; exact below_drewN hBc n
                  clear hw hPc hRc hBc
                  go_wp2
                  go_roundw
                  case rel => exact ⟨q + 1, by omega, by omega, rfl, hPd, hRd, hBd⟩
                  case measure => simp [intOf]; omega
                · go_wp2
                  go_roundw
                  case rel => exact ⟨k + 1, y, by omega, by go_num, hy, hP9, hR9, hB9⟩
                  case measure => simp [intOf]; omega
            | false =>
              go_wp2_with fail
              have hB4 : Below w.heap.size w (wr.alloc (.cells #[.string (K k), .int .i64 (O k), .int .i64 (N k)] 56)) := hB.alloc hB.size _
              have hK4 : Kept [] wr (wr.alloc (.cells #[.string (K k), .int .i64 (O k), .int .i64 (N k)] 56)) := Kept.of_below ((Below.refl _ _).alloc (Nat.le_refl _) _)
              have s1 : (wr.alloc (.cells #[.string (K k), .int .i64 (O k), .int .i64 (N k)] 56)).cell? ⟨wr.heap.size, 1, none⟩ = some (.int .i64 (O k)) := by simp
              have s2 : (wr.alloc (.cells #[.string (K k), .int .i64 (O k), .int .i64 (N k)] 56)).cell? ⟨wr.heap.size, 2, none⟩ = some (.int .i64 (N k)) := by simp
              have hP4 := hP.kept hK4 (by simp) (by simp)
              have hR4 := hR.kept hK4 (by simp) (by simp)
              have z1 : wr.heap.size ≠ pb := by have := hP.lt.1; omega
              have z2 : wr.heap.size ≠ pm := by have := hP.lt.2; omega
              have z3 : wr.heap.size ≠ rb := by have := hR.lt.1; omega
              have z4 : wr.heap.size ≠ rq := by have := hR.lt.2; omega
              clear hP hR hK4 hbr a0 a1 a2 hB
              generalize wr.heap.size = na at *
              generalize wr.alloc (.cells #[.string (K k), .int .i64 (O k), .int .i64 (N k)] 56) = w4 at *
              have L4 := hL.below hB4
              refine (prog_slash pb pm _ x hx (N k) A true w4 L4.pool hP4).mono ?_
              rintro e w5 ⟨ev, rfl, hE5, hP5, hK5⟩
              have s5 : w5.cell? ⟨na, 1, none⟩ = some (.int .i64 (O k)) := hK5.old s1 (by simp [z1, z2])
              have t5 : w5.cell? ⟨na, 2, none⟩ = some (.int .i64 (N k)) := hK5.old s2 (by simp [z1, z2])
              have hB5 : Below w.heap.size w w5 := (by first | exact hB4.trans (hK5.below hB4.size (by simp [gpb, gpm])) | exact (below_drewN hB4 _).trans (hK5.below hB4.size (by simp [gpb, gpm])))
              have hR5 : RefAt w5 rb rq x := (by first | exact hR4.kept hK5 (by simp [n1.symm, n3.symm]) (by simp [n2.symm, n4.symm]) | exact (hR4.drewN _).kept hK5 (by simp [n1.symm, n3.symm]) (by simp [n2.symm, n4.symm]))
              have L5 := hL.below hB5
              go_wp2_with fail
              refine (ref_slash rb rq x hx (N k) w5 hR5).mono ?_
              rintro e w6 ⟨rfl, hR6, hK6⟩
              have s6 : w6.cell? ⟨na, 1, none⟩ = some (.int .i64 (O k)) := hK6.old s5 (by simp [z3, z4])
              have t6 : w6.cell? ⟨na, 2, none⟩ = some (.int .i64 (N k)) := hK6.old t5 (by simp [z3, z4])
              have hB6 : Below w.heap.size w w6 := (by first | exact hB5.trans (hK6.below hB5.size (by simp [grb, grq])) | exact (below_drewN hB5 _).trans (hK6.below hB5.size (by simp [grb, grq])))
              have hP6 : PoolAt w6 pb pm (x.slash (N k)) (4 * k + 4) := (by first | exact hP5.kept hK6 (by simp [n1, n2]) (by simp [n3, n4]) | exact (hP5.drewN _).kept hK6 (by simp [n1, n2]) (by simp [n3, n4]))
              have L6 := hL.below hB6
              have d0 : (x.slashN (N k) != x.slashN (N k)) = false := by simp
              go_wp2_with fail
              refine (coded_of (hE5.tells L6)).mono ?_
              rintro e w7 ⟨rfl, hB7⟩
              have s7 : w7.cell? ⟨na, 1, none⟩ = some (.int .i64 (O k)) := old_cell hB7 s6
              have t7 : w7.cell? ⟨na, 2, none⟩ = some (.int .i64 (N k)) := old_cell hB7 t6
              have hK7 : Kept [] w6 w7 := Kept.of_below hB7
              have hB8 := hB6.trans (hB7.mono hB6.size)
              have hP8 := hP6.kept hK7 (by simp) (by simp)
              have hR8 := hR6.kept hK7 (by simp) (by simp)
              have hy := hx.slash (N k)
              generalize x.slash (N k) = y at *
              clear hK7 hB7 hB6 hP6 hR6 s7 t7 s6 t6 s5 t5 s1 s2 hE5 L6 L5 L4 hB4 hB5 hP4 hR4 hP5 hR5 hK5 hK6 hx
              have c0 := hR8.c0
              have d1 : (y.T != y.T) = false := by simp
              have d2 : (y.A != y.A) = false := by simp
              go_wp2_with fail
              go_quiet ((first | (go_at_call 37; exact Calls.quiet_of_same (prog_total pb pm _ y _ (hP8.drewN _))) | (go_at_call 38; exact Calls.quiet_of_same (prog_all pb pm _ y _ (hP8.drewN _))) | (go_at_call 46; exact Calls.quiet_of_same (ref_all rb rq y hy _ (hR8.drewN _)))))
              go_wp2_with fail
              go_loopw [16] (fun o w' => ∃ q : Int, -1 ≤ q ∧ q ≤ 7 ∧ o = .int .i64 q ∧ PoolAt w' pb pm y (4 * k + 4) ∧ RefAt w' rb rq y ∧ Below w.heap.size w w') (fun o _ => (7 - intOf o).toNat)
              case atStart => exact ⟨-1, by omega, by omega, rfl, hP8.drewN _, hR8.drewN _, below_drewN hB8 _⟩
              case round =>
                clear hP8 hR8 hB8 c0
                obtain ⟨q, q0, q7, rfl, hP9, hR9, hB9⟩ := hrel
                by_cases hq : q ≤ 6
                · have wq : (Lit.int .i64 q).wf = true := WalkArith.wf_i64 (by omega)
                  have e1 : (y.s q != y.s q) = false := by simp
                  have e2 : (y.val q != y.val q) = false := by simp
                  go_wp2_with fail
                  refine (prog_shares pb pm _ y q wq _ hP9).mono ?_
                  rintro e wa ⟨rfl, rfl⟩
                  go_wp2_with fail
                  refine (ref_shares rb rq y hy q _ hR9).mono ?_
                  rintro e wb ⟨rfl, rfl⟩
                  go_wp2_with fail
                  refine (prog_value pb pm _ y hy q wq _ hP9).mono ?_
                  rintro e wc ⟨rfl, n, hw⟩
                  have hPc : PoolAt wc pb pm y (4 * k + 4) := by rw [hw]; exact hP9.drewN n
                  have hRc : RefAt wc rb rq y := by rw [hw]; exact hR9.drewN n
                  have hBc : Below w.heap.size w wc := by rw [hw]; exact below_drewN hB9 n
                  clear hw hP9 hR9 hB9
                  go_wp2_with fail
                  refine (ref_value rb rq y hy q _ hRc).mono ?_
                  rintro e wd ⟨rfl, n, hw⟩
                  have hPd : PoolAt wd pb pm y (4 * k + 4) := by rw [hw]; exact hPc.drewN n
                  have hRd : RefAt wd rb rq y := by rw [hw]; exact hRc.drewN n
                  have hBd : Below w.heap.size w wd := by rw [hw]; exact below_drewN hBc n
                  clear hw hPc hRc hBc
                  go_wp2
                  go_roundw
                  case rel => exact ⟨q + 1, by omega, by omega, rfl, hPd, hRd, hBd⟩
                  case measure => simp [intOf]; omega
                · go_wp2
                  go_roundw
                  case rel => exact ⟨k + 1, y, by omega, by go_num, hy, hP9, hR9, hB9⟩
                  case measure => simp [intOf]; omega
    · go_wp2
      go_ret
      exact ⟨rfl, hB⟩
end Go.Proofs.YtlhffdmhbplpjaaDoor
