/-
  The document's draw (bakehouseref1) by its contracts: the weights' fault; picks.
  The document's columns made (bakehouseref1.NewDraw) by its contract.
  The document's lots by their contracts.
  Who bakes, by the document (bakehouseref2.BakerOf), by its contracts.
-/
import Derived.Test.YtaihcceobnfmhaaGreatDoorRefFillAtX
import Derived.Deep.CutRange
import Derived.Test.YtaihcceobnfmhaaGreatDoorProgRightX
import Derived.Test.YtaihcceobnfmhaaGreatDoorAidX
import Derived.Deep.RegionWith
namespace Go.Proofs.YtaihcceobnfmhaaGreatDoor
open Go.RowKit Go.Deep

theorem fineD (w : World) : Calls Tryz.prog 200 #[] w fun e w' => e = .returned (.agg #[.int .i64 0, .int .i64 (-1)]) ∧ w' = w.alloc (.cells #[.int .i64 0, .int .i64 (-1)] 114) := by
  go_enter Tryz.func200, Tryz.ntmps200
  go_wp2
  exact bodyPost_ret (v := .agg #[.int .i64 0, .int .i64 (-1)]) (by simp [results, Tryz.results200, go_sem]) rfl ⟨rfl, rfl⟩
theorem bareD (c : Int) (w : World) : Calls Tryz.prog 181 #[.int .i64 c] w fun e w' => e = .returned (.agg #[.int .i64 c, .int .i64 (-1)]) ∧ w' = w.alloc (.cells #[.int .i64 c, .int .i64 (-1)] 114) := by
  go_enter Tryz.func181, Tryz.ntmps181
  go_wp2
  exact bodyPost_ret (v := .agg #[.int .i64 c, .int .i64 (-1)]) (by simp [results, Tryz.results181, go_sem]) rfl ⟨rfl, rfl⟩

theorem below_two {w : World} {a b : Obj} : Below w.heap.size w ((w.alloc a).alloc b) := ((Below.refl _ _).alloc (Nat.le_refl _) _).alloc (by simp) _
theorem below_one {w : World} {a : Obj} : Below w.heap.size w (w.alloc a) := (Below.refl _ _).alloc (Nat.le_refl _) _

theorem wf_shape (a : Option Addr) (len cap : Nat) (w : World) (h : len = 0 ∨ 64 < len) (hm : len ≤ 9223372036854775807) :
    Calls Tryz.prog 182 #[.slice a len cap] w fun e w' => e = .returned (.agg #[.int .i64 3, .int .i64 (-1)]) ∧ Below w.heap.size w w' := by
  rcases h with h | h
  · subst h
    go_enter Tryz.func182, Tryz.ntmps182
    go_wp2_with (go_at_call 181; refine (bareD 3 _).mono ?_; rintro e w' ⟨rfl, rfl⟩)
    exact bodyPost_ret (v := .agg #[.int .i64 3, .int .i64 (-1)]) (by simp [results, Tryz.results182, go_sem]) rfl ⟨rfl, below_two⟩
  · have h' : ¬ len < 1 := by omega
    go_enter Tryz.func182, Tryz.ntmps182
    go_wp2_with (go_at_call 181; refine (bareD 3 _).mono ?_; rintro e w' ⟨rfl, rfl⟩)
    exact bodyPost_ret (v := .agg #[.int .i64 3, .int .i64 (-1)]) (by simp [results, Tryz.results182, go_sem]) rfl ⟨rfl, below_two⟩

set_option maxRecDepth 100000 in
set_option maxHeartbeats 1000000 in
theorem wf_bad (b off n cap k0 : Nat) (W : Nat → Int) (w : World) (hI : Ints w b off n W) (n1 : 1 ≤ n) (n64 : n ≤ 64) (hk0 : k0 < n) (hG : ∀ i, i < k0 → WOk (W i)) (hbad : ¬ WOk (W k0)) :
    Calls Tryz.prog 182 #[.slice (some ⟨b, off, none⟩) n cap] w fun e w' => e = .returned (.agg #[.int .i64 2, .int .i64 k0]) ∧ Below w.heap.size w w' := by
  have h0 : ¬ n < 1 := by omega
  have hI1 : Ints (w.alloc (.cells #[.int .i64 0, .int .i64 0] 114)) b off n W := fun i hi => by rw [World.cell?_alloc_lt _ _ _ (cell_lt (hI i hi))]; exact hI i hi
  go_enter Tryz.func182, Tryz.ntmps182
  go_wp2
  go_loop [3, 4] (fun s i => ∃ k : Nat, k ≤ k0 ∧ i = .int .i64 k ∧ s = .int .i64 (sumTo W k)) (fun _ i => n - (intOf i).toNat)
  case atStart => exact ⟨0, Nat.zero_le _, rfl, rfl⟩
  case round =>
    obtain ⟨k, hk, rfl, rfl⟩ := hrel
    by_cases hlt : k < k0
    · have c0 := hI1 k (by omega)
      obtain ⟨g0, g1⟩ := hG k hlt
      have hs := sumTo_bd k (fun j hj => hG j (by omega))
      have hkn : k < n := by omega
      have he : Hid (sumTo W k + W k = sumTo W (k + 1)) := rfl
      clear hG hbad hI hI1 h0
      go_wp2
      go_round
      case rel => exact ⟨k + 1, by omega, by go_num, by rw [he.out]⟩
      case measure => simp [intOf]; omega
    · obtain rfl : k = k0 := by omega
      have c0 := hI1 k hk0
      clear hI hG h0 hI1
      unfold WOk at hbad
      by_cases g0 : 0 ≤ W k
      · have g1 : 1073741824 < W k := by omega
        have g0' : ¬ W k < 0 := by omega
        clear hbad
        go_wp2
        exact bodyPost_ret (v := .agg #[.int .i64 2, .int .i64 k]) (by simp [results, Tryz.results182, go_sem]) rfl ⟨rfl, below_one⟩
      · have g0' : W k < 0 := by omega
        clear hbad
        go_wp2
        exact bodyPost_ret (v := .agg #[.int .i64 2, .int .i64 k]) (by simp [results, Tryz.results182, go_sem]) rfl ⟨rfl, below_one⟩

set_option maxRecDepth 100000 in
set_option maxHeartbeats 1000000 in
theorem wf_fine (b off n cap : Nat) (W : Nat → Int) (w : World) (hI : Ints w b off n W) (hW : Weights n W) (z : Int) (hz : (z = 4 ∧ sumTo W n = 0) ∨ (z = 0 ∧ sumTo W n ≠ 0)) :
    Calls Tryz.prog 182 #[.slice (some ⟨b, off, none⟩) n cap] w fun e w' => e = .returned (.agg #[.int .i64 z, .int .i64 (-1)]) ∧ Below w.heap.size w w' := by
  have n1 := hW.n1
  have n64 := hW.n64
  have h0 : ¬ n < 1 := by omega
  have hI1 : Ints (w.alloc (.cells #[.int .i64 0, .int .i64 0] 114)) b off n W := fun i hi => by rw [World.cell?_alloc_lt _ _ _ (cell_lt (hI i hi))]; exact hI i hi
  go_enter Tryz.func182, Tryz.ntmps182
  go_wp2
  go_loop [3, 4] (fun s i => ∃ k : Nat, k ≤ n ∧ i = .int .i64 k ∧ s = .int .i64 (sumTo W k)) (fun _ i => n - (intOf i).toNat)
  case atStart => exact ⟨0, Nat.zero_le _, rfl, rfl⟩
  case round =>
    obtain ⟨k, hk, rfl, rfl⟩ := hrel
    by_cases hlt : k < n
    · have c0 := hI1 k (by omega)
      obtain ⟨g0, g1⟩ := hW.bd k hlt
      have hs := sumTo_bd k (fun j hj => hW.bd j (by omega))
      have he : Hid (sumTo W k + W k = sumTo W (k + 1)) := rfl
      clear hW hI hI1 h0 hz
      go_wp2
      go_round
      case rel => exact ⟨k + 1, by omega, by go_num, by rw [he.out]⟩
      case measure => simp [intOf]; omega
    · obtain rfl : k = n := by omega
      clear hI hI1 hW h0
      rcases hz with ⟨rfl, hz⟩ | ⟨rfl, hz⟩
      · have hz' : (sumTo W k == 0) = true := by simp; exact hz
        clear hz
        go_wp2_with (go_at_call 181; refine (bareD 4 _).mono ?_; rintro e w' ⟨rfl, rfl⟩)
        exact bodyPost_ret (v := .agg #[.int .i64 4, .int .i64 (-1)]) (by simp [results, Tryz.results182, go_sem]) rfl ⟨rfl, below_two⟩
      · have hz' : (sumTo W k == 0) = false := by simp; exact hz
        clear hz
        go_wp2_with (go_at_call 200; refine (fineD _).mono ?_; rintro e w' ⟨rfl, rfl⟩)
        exact bodyPost_ret (v := .agg #[.int .i64 0, .int .i64 (-1)]) (by simp [results, Tryz.results182, go_sem]) rfl ⟨rfl, below_two⟩

/-! a draw that stands -/
structure RefDrawAt (w : World) (D L O n : Nat) (H : Int) (d : DS) : Prop where
  c0 : w.cell? ⟨D, 0, none⟩ = some (.int .i64 H)
  c1 : w.cell? ⟨D, 1, none⟩ = some (.slice (some ⟨L, 0, none⟩) n n)
  c2 : w.cell? ⟨D, 2, none⟩ = some (.slice (some ⟨O, 0, none⟩) n n)
  l : ∀ k, k < n → w.cell? ⟨L, k, none⟩ = some (.int .i64 (d.line k))
  o : ∀ k, k < n → w.cell? ⟨O, k, none⟩ = some (.int .i64 (d.other k))
theorem RefDrawAt.below {w w' : World} {D L O n : Nat} {H : Int} {d : DS} (h : RefDrawAt w D L O n H d) (hB : Below w.heap.size w w') : RefDrawAt w' D L O n H d :=
  ⟨draw_old hB h.c0, draw_old hB h.c1, draw_old hB h.c2, fun k hk => draw_old hB (h.l k hk), fun k hk => draw_old hB (h.o k hk)⟩
theorem ref_pick (D L O n k : Nat) (x H : Int) (d : DS) (w : World) (h : RefDrawAt w D L O n H d) (hk : k < n) :
    Calls Tryz.prog 186 #[.pointer (some ⟨D, 0, none⟩), .int .i64 k, .int .i64 x] w fun e w' => e = .returned (.int .i64 (d.pick k x)) ∧ w' = w := by
  have c1 := h.c1
  have c2 := h.c2
  have cl := h.l k hk
  have co := h.o k hk
  by_cases hl : x < d.line k
  · have e : Hid ((k : Int) = d.pick k x) := by unfold Hid DS.pick; rw [if_pos hl]
    go_enter Tryz.func186, Tryz.ntmps186
    go_wp2
    go_ret
    exact ⟨ret_int e.out, rfl⟩
  · have e : Hid ((d.other k : Int) = d.pick k x) := by unfold Hid DS.pick; rw [if_neg hl]
    go_enter Tryz.func186, Tryz.ntmps186
    go_wp2
    go_ret
    exact ⟨ret_int e.out, rfl⟩
end Go.Proofs.YtaihcceobnfmhaaGreatDoor

namespace Go.Proofs.YtaihcceobnfmhaaGreatDoor
open Go.RowKit Go.Deep

/-- the two rows and the draw's own cells, whichever row was made first -/
theorem ref_rows (y : World) (n L O : Nat) (h : (L = y.heap.size ∧ O = y.heap.size + 1) ∨ (L = y.heap.size + 1 ∧ O = y.heap.size)) :
    (((y.alloc (.cells (noughts n) 3)).alloc (.cells (noughts n) 3)).alloc (.cells #[.int .i64 0, .slice (some ⟨L, 0, none⟩) n n, .slice (some ⟨O, 0, none⟩) n n] 219)).rowIs (y.heap.size + 2) 219 3 (ownv 0 L O n) ∧
    (((y.alloc (.cells (noughts n) 3)).alloc (.cells (noughts n) 3)).alloc (.cells #[.int .i64 0, .slice (some ⟨L, 0, none⟩) n n, .slice (some ⟨O, 0, none⟩) n n] 219)).rowIs L 3 n (fun _ => .int .i64 0) ∧
    (((y.alloc (.cells (noughts n) 3)).alloc (.cells (noughts n) 3)).alloc (.cells #[.int .i64 0, .slice (some ⟨L, 0, none⟩) n n, .slice (some ⟨O, 0, none⟩) n n] 219)).rowIs O 3 n (fun _ => .int .i64 0) := by
  have s1 : (y.alloc (.cells (noughts n) 3)).heap.size = y.heap.size + 1 := by simp
  have s2 : ((y.alloc (.cells (noughts n) 3)).alloc (.cells (noughts n) 3)).heap.size = y.heap.size + 2 := by simp
  have r1 := World.rowIs_alloc y (noughts n) 3 (fun _ => .int .i64 0) (fun i hi => noughts_at n i (by rw [noughts_size] at hi; exact hi))
  have r2 := World.rowIs_alloc (y.alloc (.cells (noughts n) 3)) (noughts n) 3 (fun _ => .int .i64 0) (fun i hi => noughts_at n i (by rw [noughts_size] at hi; exact hi))
  rw [noughts_size] at r1 r2
  rw [s1] at r2
  have r3 := World.rowIs_alloc ((y.alloc (.cells (noughts n) 3)).alloc (.cells (noughts n) 3)) #[.int .i64 0, .slice (some ⟨L, 0, none⟩) n n, .slice (some ⟨O, 0, none⟩) n n] 219 (ownv 0 L O n) (fun i hi => by
    have : i = 0 ∨ i = 1 ∨ i = 2 := by simp at hi; omega
    rcases this with rfl | rfl | rfl <;> rfl)
  rw [s2] at r3
  refine ⟨r3, ?_⟩
  rcases h with ⟨rfl, rfl⟩ | ⟨rfl, rfl⟩
  · exact ⟨(r1.alloc _).alloc _, r2.alloc _⟩
  · exact ⟨r2.alloc _, (r1.alloc _).alloc _⟩
theorem below_three {w : World} {a b c : Obj} : Below w.heap.size w (((w.alloc a).alloc b).alloc c) := (((Below.refl _ _).alloc (Nat.le_refl _) _).alloc (by simp) _).alloc (by simp; omega) _

set_option maxRecDepth 100000 in
set_option maxHeartbeats 8000000 in
theorem ref_newDraw (b off n cap : Nat) (W : Nat → Int) (w : World) (hI : Ints w b off n W) (hb : b < w.heap.size) (hW : Weights n W) :
    Calls Tryz.prog 183 #[.slice (some ⟨b, off, none⟩) n cap] w fun e w' => ∃ D L O, e = .returned (.pointer (some ⟨D, 0, none⟩)) ∧ w.heap.size ≤ D ∧ RefDrawAt w' D L O n (sumTo W n) (dend n W) ∧ Below w.heap.size w w' := by
  obtain ⟨i0, hi, hz0, hz1, hz2⟩ := info_parts Tryz.infoInts
  have n1 := hW.n1
  have n64 := hW.n64
  have m1 := make_ints n (by omega)
  have hS := hW.sum
  have I0 := hide (dinv_start n W (fun k hk => (hW.bd k hk).1))
  have hend : Hid (dend n W = (dstart n (sumTo W n) W).go (sumTo W n) (dstart n (sumTo W n) W).left) := rfl
  obtain ⟨H, hH⟩ : ∃ H, sumTo W n = H := ⟨_, rfl⟩
  rw [hH] at hS I0 hend
  rw [hH]
  have HH := hide hH
  clear hH
  go_enter Tryz.func183, Tryz.ntmps183
  go_upto_region 2 with fail
  go_cut [4] from 17 to 22 (fun dv x => ∃ D L O, dv = .pointer (some ⟨D, 0, none⟩) ∧ x.rowIs D 219 3 (ownv 0 L O n) ∧ x.rowIs L 3 n (fun _ => .int .i64 0) ∧ x.rowIs O 3 n (fun _ => .int .i64 0) ∧ D ≠ L ∧ D ≠ O ∧ L ≠ O ∧ w.heap.size ≤ D ∧ w.heap.size ≤ L ∧ w.heap.size ≤ O ∧ Below w.heap.size w x)
  case first =>
    have q1 := ref_rows w n w.heap.size (w.heap.size + 1) (.inl ⟨rfl, rfl⟩)
    have q2 := ref_rows w n (w.heap.size + 1) w.heap.size (.inr ⟨rfl, rfl⟩)
    go_region
    all_goals (go_wp2_with fail; go_meet; first | exact ⟨w.heap.size + 2, w.heap.size, w.heap.size + 1, rfl, q1.1, q1.2.1, q1.2.2, by omega, by omega, by omega, by omega, by omega, by omega, below_three.drew⟩ | exact ⟨w.heap.size + 2, w.heap.size + 1, w.heap.size, rfl, q2.1, q2.2.1, q2.2.2, by omega, by omega, by omega, by omega, by omega, by omega, below_three.drew⟩)
  case rest =>
  obtain ⟨D, L, O, rfl, hD, hL, hO, dl, d', lo, bD, bL, bO, hBx⟩ := hcut
  obtain ⟨F0, Ap, _⟩ := ref_start w n 3 wc D L O hD hL hO dl d' lo bD rfl
  have hB0 := hBx.alloc hBx.size (.cells (noughts n) 3)
  have bR := hBx.size
  have dr := Ap.dr
  have lr := Ap.lr
  have or' := Ap.or'
  have bDn : ¬ D = b := by omega
  have bLn : ¬ L = b := by omega
  have bOn : ¬ O = b := by omega
  have bRn : ¬ wc.heap.size = b := by omega
  have hT : ∀ k, k < n → 0 ≤ W k * n ∧ W k * n ≤ 68719476736 := fun k hk => hW.times k hk
  have hbd := hW.bd
  clear hD hL hO hW hBx
  go_wp2_with fail
  generalize wc.heap.size = R at *
  generalize wc.alloc (.cells (noughts n) 3) = wd at *
  go_loopw [6] (fun i wr => ∃ k : Nat, k ≤ n ∧ i = .int .i64 k ∧ RefFill wr D L O R (R + 1) n (sumTo W k) (restTo W n k) (fun _ => 0) (otherTo k) (.slice none 0 0) (.slice none 0 0) [] [] ∧ Below w.heap.size w wr) (fun i _ => n - (intOf i).toNat)
  case atStart => exact ⟨0, Nat.zero_le _, rfl, F0.as (fun _ _ => rfl) (fun _ _ => rfl) (fun _ _ => rfl), hB0⟩
  case round =>
    clear F0 hB0
    obtain ⟨k, hk, rfl, F, hB⟩ := hrel
    by_cases hlt : k < n
    · have cw := hI.below hB hb k hlt
      have cH := F.cH
      have fH := F.h.frozen 0
      have hs := sumTo_bd k (fun j hj => hbd j (by omega))
      have hbk := hbd k hlt
      have ht := hT k hlt
      have F1 := (F.setH Ap (sumTo W (k + 1))).drew
      have hB1 := (hB.setCell (p := ⟨D, 0, none⟩) bD (.int .i64 (sumTo W (k + 1)))).drew
      have he : Hid (sumTo W k + W k = sumTo W (k + 1)) := rfl
      go_wp2_with fail
      go_region
      rw [he.out]
      clear F hB cw cH fH
      generalize (wr.setCell ⟨D, 0, none⟩ (.int .i64 (sumTo W (k + 1)))).drew = x1 at *
      have cw := hI.below hB1 hb k hlt
      have cR := F1.r.cell hlt
      have fR := F1.r.frozen k
      have cO := F1.cO
      have cOk := F1.o.cell hlt
      have fOk := F1.o.frozen k
      go_wp2_with fail
      go_roundw
      case rel => exact ⟨k + 1, by omega, by go_num, ((F1.setR Ap k (W k * n)).setO Ap k k).as (fun j _ => to_next (fun j => W j * n) 0 k j) (fun _ _ => rfl) (fun j _ => to_next (fun j => j) 0 k j), (hB1.setCell (p := ⟨R, k, none⟩) bR _).setCell (p := ⟨O, k, none⟩) bO _⟩
      case measure => simp [intOf]; omega
    · obtain rfl : n = k := by omega
      rw [HH.out] at F
      clear hlt hk m1
      have F1 := F.as (line' := lineTo H 0) (fun _ _ => rfl) (fun _ _ => rfl) (fun _ _ => rfl)
      clear F
      go_wp2_with fail
      go_loopw [7] (fun i w2 => ∃ k : Nat, k ≤ n ∧ i = .int .i64 k ∧ RefFill w2 D L O R (R + 1) n H (restTo W n n) (lineTo H k) (otherTo n) (.slice none 0 0) (.slice none 0 0) [] [] ∧ Below w.heap.size w w2) (fun i _ => n - (intOf i).toNat)
      case atStart => exact ⟨0, Nat.zero_le _, rfl, F1, hB⟩
      case round =>
        clear F1 hB
        obtain ⟨k, hk, rfl, F, hB⟩ := hrel
        by_cases hlt : k < n
        · have cH := F.cH
          have cL := F.cL
          have cLk := F.l.cell hlt
          have fLk := F.l.frozen k
          have F1 := (F.setL Ap k H).drew
          have hB1 := (hB.setCell (p := ⟨L, k, none⟩) bL (.int .i64 H)).drew
          go_wp2_with fail
          go_region
          go_wp2_with fail
          go_roundw
          case rel => exact ⟨k + 1, by omega, by go_num, F1.as (fun _ _ => rfl) (fun j _ => to_next (fun _ => H) 0 k j) (fun _ _ => rfl), hB1⟩
          case measure => simp [intOf]; omega
        · obtain rfl : n = k := by omega
          have F1 := F.as (rest' := fun j => W j * n) (line' := fun _ => H) (other' := fun j => j) (fun j hj => by simp [restTo, hj]) (fun j hj => by simp [lineTo, hj]) (fun j hj => by simp [otherTo, hj])
          clear F hlt hk
          go_wp2_with fail
          go_loopw [8, 9, 10] (fun sv gv i w2 => ∃ k : Nat, k ≤ n ∧ i = .int .i64 k ∧ RefFill w2 D L O R (R + 1) n H (fun j => W j * n) (fun _ => H) (fun j => j) sv gv (smallTo H (fun k => W k * n) k) (greatTo H (fun k => W k * n) k) ∧ Below w.heap.size w w2) (fun _ _ i _ => n - (intOf i).toNat)
          case atStart => exact ⟨0, Nat.zero_le _, rfl, F1, hB⟩
          case round =>
            clear F1 hB
            obtain ⟨k, hk, rfl, F, hB⟩ := hrel
            by_cases hlt : k < n
            · have cH := F.cH
              have cR := F.r.cell hlt
              have hlen := rows_len H (fun k => W k * n) k
              by_cases hl : W k * n < H
              · have hd : decide (W k * n < H) = true := by simp [hl]
                go_wp2_with fail
                go_quiet (fail)
                have F1 := F.drewN nq
                have hB1 := below_drewN hB nq
                clear F hB cH cR
                generalize wr.drewN nq = x1 at *
                go_wp2_with (at_builtin; refine wpList_que _ rfl (.tmp 87) (.tmp 89) 31 rfl (R + 1) 3 i0 Tryz.underlying31 hi hz0 hz1 hz2 u8 _ rfl (F1.s.alloc _) ⟨x1.heap.size, 0, none⟩ 1 k rfl (cell_new _ _ _ _ _ _ rfl rfl) (by omega) (by have := F1.r.lt; simp; omega) ?_; intro sv' w2 hq hg ho)
                have F3 := (F1.alloc _).pushS Ap hq hg ho
                have es : smallTo H (fun k => W k * n) (k + 1) = smallTo H (fun k => W k * n) k ++ [k] := if_pos hl
                have eg : greatTo H (fun k => W k * n) (k + 1) = greatTo H (fun k => W k * n) k := if_pos hl
                have hs2 := F1.r.lt
                go_roundw
                case rel => exact ⟨k + 1, by omega, by go_num, by rw [es, eg]; exact F3, (hB1.alloc hB1.size _).grown hg (by simp; omega) (fun j hj => by have := (F1.s.lt j hj).1; omega)⟩
                case measure => simp [intOf]; omega
              · have hd : decide (W k * n < H) = false := by simp; omega
                go_wp2_with fail
                go_quiet (fail)
                have F1 := F.drewN nq
                have hB1 := below_drewN hB nq
                clear F hB cH cR
                generalize wr.drewN nq = x1 at *
                go_wp2_with (at_builtin; refine wpList_que _ rfl (.tmp 91) (.tmp 93) 31 rfl (R + 1) 3 i0 Tryz.underlying31 hi hz0 hz1 hz2 u9 _ rfl (F1.g.alloc _) ⟨x1.heap.size, 0, none⟩ 1 k rfl (cell_new _ _ _ _ _ _ rfl rfl) (by omega) (by have := F1.r.lt; simp; omega) ?_; intro sv' w2 hq hg ho)
                have F3 := (F1.alloc _).pushG Ap hq hg ho
                have es : smallTo H (fun k => W k * n) (k + 1) = smallTo H (fun k => W k * n) k := if_neg (show ¬ W k * n < H by omega)
                have eg : greatTo H (fun k => W k * n) (k + 1) = greatTo H (fun k => W k * n) k ++ [k] := if_neg (show ¬ W k * n < H by omega)
                have hs2 := F1.r.lt
                go_roundw
                case rel => exact ⟨k + 1, by omega, by go_num, by rw [es, eg]; exact F3, (hB1.alloc hB1.size _).grown hg (by simp; omega) (fun j hj => by have := (F1.g.lt j hj).1; omega)⟩
                case measure => simp [intOf]; omega
            · obtain rfl : n = k := by omega
              have G0 : Hid ((dstart n H W).go H (dstart n H W).left = dend n W ∧ 0 + (dstart n H W).left = n) := ⟨hend.out.symm, by unfold DS.left; rw [List.length_append, Nat.zero_add]; exact (rows_sum H (fun k_1 => W k_1 * n) (fun _ => 0) n).2⟩
              have I1 : DInv n H W (dstart n H W) := I0.out
              have F1 : RefFill wr D L O R (R + 1) n H (dstart n H W).rest (dstart n H W).line (dstart n H W).other u8 u9 (smallTo H (fun j => W j * n) n) (greatTo H (fun j => W j * n) n) := F
              have hd1 : Hid ((smallTo H (fun j => W j * n) n).drop 0 = (dstart n H W).small ∧ (greatTo H (fun j => W j * n) n).drop 0 = (dstart n H W).great) := ⟨rfl, rfl⟩
              have hgn : (greatTo H (fun j => W j * n) n).length ≤ n := by have := (rows_len H (fun j => W j * n) n).2; rw [ints_len] at this; exact this
              clear F hlt hk I0 hend
              generalize greatTo H (fun j => W j * n) n = GG at *
              go_wp2_with fail
              go_loopw [8, 11, 12] (fun sv ia ifi w2 => ∃ (d : DS) (SS : List Nat) (at' fi : Nat), ia = .int .i64 at' ∧ ifi = .int .i64 fi ∧ RefFill w2 D L O R (R + 1) n H d.rest d.line d.other sv u9 SS GG ∧ Hid (SS.drop at' = d.small ∧ GG.drop fi = d.great) ∧ at' ≤ SS.length ∧ fi ≤ GG.length ∧ DInv n H W d ∧ Hid (d.go H d.left = dend n W ∧ at' + d.left = n) ∧ Below w.heap.size w w2) (fun _ ia _ _ => n - (intOf ia).toNat)
              case atStart => exact ⟨_, _, 0, 0, rfl, rfl, F1, hd1, Nat.zero_le _, Nat.zero_le _, I1, G0, hB⟩
              case round =>
                clear F1 hd1 I1 G0 hB
                obtain ⟨d, SS, ai, fi, rfl, rfl, F, hdr, ha, hf, I, hgo, hB⟩ := hrel
                match es : d.small, eg : d.great with
                | [], _ =>
                  have E : Hid (d = dend n W) := by have := hgo.out.1; rw [DS.go_end H _ d (.inl es)] at this; exact this
                  obtain ⟨ao, sc, hv, _, _⟩ := F.s.shape
                  rw [ints_len] at hv
                  have hal : ¬ ai < SS.length := by
                    have h1 := hdr.out.1
                    rw [es] at h1
                    have := List.drop_eq_nil_iff.1 h1
                    omega
                  generalize SS.length = sl at *
                  subst hv
                  go_wp2_with fail
                  go_ret
                  exact ⟨_, _, _, rfl, bD, ⟨F.cH, F.cL, F.cO, fun j hj => by rw [← E.out]; exact F.l.cell hj, fun j hj => by rw [← E.out]; exact F.o.cell hj⟩, hB⟩
                | a :: rs, [] =>
                  have E : Hid (d = dend n W) := by have := hgo.out.1; rw [DS.go_end H _ d (.inr eg)] at this; exact this
                  obtain ⟨ao, sc, hv, _, _⟩ := F.s.shape
                  rw [ints_len] at hv
                  obtain ⟨bo, gc, hv2, _, _⟩ := F.g.shape
                  rw [ints_len] at hv2
                  have hal : ai < SS.length := by
                    have h1 := hdr.out.1
                    rw [es] at h1
                    have := congrArg List.length h1
                    rw [List.length_drop, List.length_cons] at this
                    omega
                  have hfl : ¬ fi < GG.length := by
                    have h1 := hdr.out.2
                    rw [eg] at h1
                    have := List.drop_eq_nil_iff.1 h1
                    omega
                  generalize SS.length = sl at *
                  generalize GG.length = gl at *
                  subst hv hv2
                  go_wp2_with fail
                  go_ret
                  exact ⟨_, _, _, rfl, bD, ⟨F.cH, F.cL, F.cO, fun j hj => by rw [← E.out]; exact F.l.cell hj, fun j hj => by rw [← E.out]; exact F.o.cell hj⟩, hB⟩
                | s :: ss, g :: gs =>
                  have hS' : 0 ≤ d.rest s ∧ d.rest s < H := I.sm s (by rw [es]; simp)
                  have hG' : H ≤ d.rest g := I.gr g (by rw [eg]; simp)
                  have sn : s < n := I.lt s (by rw [es]; simp)
                  have gn : g < n := I.lt g (by rw [eg]; simp)
                  have hT' : d.rest g ≤ 68719476736 := Int.le_trans (I.rest_le hS.1 g (by rw [eg]; simp)) (hT g gn).2
                  have I' := I.next es eg
                  have hl' := next_left H d s g ss gs es eg
                  have hgo' : Hid ((d.next H s g ss gs).go H (d.next H s g ss gs).left = dend n W ∧ ai + 1 + (d.next H s g ss gs).left = n) := by
                    have := hgo.out.1
                    rw [← hl', DS.go_step H _ d es eg] at this
                    exact ⟨this, by have := hgo.out.2; omega⟩
                  have e1 := hdr.out.1
                  have e2 := hdr.out.2
                  rw [es] at e1
                  rw [eg] at e2
                  have l1 := congrArg List.length e1
                  have l2 := congrArg List.length e2
                  rw [List.length_drop, List.length_cons] at l1 l2
                  have hal : ai < SS.length := by omega
                  have hfl : fi < GG.length := by omega
                  have x1 : SS[ai]? = some s := by have := congrArg List.head? e1; rw [List.head?_drop] at this; exact this
                  have x2 : GG[fi]? = some g := by have := congrArg List.head? e2; rw [List.head?_drop] at this; exact this
                  have y1 : SS.drop (ai + 1) = ss := by have := congrArg List.tail e1; rw [List.tail_drop] at this; exact this
                  have y2 : GG.drop (fi + 1) = gs := by have := congrArg List.tail e2; rw [List.tail_drop] at this; exact this
                  have hleft : d.left = ss.length + gs.length + 2 := by unfold DS.left; rw [es, eg]; simp; omega
                  have hln : Hid ((ints SS).length ≤ 1000000) := by
                    have := hgo.out.2
                    unfold Hid
                    rw [ints_len]; omega
                  have ain : ai < n := by have := hgo.out.2; omega
                  have ND : Hid ((d.rest g - (H - d.rest s) < H → Hid ((SS ++ [g]).drop (ai + 1) = (d.next H s g ss gs).small ∧ GG.drop (fi + 1) = (d.next H s g ss gs).great)) ∧ (¬ d.rest g - (H - d.rest s) < H → Hid (SS.drop (ai + 1) = (d.next H s g ss gs).small ∧ GG.drop fi = (d.next H s g ss gs).great))) := by
                    refine ⟨fun h => ?_, fun h => ?_⟩
                    · have a1 : (d.next H s g ss gs).small = ss ++ [g] := if_pos h
                      have a2 : (d.next H s g ss gs).great = gs := if_pos h
                      exact ⟨by rw [a1, List.drop_append_of_le_length (by omega), y1], by rw [a2, y2]⟩
                    · have a1 : (d.next H s g ss gs).small = ss := if_neg h
                      have a2 : (d.next H s g ss gs).great = g :: gs := if_neg h
                      exact ⟨by rw [a1, y1], by rw [a2, e2]⟩
                  obtain ⟨sb, so, sc, hv, _, _, _, _, hcs⟩ := F.s.at (by intro h; rw [← List.length_eq_zero_iff, ints_len] at h; omega)
                  obtain ⟨gb, go, gc, hv2, _, _, _, _, hcg⟩ := F.g.at (by intro h; rw [← List.length_eq_zero_iff, ints_len] at h; omega)
                  have cs := hcs ai s (by unfold ints; rw [List.getElem?_map, x1]; rfl)
                  have cg := hcg fi g (by unfold ints; rw [List.getElem?_map, x2]; rfl)
                  rw [ints_len] at hv hv2
                  have cL := F.cL
                  have cRs := F.r.cell sn
                  have cLs := F.l.cell sn
                  have fL := F.l.frozen s
                  clear e1 e2 l1 l2 x1 x2 y1 y2 hcs hcg hleft hl' es eg hdr hgo
                  generalize hsl : SS.length = sl at *
                  generalize GG.length = gl at *
                  have HSL := hide hsl
                  clear hsl
                  subst hv hv2
                  by_cases hl : d.rest g - (H - d.rest s) < H
                  · go_wp2_with fail
                    go_region
                    have F1 := (F.setL Ap s (d.rest s)).drew
                    have hB1 := (hB.setCell (p := ⟨L, s, none⟩) bL (.int .i64 (d.rest s))).drew
                    clear F hB cL cRs fL cs cg
                    generalize (wr.setCell ⟨L, s, none⟩ (.int .i64 (d.rest s))).drew = x1 at *
                    have cO := F1.cO
                    have cOs := F1.o.cell sn
                    have fO := F1.o.frozen s
                    go_wp2_with fail
                    have F2 := F1.setO Ap s g
                    have hB2 := hB1.setCell (p := ⟨O, s, none⟩) bO (.int .i64 g)
                    clear F1 hB1 cO cOs fO
                    generalize x1.setCell ⟨O, s, none⟩ (.int .i64 g) = x2 at *
                    have cH := F2.cH
                    have cRs := F2.r.cell sn
                    have cRg := F2.r.cell gn
                    have fRg := F2.r.frozen g
                    go_region
                    have F3 := (F2.setR Ap g (d.rest g - (H - d.rest s))).drew
                    have hB3 := (hB2.setCell (p := ⟨R, g, none⟩) bR (.int .i64 (d.rest g - (H - d.rest s)))).drew
                    clear F2 hB2 cH cRs cRg fRg
                    generalize (x2.setCell ⟨R, g, none⟩ (.int .i64 (d.rest g - (H - d.rest s)))).drew = x3 at *
                    have cH := F3.cH
                    have cRg := F3.r.cell gn
                    simp only [upd_same] at cRg
                    go_wp2_with fail
                    go_quiet (fail)
                    have F4 := F3.drewN nq
                    have hB4 := below_drewN hB3 nq
                    clear F3 hB3 cH cRg
                    generalize x3.drewN nq = x4 at *
                    go_wp2_with (at_builtin; refine wpList_que _ rfl (.tmp 160) (.tmp 162) 31 rfl (R + 1) 3 i0 Tryz.underlying31 hi hz0 hz1 hz2 _ _ rfl (F4.s.alloc _) ⟨x4.heap.size, 0, none⟩ 1 g rfl (cell_new _ _ _ _ _ _ rfl rfl) hln.out (by have := F4.r.lt; simp; omega) ?_; intro sv' w2 hq hg ho)
                    have F5 := (F4.alloc _).pushS Ap hq hg ho
                    have hs2 := F4.r.lt
                    go_roundw
                    case rel => exact ⟨d.next H s g ss gs, SS ++ [g], ai + 1, fi + 1, by go_num, by go_num, F5, ND.out.1 hl, by rw [List.length_append, HSL.out]; simp; omega, by omega, I', hgo', (hB4.alloc hB4.size _).grown hg (by simp; omega) (fun j hj => by have := (F4.s.lt j hj).1; omega)⟩
                    case measure => simp [intOf]; omega
                  · go_wp2_with fail
                    go_region
                    have F1 := (F.setL Ap s (d.rest s)).drew
                    have hB1 := (hB.setCell (p := ⟨L, s, none⟩) bL (.int .i64 (d.rest s))).drew
                    clear F hB cL cRs fL cs cg
                    generalize (wr.setCell ⟨L, s, none⟩ (.int .i64 (d.rest s))).drew = x1 at *
                    have cO := F1.cO
                    have cOs := F1.o.cell sn
                    have fO := F1.o.frozen s
                    go_wp2_with fail
                    have F2 := F1.setO Ap s g
                    have hB2 := hB1.setCell (p := ⟨O, s, none⟩) bO (.int .i64 g)
                    clear F1 hB1 cO cOs fO
                    generalize x1.setCell ⟨O, s, none⟩ (.int .i64 g) = x2 at *
                    have cH := F2.cH
                    have cRs := F2.r.cell sn
                    have cRg := F2.r.cell gn
                    have fRg := F2.r.frozen g
                    go_region
                    have F3 := (F2.setR Ap g (d.rest g - (H - d.rest s))).drew
                    have hB3 := (hB2.setCell (p := ⟨R, g, none⟩) bR (.int .i64 (d.rest g - (H - d.rest s)))).drew
                    clear F2 hB2 cH cRs cRg fRg
                    generalize (x2.setCell ⟨R, g, none⟩ (.int .i64 (d.rest g - (H - d.rest s)))).drew = x3 at *
                    have cH := F3.cH
                    have cRg := F3.r.cell gn
                    simp only [upd_same] at cRg
                    go_wp2_with fail
                    go_quiet (fail)
                    have F4 := F3.drewN nq
                    have hB4 := below_drewN hB3 nq
                    clear F3 hB3 cH cRg
                    generalize x3.drewN nq = x4 at *
                    go_wp2_with fail
                    go_roundw
                    case rel => exact ⟨d.next H s g ss gs, SS, ai + 1, fi, by go_num, rfl, F4, ND.out.2 (by omega), by rw [HSL.out]; omega, hf, I', hgo', hB4⟩
                    case measure => simp [intOf]; omega
end Go.Proofs.YtaihcceobnfmhaaGreatDoor

namespace Go.Proofs.YtaihcceobnfmhaaGreatDoor
open Go.RowKit

set_option maxRecDepth 100000 in
theorem ref_next (b s : Nat) (w : World) (h : LotAt w b s) :
    Calls Tryz.prog 201 #[.pointer (some ⟨b, 0, none⟩)] w fun e w' => e = .returned (.int .u64 (nextL s)) ∧ w' = w.setCell ⟨b, 0, none⟩ (.int .u64 (nextS s)) := by
  have c := h.c
  have f := h.f
  go_enter Tryz.func201, Tryz.ntmps201
  go_wp2
  go_ret
  have d1 : ∀ a : Nat, a < W64 → IntKind.u64.wrap ((a : Int).tdiv 1073741824) = (a : Int) / 1073741824 := fun a ha => div_word a 1073741824 ha
  have d2 : ∀ a : Nat, a < W64 → IntKind.u64.wrap ((a : Int).tdiv 134217728) = (a : Int) / 134217728 := fun a ha => div_word a 134217728 ha
  have d3 : ∀ a : Nat, a < W64 → IntKind.u64.wrap ((a : Int).tdiv 2147483648) = (a : Int) / 2147483648 := fun a ha => div_word a 2147483648 ha
  rw [next_state s, d1 _ (nextS_lt s), word_1 _ (nextS_lt s), d2 _ (mod64 _), word_2 _ (mod64 _), d3 _ (mod64 _), word_3 _ (mod64 _)]
  exact ⟨rfl, rfl⟩

set_option maxRecDepth 100000 in
set_option maxHeartbeats 1000000 in
theorem ref_below (b s n : Nat) (w : World) (h : LotAt w b s) (n1 : 1 ≤ n) (nM : n ≤ 1125899906842624) :
    Calls Tryz.prog 185 #[.pointer (some ⟨b, 0, none⟩), .int .i64 n] w fun e w' => ∃ v t, e = .returned (.int .i64 (v : Nat)) ∧ Bel n s v t ∧ LotAt w' b t ∧ Kept [b] w w' := by
  go_enter Tryz.func185, Tryz.ntmps185
  go_wp2
  go_loopw [4] (fun r wr => r = .int .i64 0 ∧ ∃ q, LotAt wr b q ∧ Kept [b] w wr ∧ Hid (∀ v t, Bel n q v t → Bel n s v t)) (fun _ wr => toZero (stateOf wr b))
  case atStart => exact ⟨rfl, s, h, Kept.refl _ _, fun _ _ h => h⟩
  case round =>
    obtain ⟨rfl, q, hq, hK, hR⟩ := hrel
    clear h
    have N := ref_next b q wr hq
    have hq' := hq.set (nextS q) (nextS_lt q)
    have hK' := hK.setCell (p := ⟨b, 0, none⟩) (by simp) (.int .u64 (nextS q))
    have hl := nextL_lt q
    obtain ⟨X, Z, R, N', hX, hN, hZ, hR', z0, z1, r0, r1, r2, m1, m2, w1, w2, ht, hmt⟩ : ∃ X Z R N' : Int, (nextL q : Int) = X ∧ (n : Int) = N' ∧ ((nextL q / 2 : Nat) : Int) = Z ∧ ((nextL q / 2 % n : Nat) : Int) = R ∧ 0 ≤ Z ∧ Z ≤ 9223372036854775807 ∧ 0 ≤ R ∧ R ≤ Z ∧ R < N' ∧ 1 ≤ N' ∧ N' ≤ 1125899906842624 ∧
        IntKind.u64.wrap (X.tdiv 2) = Z ∧ IntKind.u64.wrap (X / 2) = Z ∧ Z.tmod N' = R ∧ (Z - R ≤ 9223372036854775807 - N' + 1 ↔ nextL q / 2 < most n) := by
      have hz : IntKind.u64.wrap ((nextL q : Int).tdiv 2) = ((nextL q / 2 : Nat) : Int) := div_word (nextL q) 2 hl
      have hm := Nat.mod_le (nextL q / 2) n
      have hn := Nat.mod_lt (nextL q / 2) (show 0 < n by omega)
      have hb : nextL q < 18446744073709551616 := hl
      have hz' : IntKind.u64.wrap ((nextL q : Int) / 2) = ((nextL q / 2 : Nat) : Int) := by rw [IntKind.wrap_u64]; omega
      have ht : ((nextL q / 2 : Nat) : Int).tmod (n : Int) = ((nextL q / 2 % n : Nat) : Int) := by rw [Int.tmod_eq_emod_of_nonneg (by omega)]; exact (Int.natCast_emod _ _).symm
      have hmt := most_test (nextL q / 2) n (by omega)
      exact ⟨_, _, _, _, rfl, rfl, rfl, rfl, by omega, by omega, by omega, by omega, by omega, by omega, by omega, hz, hz', ht, by rw [← hmt]; omega⟩
    by_cases hlt : nextL q / 2 < most n
    · have hB : Hid (Bel n s (nextL q / 2 % n) (nextS q)) := hR.out _ _ (Bel.take q hlt)
      have g := hmt.2 hlt
      have HR := hide hR'
      rw [hX] at N
      clear hmt hR hlt hl hR' hZ hX n1 nM
      rw [hN]
      clear hN
      go_wp2_with (go_at_call 201; refine N.mono ?_; rintro e w1 ⟨rfl, rfl⟩)
      go_ret
      exact ⟨_, nextS q, ret_int HR.out.symm, hB.out, hq', hK'⟩
    · have hR2 : Hid (∀ v t, Bel n (nextS q) v t → Bel n s v t) := fun v t h => hR.out v t (Bel.more q v t hlt h)
      have g : ¬ Z - R ≤ 9223372036854775807 - N' + 1 := fun g => hlt (hmt.1 g)
      have hf := hide (falls hq.lt n1 (by omega) hlt)
      have hs0 := hide hq.state
      have hs1 := hide hq'.state
      rw [hX] at N
      clear hmt hR hlt hl hR' hZ hX n1 nM
      rw [hN]
      clear hN
      go_wp2_with (go_at_call 201; refine N.mono ?_; rintro e w1 ⟨rfl, rfl⟩)
      go_roundw
      case rel => exact ⟨rfl, nextS q, hq', hK', hR2⟩
      case measure => rw [hs0.out, hs1.out]; exact hf.out
set_option maxRecDepth 100000 in
set_option maxHeartbeats 1000000 in
theorem ref_mix (a : Option Addr) (b off n cap seed : Nat) (W : Nat → Int) (hs : seed < W64) (hn : n ≤ 1000) (w : World) (ha : Hid (0 < n → a = some ⟨b, off, none⟩)) (hb : Hid (0 < n → b < w.heap.size)) (hI : Ints w b off n W) :
    Calls Tryz.prog 184 #[.int .u64 seed, .slice a n cap] w fun e w' => e = .returned (.int .u64 (mixTo W seed n)) ∧ Below w.heap.size w w' := by
  go_enter Tryz.func184, Tryz.ntmps184
  go_wp2
  go_loopw [0, 5] (fun r i wr => ∃ k : Nat, k ≤ n ∧ i = .int .i64 k ∧ r = .int .u64 (mixTo W seed k) ∧ Below w.heap.size w wr) (fun _ i _ => n - (intOf i).toNat)
  case atStart => exact ⟨0, Nat.zero_le _, rfl, rfl, Below.refl _ _⟩
  case round =>
    obtain ⟨k, hk, rfl, rfl, hB⟩ := hrel
    by_cases hlt : k < n
    · have c0 := hI.below hB (hb.out (by omega)) k hlt
      obtain rfl := ha.out (by omega)
      have hm := mixTo_lt W seed hs k
      have hu := toU_lt (W k)
      have hx := xor_lt64 hm hu
      have e1 : IntKind.u64.wrap (W k) = ((toU (W k) : Nat) : Int) := by rw [toU_cast, IntKind.wrap_u64]
      have e2 : bits .xor .u64 ((mixTo W seed k : Nat) : Int) ((toU (W k) : Nat) : Int) = ((mixTo W seed k ^^^ toU (W k) : Nat) : Int) := bits_xor_u64_nat _ _ hm hu
      have hL := lot_new wr (mixTo W seed k ^^^ toU (W k)) hx 217
      have E : Hid (nextL (mixTo W seed k ^^^ toU (W k)) = mixTo W seed (k + 1)) := rfl
      clear hI hm hu hx ha hb
      generalize mixTo W seed k ^^^ toU (W k) = y at *
      generalize toU (W k) = u at *
      generalize mixTo W seed k = m at *
      have hB3 := hB.alloc hB.size (.cells #[.int .u64 (nextS y)] 217)
      go_wp2_with fail
      refine (ref_next wr.heap.size y _ hL).mono ?_
      rintro e w2 ⟨rfl, rfl⟩
      go_wp2_with fail
      go_roundw
      case rel => exact ⟨k + 1, by omega, by go_num, by rw [E.out], hB3⟩
      case measure => simp [intOf]; omega
    · obtain rfl : n = k := by omega
      go_wp2_with fail
      go_ret
      exact ⟨rfl, hB⟩
end Go.Proofs.YtaihcceobnfmhaaGreatDoor

namespace Go.Proofs.YtaihcceobnfmhaaGreatDoor
open Go.RowKit Go.Deep

set_option maxRecDepth 100000 in
set_option maxHeartbeats 1000000 in
theorem ref_baker_bad (a : Option Addr) (n cap seed : Nat) (c l r : Int) (h : ¬ TurnOk c l r) (w : World) :
    Calls Tryz.prog 137 #[.slice a n cap, .int .u64 seed, .int .i64 c, .int .i64 l, .int .i64 r] w fun e w' => e = .returned (.tuple #[.int .i64 0, .agg #[.int .i64 2, .int .i64 (-1)]]) ∧ Below w.heap.size w w' := by
  by_cases c0 : 0 ≤ c
  · by_cases c1 : c ≤ 1048576
    · by_cases l0 : 0 ≤ l
      · by_cases l1 : l ≤ 4194304
        · by_cases r0 : 0 ≤ r
          · have r1 : ¬ r < 8 := fun g => h ⟨⟨c0, c1⟩, ⟨l0, l1⟩, r0, g⟩
            clear h
            go_enter Tryz.func137, Tryz.ntmps137
            go_wp2_with (go_at_call 181; refine (bareD 2 _).mono ?_; rintro e w1 ⟨rfl, rfl⟩)
            exact bodyPost_ret (v := .tuple #[.int .i64 0, .agg #[.int .i64 2, .int .i64 (-1)]]) (by simp [results, Tryz.results137, go_sem]) rfl ⟨rfl, below_two⟩
          · clear h
            go_enter Tryz.func137, Tryz.ntmps137
            go_wp2_with (go_at_call 181; refine (bareD 2 _).mono ?_; rintro e w1 ⟨rfl, rfl⟩)
            exact bodyPost_ret (v := .tuple #[.int .i64 0, .agg #[.int .i64 2, .int .i64 (-1)]]) (by simp [results, Tryz.results137, go_sem]) rfl ⟨rfl, below_two⟩
        · clear h
          go_enter Tryz.func137, Tryz.ntmps137
          go_wp2_with (go_at_call 181; refine (bareD 2 _).mono ?_; rintro e w1 ⟨rfl, rfl⟩)
          exact bodyPost_ret (v := .tuple #[.int .i64 0, .agg #[.int .i64 2, .int .i64 (-1)]]) (by simp [results, Tryz.results137, go_sem]) rfl ⟨rfl, below_two⟩
      · clear h
        go_enter Tryz.func137, Tryz.ntmps137
        go_wp2_with (go_at_call 181; refine (bareD 2 _).mono ?_; rintro e w1 ⟨rfl, rfl⟩)
        exact bodyPost_ret (v := .tuple #[.int .i64 0, .agg #[.int .i64 2, .int .i64 (-1)]]) (by simp [results, Tryz.results137, go_sem]) rfl ⟨rfl, below_two⟩
    · clear h
      go_enter Tryz.func137, Tryz.ntmps137
      go_wp2_with (go_at_call 181; refine (bareD 2 _).mono ?_; rintro e w1 ⟨rfl, rfl⟩)
      exact bodyPost_ret (v := .tuple #[.int .i64 0, .agg #[.int .i64 2, .int .i64 (-1)]]) (by simp [results, Tryz.results137, go_sem]) rfl ⟨rfl, below_two⟩
  · clear h
    go_enter Tryz.func137, Tryz.ntmps137
    go_wp2_with (go_at_call 181; refine (bareD 2 _).mono ?_; rintro e w1 ⟨rfl, rfl⟩)
    exact bodyPost_ret (v := .tuple #[.int .i64 0, .agg #[.int .i64 2, .int .i64 (-1)]]) (by simp [results, Tryz.results137, go_sem]) rfl ⟨rfl, below_two⟩

set_option maxRecDepth 100000 in
set_option maxHeartbeats 1000000 in
theorem ref_baker_fault (v : Value) (seed : Nat) (c l r z p : Int) (h : TurnOk c l r) (hz : 0 < z) (w : World)
    (WF : ∀ w1, Below w.heap.size w w1 → Calls Tryz.prog 182 #[v] w1 fun e w2 => e = .returned (.agg #[.int .i64 z, .int .i64 p]) ∧ Below w1.heap.size w1 w2) :
    Calls Tryz.prog 137 #[v, .int .u64 seed, .int .i64 c, .int .i64 l, .int .i64 r] w fun e w' => e = .returned (.tuple #[.int .i64 0, .agg #[.int .i64 z, .int .i64 p]]) ∧ Below w.heap.size w w' := by
  obtain ⟨⟨c0, c1⟩, ⟨l0, l1⟩, r0, r1⟩ := h
  have B1 : Below w.heap.size w (w.alloc (.cells #[.int .i64 0, .int .i64 0] 114)) := below_one
  have W1 := hide (WF _ B1)
  have s0 : (w.alloc (.cells #[.int .i64 0, .int .i64 0] 114)).cell? ⟨w.heap.size, 0, none⟩ = some (.int .i64 0) := by simp
  have s1 : (w.alloc (.cells #[.int .i64 0, .int .i64 0] 114)).cell? ⟨w.heap.size, 1, none⟩ = some (.int .i64 0) := by simp
  have f0 : ∀ i, (w.alloc (.cells #[.int .i64 0, .int .i64 0] 114)).frozen? ⟨w.heap.size, i, none⟩ = false := fun i => World.frozen?_alloc_at _ _ _ _ rfl
  go_enter Tryz.func137, Tryz.ntmps137
  go_wp2_with fail
  refine W1.out.mono ?_
  rintro e w2 ⟨rfl, B2⟩
  have lt1 := cell_lt s0
  have t0 := draw_old B2 s0
  have t1 := draw_old B2 s1
  have g0 : w2.frozen? ⟨w.heap.size, 0, none⟩ = false := by rw [B2.frozen (p := ⟨w.heap.size, 0, none⟩) lt1]; exact f0 0
  have g1 : w2.frozen? ⟨w.heap.size, 1, none⟩ = false := by rw [B2.frozen (p := ⟨w.heap.size, 1, none⟩) lt1]; exact f0 1
  have B3 : Below w.heap.size w w2 := B1.trans (B2.mono B1.size)
  have ge : Hid (w.heap.size ≤ w.heap.size) := Nat.le_refl _
  have lt2 : w.heap.size < w2.heap.size := cell_lt t0
  clear W1 WF s0 s1 f0 B1 B2 lt1
  generalize hna : w.heap.size = na at t0 t1 g0 g1 lt2 ⊢
  go_wp2_with fail
  have hB : Below w2.heap.size w2 (w2.alloc (.cells #[.int .i64 z, .int .i64 p] 114)) := below_one
  have u0 := draw_old hB t0
  have u1 := draw_old hB t1
  have h0 : (w2.alloc (.cells #[.int .i64 z, .int .i64 p] 114)).frozen? ⟨na, 0, none⟩ = false := by rw [hB.frozen (p := ⟨na, 0, none⟩) lt2]; exact g0
  have h1 : (w2.alloc (.cells #[.int .i64 z, .int .i64 p] 114)).frozen? ⟨na, 1, none⟩ = false := by rw [hB.frozen (p := ⟨na, 1, none⟩) lt2]; exact g1
  have v0 : (w2.alloc (.cells #[.int .i64 z, .int .i64 p] 114)).cell? ⟨w2.heap.size, 0, none⟩ = some (.int .i64 z) := by simp
  have v1 : (w2.alloc (.cells #[.int .i64 z, .int .i64 p] 114)).cell? ⟨w2.heap.size, 1, none⟩ = some (.int .i64 p) := by simp
  have B4 := B3.trans (hB.mono B3.size)
  have ne : w2.heap.size ≠ na := by omega
  clear t0 t1 g0 g1 hB B3 lt2
  generalize w2.heap.size = nf at *
  generalize w2.alloc (.cells #[.int .i64 z, .int .i64 p] 114) = w3 at *
  go_region
  all_goals
    go_wp2_with fail
    refine bodyPost_ret (v := .tuple #[.int .i64 0, .agg #[.int .i64 z, .int .i64 p]]) ?_ rfl ⟨rfl, ?_⟩
    · simp [results, Tryz.results137, go_sem, u0, u1]
    · subst hna
      exact below_drewN ((B4.setCell (p := ⟨w.heap.size, 0, none⟩) (Nat.le_refl _) _).setCell (p := ⟨w.heap.size, 1, none⟩) (Nat.le_refl _) _) 1
/-- the answer's fault and the weights' fault, as they lie -/
structure BakeAt (w : World) (na nf : Nat) : Prop where
  a0 : w.cell? ⟨na, 0, none⟩ = some (.int .i64 0)
  a1 : w.cell? ⟨na, 1, none⟩ = some (.int .i64 0)
  g0 : w.frozen? ⟨na, 0, none⟩ = false
  g1 : w.frozen? ⟨na, 1, none⟩ = false
  f0 : w.cell? ⟨nf, 0, none⟩ = some (.int .i64 0)
  f1 : w.cell? ⟨nf, 1, none⟩ = some (.int .i64 (-1))
theorem BakeAt.below {w w' : World} {na nf : Nat} (h : BakeAt w na nf) (hB : Below w.heap.size w w') : BakeAt w' na nf :=
  ⟨draw_old hB h.a0, draw_old hB h.a1, by rw [hB.frozen (p := ⟨na, 0, none⟩) (cell_lt h.a0)]; exact h.g0, by rw [hB.frozen (p := ⟨na, 1, none⟩) (cell_lt h.a1)]; exact h.g1, draw_old hB h.f0, draw_old hB h.f1⟩
theorem BakeAt.kept {w w' : World} {na nf : Nat} {X : List Nat} (h : BakeAt w na nf) (hK : Kept X w w') (ha : na ∉ X) (hf : nf ∉ X) : BakeAt w' na nf :=
  ⟨hK.old h.a0 ha, hK.old h.a1 ha, by rw [hK.frozen (p := ⟨na, 0, none⟩) (cell_lt h.a0) ha]; exact h.g0, by rw [hK.frozen (p := ⟨na, 1, none⟩) (cell_lt h.a1) ha]; exact h.g1, hK.old h.f0 hf, hK.old h.f1 hf⟩
theorem RefDrawAt.kept {w w' : World} {D L O n : Nat} {H : Int} {d : DS} {X : List Nat} (h : RefDrawAt w D L O n H d) (hK : Kept X w w') (hD : D ∉ X) (hL : L ∉ X) (hO : O ∉ X) : RefDrawAt w' D L O n H d :=
  ⟨hK.old h.c0 hD, hK.old h.c1 hD, hK.old h.c2 hD, fun k hk => hK.old (h.l k hk) hL, fun k hk => hK.old (h.o k hk) hO⟩
theorem tri_ints (w : World) (c l r : Int) (t : TypeId) : Ints (w.alloc (.cells #[.int .i64 c, .int .i64 l, .int .i64 r] t)) w.heap.size 0 3 (tri c l r) := fun i hi => by
  have : i = 0 ∨ i = 1 ∨ i = 2 := by omega
  rcases this with rfl | rfl | rfl <;> exact cell_new _ _ _ _ _ _ rfl rfl

set_option maxRecDepth 100000 in
set_option maxHeartbeats 4000000 in
theorem ref_baker_fine (b off n cap seed : Nat) (W : Nat → Int) (c l r : Int) (h : TurnOk c l r) (hs : seed < W64) (w : World) (hI : Ints w b off n W) (hb : b < w.heap.size) (hW : Weights n W) (h0 : sumTo W n ≠ 0) :
    Calls Tryz.prog 137 #[.slice (some ⟨b, off, none⟩) n cap, .int .u64 seed, .int .i64 c, .int .i64 l, .int .i64 r] w fun e w' => ∃ k, e = .returned (.tuple #[.int .i64 k, .agg #[.int .i64 0, .int .i64 (-1)]]) ∧ Turn n W seed c l r k ∧ Below w.heap.size w w' := by
  obtain ⟨⟨c0, c1⟩, ⟨l0, l1⟩, r0, r1⟩ := h
  have n1 := hW.n1
  have n64 := hW.n64
  have sm := hW.sum
  have HS := hide hs
  have step : ∀ {u v : World}, Below w.heap.size w u → Below u.heap.size u v → Below w.heap.size w v := fun a c => a.trans (c.mono a.size)
  have B1 : Below w.heap.size w (w.alloc (.cells #[.int .i64 0, .int .i64 0] 114)) := below_one
  have W1 := hide (wf_fine b off n cap W _ (hI.below B1 hb) hW 0 (.inr ⟨rfl, h0⟩))
  have s0 : (w.alloc (.cells #[.int .i64 0, .int .i64 0] 114)).cell? ⟨w.heap.size, 0, none⟩ = some (.int .i64 0) := by simp
  have s1 : (w.alloc (.cells #[.int .i64 0, .int .i64 0] 114)).cell? ⟨w.heap.size, 1, none⟩ = some (.int .i64 0) := by simp
  have f0 : ∀ i, (w.alloc (.cells #[.int .i64 0, .int .i64 0] 114)).frozen? ⟨w.heap.size, i, none⟩ = false := fun i => World.frozen?_alloc_at _ _ _ _ rfl
  clear hs
  go_enter Tryz.func137, Tryz.ntmps137
  go_wp2_with fail
  refine W1.out.mono ?_
  rintro e w2 ⟨rfl, B2⟩
  go_wp2_with fail
  have B3 := step B1 B2
  have hB : Below w2.heap.size w2 (w2.alloc (.cells #[.int .i64 0, .int .i64 (-1)] 114)) := below_one
  have T0 := draw_old B2 s0
  have T1 := draw_old B2 s1
  have K3 : BakeAt (w2.alloc (.cells #[.int .i64 0, .int .i64 (-1)] 114)) w.heap.size w2.heap.size :=
    ⟨draw_old hB T0, draw_old hB T1, by rw [hB.frozen (p := ⟨w.heap.size, 0, none⟩) (cell_lt T0), B2.frozen (p := ⟨w.heap.size, 0, none⟩) (cell_lt s0)]; exact f0 0, by rw [hB.frozen (p := ⟨w.heap.size, 1, none⟩) (cell_lt T1), B2.frozen (p := ⟨w.heap.size, 1, none⟩) (cell_lt s1)]; exact f0 1, by simp, by simp⟩
  have B4 := step B3 hB
  have ne : Hid (w.heap.size < w2.heap.size) := cell_lt T0
  clear W1 s0 s1 f0 B1 B2 B3 hB T0 T1
  generalize hnf : w2.heap.size = nf at K3 ne ⊢
  generalize w2.alloc (.cells #[.int .i64 0, .int .i64 (-1)] 114) = w3 at *
  refine (ref_newDraw b off n cap W w3 (hI.below B4 hb) (Nat.lt_of_lt_of_le hb B4.size) hW).mono ?_
  rintro e w4 ⟨D, L, O, rfl, _, hD, B5⟩
  obtain ⟨H, eH⟩ : ∃ H : Nat, sumTo W n = H := ⟨(sumTo W n).toNat, by omega⟩
  rw [eH] at hD
  have H1 : 1 ≤ H := by omega
  have H2 : H ≤ 68719476736 := by omega
  have EH := hide eH
  clear eH sm h0
  have K4 := K3.below B5
  have B6 := step B4 B5
  have hT : Below w4.heap.size w4 (w4.alloc (.cells #[.int .i64 c, .int .i64 l, .int .i64 r] 3)) := below_one
  have M := hide (ref_mix (some ⟨w4.heap.size, 0, none⟩) w4.heap.size 0 3 3 seed (tri c l r) HS.out (by omega) _ (fun _ => rfl) (fun _ => by simp) (tri_ints w4 c l r 3))
  clear K3 B4 B5
  go_wp2_with fail
  refine M.out.mono ?_
  rintro e w5 ⟨rfl, B7⟩
  have hm := hide (mixTo_lt (tri c l r) seed HS.out 3)
  have B8 := step (step B6 hT) B7
  have K5 := (K4.below hT).below B7
  have hD5 := (hD.below hT).below B7
  clear M B6 hT B7 K4 hD
  have hL6 := lot_new w5 (mixTo (tri c l r) seed 3) hm.out 217
  have hB6 : Below w5.heap.size w5 (w5.alloc (.cells #[.int .u64 (mixTo (tri c l r) seed 3)] 217)) := below_one
  have K6 := K5.below hB6
  have hD6 := hD5.below hB6
  have B9 := step B8 hB6
  have x1 : w5.heap.size ≠ w.heap.size := by have : w.heap.size < w5.heap.size := cell_lt K5.a0; omega
  have x2 : w5.heap.size ≠ nf := by have : nf < w5.heap.size := cell_lt K5.f0; omega
  have x3 : w5.heap.size ≠ D := by have : D < w5.heap.size := cell_lt hD5.c0; omega
  have x4 : w5.heap.size ≠ L := by have : L < w5.heap.size := cell_lt (hD5.l 0 (by omega)); omega
  have x5 : w5.heap.size ≠ O := by have : O < w5.heap.size := cell_lt (hD5.o 0 (by omega)); omega
  have x6 : Hid (w.heap.size ≤ w5.heap.size) := B8.size
  generalize hms : mixTo (tri c l r) seed 3 = ms at *
  clear K5 hD5 B8 hB6
  go_wp2_with fail
  refine (ref_below w5.heap.size ms n _ hL6 n1 (by omega)).mono ?_
  rintro e w7 ⟨v1, t1, rfl, hv1, hL7, hK7⟩
  have K7 := K6.kept hK7 (by simp; omega) (by simp; omega)
  have hD7 := hD6.kept hK7 (by simp; omega) (by simp; omega) (by simp; omega)
  have B10 := B9.trans (hK7.below B9.size (by simp; exact x6.out))
  have cD := hD7.c0
  have lv1 := hide (hv1.lt (by omega)).1
  have HV1 := hide hv1
  clear hL6 K6 hD6 B9 hK7 hv1
  go_wp2_with fail
  refine (ref_below w5.heap.size t1 H _ hL7 H1 (by omega)).mono ?_
  rintro e w8 ⟨v2, t2, rfl, hv2, hL8, hK8⟩
  have K8 := K7.kept hK8 (by simp; omega) (by simp; omega)
  have hD8 := hD7.kept hK8 (by simp; omega) (by simp; omega) (by simp; omega)
  have B11 := B10.trans (hK8.below B10.size (by simp; exact x6.out))
  have HT : Hid (Turn n W seed c l r ((dend n W).pick v1 v2)) := ⟨v1, t1, v2, t2, by rw [hms]; exact HV1.out, by rw [EH.out]; exact hv2, rfl⟩
  have P := fun w' h => ref_pick D L O n v1 v2 H (dend n W) w' h lv1.out
  have k0 := K8.a0
  have k1 := K8.a1
  have k2 := K8.g0
  have k3 := K8.g1
  have k4 := K8.f0
  have k5 := K8.f1
  have nn : nf ≠ w.heap.size := by have := ne.out; omega
  clear hL7 K7 hD7 B10 hK8 hv2 cD hL8 K8
  generalize (dend n W).pick v1 v2 = q at *
  generalize hna : w.heap.size = na at k0 k1 k2 k3 nn ⊢
  go_wp2_with fail
  go_region_with (go_at_call 186; refine (P _ (by first | exact hD8 | exact hD8.below (below_drewN (Below.refl _ _) 1))).mono ?_; rintro e w' ⟨rfl, rfl⟩)
  all_goals
    go_wp2_with fail
    refine bodyPost_ret (v := .tuple #[.int .i64 q, .agg #[.int .i64 0, .int .i64 (-1)]]) ?_ rfl ⟨q, rfl, HT.out, ?_⟩
    · simp [results, Tryz.results137, go_sem, k0, k1]
    · subst hna
      exact below_drewN ((B11.setCell (p := ⟨w.heap.size, 0, none⟩) (Nat.le_refl _) _).setCell (p := ⟨w.heap.size, 1, none⟩) (Nat.le_refl _) _) 1
end Go.Proofs.YtaihcceobnfmhaaGreatDoor
