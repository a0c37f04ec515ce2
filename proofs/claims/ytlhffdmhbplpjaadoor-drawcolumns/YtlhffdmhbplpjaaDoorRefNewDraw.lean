/-
  The document's columns made (bakehouseref1.NewDraw) by its contract.
-/
import Derived.Test.YtlhffdmhbplpjaaDoorRefDraw
import Derived.Deep.CutRange
namespace Go.Proofs.YtlhffdmhbplpjaaDoor
open Go.RowKit Go.Deep

/-- the two rows and the draw's own cells, whichever row was made first -/
theorem ref_rows (y : World) (n L O : Nat) (h : (L = y.heap.size ∧ O = y.heap.size + 1) ∨ (L = y.heap.size + 1 ∧ O = y.heap.size)) :
    (((y.alloc (.cells (noughts n) 3)).alloc (.cells (noughts n) 3)).alloc (.cells #[.int .i64 0, .slice (some ⟨L, 0, none⟩) n n, .slice (some ⟨O, 0, none⟩) n n] 78)).rowIs (y.heap.size + 2) 78 3 (ownv 0 L O n) ∧
    (((y.alloc (.cells (noughts n) 3)).alloc (.cells (noughts n) 3)).alloc (.cells #[.int .i64 0, .slice (some ⟨L, 0, none⟩) n n, .slice (some ⟨O, 0, none⟩) n n] 78)).rowIs L 3 n (fun _ => .int .i64 0) ∧
    (((y.alloc (.cells (noughts n) 3)).alloc (.cells (noughts n) 3)).alloc (.cells #[.int .i64 0, .slice (some ⟨L, 0, none⟩) n n, .slice (some ⟨O, 0, none⟩) n n] 78)).rowIs O 3 n (fun _ => .int .i64 0) := by
  have s1 : (y.alloc (.cells (noughts n) 3)).heap.size = y.heap.size + 1 := by simp
  have s2 : ((y.alloc (.cells (noughts n) 3)).alloc (.cells (noughts n) 3)).heap.size = y.heap.size + 2 := by simp
  have r1 := World.rowIs_alloc y (noughts n) 3 (fun _ => .int .i64 0) (fun i hi => noughts_at n i (by rw [noughts_size] at hi; exact hi))
  have r2 := World.rowIs_alloc (y.alloc (.cells (noughts n) 3)) (noughts n) 3 (fun _ => .int .i64 0) (fun i hi => noughts_at n i (by rw [noughts_size] at hi; exact hi))
  rw [noughts_size] at r1 r2
  rw [s1] at r2
  have r3 := World.rowIs_alloc ((y.alloc (.cells (noughts n) 3)).alloc (.cells (noughts n) 3)) #[.int .i64 0, .slice (some ⟨L, 0, none⟩) n n, .slice (some ⟨O, 0, none⟩) n n] 78 (ownv 0 L O n) (fun i hi => by
    have : i = 0 ∨ i = 1 ∨ i = 2 := by simp at hi; omega
    rcases this with rfl | rfl | rfl <;> rfl)
  rw [s2] at r3
  refine ⟨r3, ?_⟩
  rcases h with ⟨rfl, rfl⟩ | ⟨rfl, rfl⟩
  · exact ⟨(r1.alloc _).alloc _, r2.alloc _⟩
  · exact ⟨r2.alloc _, (r1.alloc _).alloc _⟩
theorem below_three {w : World} {a b c : Obj} : Below w.heap.size w (((w.alloc a).alloc b).alloc c) := (((Below.refl _ _).alloc (Nat.le_refl _) _).alloc (by simp) _).alloc (by simp; omega) _

set_option maxRecDepth 100000 in
set_option maxHeartbeats 8000000 in
theorem ref_newDraw (b off n cap : Nat) (W : Nat → Int) (w : World) (hI : Ints w b off n W) (hb : b < w.heap.size) (hW : Weights n W) :
    Calls Tryd.prog 53 #[.slice (some ⟨b, off, none⟩) n cap] w fun e w' => ∃ D L O, e = .returned (.pointer (some ⟨D, 0, none⟩)) ∧ w.heap.size ≤ D ∧ RefDrawAt w' D L O n (sumTo W n) (dend n W) ∧ Below w.heap.size w w' := by
  obtain ⟨i0, hi, hz0, hz1, hz2⟩ := info_parts Tryd.infoInts
  have n1 := hW.n1
  have n64 := hW.n64
  have m1 := make_ints n (by omega)
  have hS := hW.sum
  have I0 := hide (dinv_start n W (fun k hk => (hW.bd k hk).1))
  have hend : Hid (dend n W = (dstart n (sumTo W n) W).go (sumTo W n) (dstart n (sumTo W n) W).left) := rfl
  obtain ⟨H, hH⟩ : ∃ H, sumTo W n = H := ⟨_, rfl⟩
  rw [hH] at hS I0 hend
  rw [hH]
  have HH := hide hH
  clear hH
  go_enter Tryd.func53, Tryd.ntmps53
  go_upto_region 2 with fail
  go_cut [4] from 17 to 22 (fun dv x => ∃ D L O, dv = .pointer (some ⟨D, 0, none⟩) ∧ x.rowIs D 78 3 (ownv 0 L O n) ∧ x.rowIs L 3 n (fun _ => .int .i64 0) ∧ x.rowIs O 3 n (fun _ => .int .i64 0) ∧ D ≠ L ∧ D ≠ O ∧ L ≠ O ∧ w.heap.size ≤ D ∧ w.heap.size ≤ L ∧ w.heap.size ≤ O ∧ Below w.heap.size w x)
  case first =>
    have q1 := ref_rows w n w.heap.size (w.heap.size + 1) (.inl ⟨rfl, rfl⟩)
    have q2 := ref_rows w n (w.heap.size + 1) w.heap.size (.inr ⟨rfl, rfl⟩)
    go_region
    all_goals (go_wp2_with fail; go_meet; first | exact ⟨w.heap.size + 2, w.heap.size, w.heap.size + 1, rfl, q1.1, q1.2.1, q1.2.2, by omega, by omega, by omega, by omega, by omega, by omega, below_three.drew⟩ | exact ⟨w.heap.size + 2, w.heap.size + 1, w.heap.size, rfl, q2.1, q2.2.1, q2.2.2, by omega, by omega, by omega, by omega, by omega, by omega, below_three.drew⟩)
  case rest =>
  obtain ⟨D, L, O, rfl, hD, hL, hO, dl, d', lo, bD, bL, bO, hBx⟩ := hcut
  obtain ⟨F0, Ap, _⟩ := ref_start w n 3 wc D L O hD hL hO dl d' lo bD rfl
  have hB0 := hBx.alloc hBx.size (.cells (noughts n) 3)
  have bR := hBx.size
  have dr := Ap.dr
  have lr := Ap.lr
  have or' := Ap.or'
  have bDn : ¬ D = b := by omega
  have bLn : ¬ L = b := by omega
  have bOn : ¬ O = b := by omega
  have bRn : ¬ wc.heap.size = b := by omega
  have hT : ∀ k, k < n → 0 ≤ W k * n ∧ W k * n ≤ 68719476736 := fun k hk => hW.times k hk
  have hbd := hW.bd
  clear hD hL hO hW hBx
  go_wp2_with fail
  generalize wc.heap.size = R at *
  generalize wc.alloc (.cells (noughts n) 3) = wd at *
  go_loopw [6] (fun i wr => ∃ k : Nat, k ≤ n ∧ i = .int .i64 k ∧ RefFill wr D L O R (R + 1) n (sumTo W k) (restTo W n k) (fun _ => 0) (otherTo k) (.slice none 0 0) (.slice none 0 0) [] [] ∧ Below w.heap.size w wr) (fun i _ => n - (intOf i).toNat)
  case atStart => exact ⟨0, Nat.zero_le _, rfl, F0.as (fun _ _ => rfl) (fun _ _ => rfl) (fun _ _ => rfl), hB0⟩
  case round =>
    clear F0 hB0
    obtain ⟨k, hk, rfl, F, hB⟩ := hrel
    by_cases hlt : k < n
    · have cw := hI.below hB hb k hlt
      have cH := F.cH
      have fH := F.h.frozen 0
      have hs := sumTo_bd k (fun j hj => hbd j (by omega))
      have hbk := hbd k hlt
      have ht := hT k hlt
      have F1 := (F.setH Ap (sumTo W (k + 1))).drew
      have hB1 := (hB.setCell (p := ⟨D, 0, none⟩) bD (.int .i64 (sumTo W (k + 1)))).drew
      have he : Hid (sumTo W k + W k = sumTo W (k + 1)) := rfl
      go_wp2_with fail
      go_region
      rw [he.out]
      clear F hB cw cH fH
      generalize (wr.setCell ⟨D, 0, none⟩ (.int .i64 (sumTo W (k + 1)))).drew = x1 at *
      have cw := hI.below hB1 hb k hlt
      have cR := F1.r.cell hlt
      have fR := F1.r.frozen k
      have cO := F1.cO
      have cOk := F1.o.cell hlt
      have fOk := F1.o.frozen k
      go_wp2_with fail
      go_roundw
      case rel => exact ⟨k + 1, by omega, by go_num, ((F1.setR Ap k (W k * n)).setO Ap k k).as (fun j _ => to_next (fun j => W j * n) 0 k j) (fun _ _ => rfl) (fun j _ => to_next (fun j => j) 0 k j), (hB1.setCell (p := ⟨R, k, none⟩) bR _).setCell (p := ⟨O, k, none⟩) bO _⟩
      case measure => simp [intOf]; omega
    · obtain rfl : n = k := by omega
      rw [HH.out] at F
      clear hlt hk m1
      have F1 := F.as (line' := lineTo H 0) (fun _ _ => rfl) (fun _ _ => rfl) (fun _ _ => rfl)
      clear F
      go_wp2_with fail
      go_loopw [7] (fun i w2 => ∃ k : Nat, k ≤ n ∧ i = .int .i64 k ∧ RefFill w2 D L O R (R + 1) n H (restTo W n n) (lineTo H k) (otherTo n) (.slice none 0 0) (.slice none 0 0) [] [] ∧ Below w.heap.size w w2) (fun i _ => n - (intOf i).toNat)
      case atStart => exact ⟨0, Nat.zero_le _, rfl, F1, hB⟩
      case round =>
        clear F1 hB
        obtain ⟨k, hk, rfl, F, hB⟩ := hrel
        by_cases hlt : k < n
        · have cH := F.cH
          have cL := F.cL
          have cLk := F.l.cell hlt
          have fLk := F.l.frozen k
          have F1 := (F.setL Ap k H).drew
          have hB1 := (hB.setCell (p := ⟨L, k, none⟩) bL (.int .i64 H)).drew
          go_wp2_with fail
          go_region
          go_wp2_with fail
          go_roundw
          case rel => exact ⟨k + 1, by omega, by go_num, F1.as (fun _ _ => rfl) (fun j _ => to_next (fun _ => H) 0 k j) (fun _ _ => rfl), hB1⟩
          case measure => simp [intOf]; omega
        · obtain rfl : n = k := by omega
          have F1 := F.as (rest' := fun j => W j * n) (line' := fun _ => H) (other' := fun j => j) (fun j hj => by simp [restTo, hj]) (fun j hj => by simp [lineTo, hj]) (fun j hj => by simp [otherTo, hj])
          clear F hlt hk
          go_wp2_with fail
          go_loopw [8, 9, 10] (fun sv gv i w2 => ∃ k : Nat, k ≤ n ∧ i = .int .i64 k ∧ RefFill w2 D L O R (R + 1) n H (fun j => W j * n) (fun _ => H) (fun j => j) sv gv (smallTo H (fun k => W k * n) k) (greatTo H (fun k => W k * n) k) ∧ Below w.heap.size w w2) (fun _ _ i _ => n - (intOf i).toNat)
          case atStart => exact ⟨0, Nat.zero_le _, rfl, F1, hB⟩
          case round =>
            clear F1 hB
            obtain ⟨k, hk, rfl, F, hB⟩ := hrel
            by_cases hlt : k < n
            · have cH := F.cH
              have cR := F.r.cell hlt
              have hlen := rows_len H (fun k => W k * n) k
              by_cases hl : W k * n < H
              · have hd : decide (W k * n < H) = true := by simp [hl]
                go_wp2_with fail
                go_quiet (fail)
                have F1 := F.drewN nq
                have hB1 := below_drewN hB nq
                clear F hB cH cR
                generalize wr.drewN nq = x1 at *
                go_wp2_with (at_builtin; refine wpList_que _ rfl (.tmp 87) (.tmp 89) 22 rfl (R + 1) 3 i0 Tryd.underlying22 hi hz0 hz1 hz2 u8 _ rfl (F1.s.alloc _) ⟨x1.heap.size, 0, none⟩ 1 k rfl (cell_new _ _ _ _ _ _ rfl rfl) (by omega) (by have := F1.r.lt; simp; omega) ?_; intro sv' w2 hq hg ho)
                have F3 := (F1.alloc _).pushS Ap hq hg ho
                have es : smallTo H (fun k => W k * n) (k + 1) = smallTo H (fun k => W k * n) k ++ [k] := if_pos hl
                have eg : greatTo H (fun k => W k * n) (k + 1) = greatTo H (fun k => W k * n) k := if_pos hl
                have hs2 := F1.r.lt
                go_roundw
                case rel => exact ⟨k + 1, by omega, by go_num, by rw [es, eg]; exact F3, (hB1.alloc hB1.size _).grown hg (by simp; omega) (fun j hj => by have := (F1.s.lt j hj).1; omega)⟩
                case measure => simp [intOf]; omega
              · have hd : decide (W k * n < H) = false := by simp; omega
                go_wp2_with fail
                go_quiet (fail)
                have F1 := F.drewN nq
                have hB1 := below_drewN hB nq
                clear F hB cH cR
                generalize wr.drewN nq = x1 at *
                go_wp2_with (at_builtin; refine wpList_que _ rfl (.tmp 91) (.tmp 93) 22 rfl (R + 1) 3 i0 Tryd.underlying22 hi hz0 hz1 hz2 u9 _ rfl (F1.g.alloc _) ⟨x1.heap.size, 0, none⟩ 1 k rfl (cell_new _ _ _ _ _ _ rfl rfl) (by omega) (by have := F1.r.lt; simp; omega) ?_; intro sv' w2 hq hg ho)
                have F3 := (F1.alloc _).pushG Ap hq hg ho
                have es : smallTo H (fun k => W k * n) (k + 1) = smallTo H (fun k => W k * n) k := if_neg (show ¬ W k * n < H by omega)
                have eg : greatTo H (fun k => W k * n) (k + 1) = greatTo H (fun k => W k * n) k ++ [k] := if_neg (show ¬ W k * n < H by omega)
                have hs2 := F1.r.lt
                go_roundw
                case rel => exact ⟨k + 1, by omega, by go_num, by rw [es, eg]; exact F3, (hB1.alloc hB1.size _).grown hg (by simp; omega) (fun j hj => by have := (F1.g.lt j hj).1; omega)⟩
                case measure => simp [intOf]; omega
            · obtain rfl : n = k := by omega
              have G0 : Hid ((dstart n H W).go H (dstart n H W).left = dend n W ∧ 0 + (dstart n H W).left = n) := ⟨hend.out.symm, by unfold DS.left; rw [List.length_append, Nat.zero_add]; exact (rows_sum H (fun k_1 => W k_1 * n) (fun _ => 0) n).2⟩
              have I1 : DInv n H W (dstart n H W) := I0.out
              have F1 : RefFill wr D L O R (R + 1) n H (dstart n H W).rest (dstart n H W).line (dstart n H W).other u8 u9 (smallTo H (fun j => W j * n) n) (greatTo H (fun j => W j * n) n) := F
              have hd1 : Hid ((smallTo H (fun j => W j * n) n).drop 0 = (dstart n H W).small ∧ (greatTo H (fun j => W j * n) n).drop 0 = (dstart n H W).great) := ⟨rfl, rfl⟩
              have hgn : (greatTo H (fun j => W j * n) n).length ≤ n := by have := (rows_len H (fun j => W j * n) n).2; rw [ints_len] at this; exact this
              clear F hlt hk I0 hend
              generalize greatTo H (fun j => W j * n) n = GG at *
              go_wp2_with fail
              go_loopw [8, 11, 12] (fun sv ia ifi w2 => ∃ (d : DS) (SS : List Nat) (at' fi : Nat), ia = .int .i64 at' ∧ ifi = .int .i64 fi ∧ RefFill w2 D L O R (R + 1) n H d.rest d.line d.other sv u9 SS GG ∧ Hid (SS.drop at' = d.small ∧ GG.drop fi = d.great) ∧ at' ≤ SS.length ∧ fi ≤ GG.length ∧ DInv n H W d ∧ Hid (d.go H d.left = dend n W ∧ at' + d.left = n) ∧ Below w.heap.size w w2) (fun _ ia _ _ => n - (intOf ia).toNat)
              case atStart => exact ⟨_, _, 0, 0, rfl, rfl, F1, hd1, Nat.zero_le _, Nat.zero_le _, I1, G0, hB⟩
              case round =>
                clear F1 hd1 I1 G0 hB
                obtain ⟨d, SS, ai, fi, rfl, rfl, F, hdr, ha, hf, I, hgo, hB⟩ := hrel
                match es : d.small, eg : d.great with
                | [], _ =>
                  have E : Hid (d = dend n W) := by have := hgo.out.1; rw [DS.go_end H _ d (.inl es)] at this; exact this
                  obtain ⟨ao, sc, hv, _, _⟩ := F.s.shape
                  rw [ints_len] at hv
                  have hal : ¬ ai < SS.length := by
                    have h1 := hdr.out.1
                    rw [es] at h1
                    have := List.drop_eq_nil_iff.1 h1
                    omega
                  generalize SS.length = sl at *
                  subst hv
                  go_wp2_with fail
                  go_ret
                  exact ⟨_, _, _, rfl, bD, ⟨F.cH, F.cL, F.cO, fun j hj => by rw [← E.out]; exact F.l.cell hj, fun j hj => by rw [← E.out]; exact F.o.cell hj⟩, hB⟩
                | a :: rs, [] =>
                  have E : Hid (d = dend n W) := by have := hgo.out.1; rw [DS.go_end H _ d (.inr eg)] at this; exact this
                  obtain ⟨ao, sc, hv, _, _⟩ := F.s.shape
                  rw [ints_len] at hv
                  obtain ⟨bo, gc, hv2, _, _⟩ := F.g.shape
                  rw [ints_len] at hv2
                  have hal : ai < SS.length := by
                    have h1 := hdr.out.1
                    rw [es] at h1
                    have := congrArg List.length h1
                    rw [List.length_drop, List.length_cons] at this
                    omega
                  have hfl : ¬ fi < GG.length := by
                    have h1 := hdr.out.2
                    rw [eg] at h1
                    have := List.drop_eq_nil_iff.1 h1
                    omega
                  generalize SS.length = sl at *
                  generalize GG.length = gl at *
                  subst hv hv2
                  go_wp2_with fail
                  go_ret
                  exact ⟨_, _, _, rfl, bD, ⟨F.cH, F.cL, F.cO, fun j hj => by rw [← E.out]; exact F.l.cell hj, fun j hj => by rw [← E.out]; exact F.o.cell hj⟩, hB⟩
                | s :: ss, g :: gs =>
                  have hS' : 0 ≤ d.rest s ∧ d.rest s < H := I.sm s (by rw [es]; simp)
                  have hG' : H ≤ d.rest g := I.gr g (by rw [eg]; simp)
                  have sn : s < n := I.lt s (by rw [es]; simp)
                  have gn : g < n := I.lt g (by rw [eg]; simp)
                  have hT' : d.rest g ≤ 68719476736 := Int.le_trans (I.rest_le hS.1 g (by rw [eg]; simp)) (hT g gn).2
                  have I' := I.next es eg
                  have hl' := next_left H d s g ss gs es eg
                  have hgo' : Hid ((d.next H s g ss gs).go H (d.next H s g ss gs).left = dend n W ∧ ai + 1 + (d.next H s g ss gs).left = n) := by
                    have := hgo.out.1
                    rw [← hl', DS.go_step H _ d es eg] at this
                    exact ⟨this, by have := hgo.out.2; omega⟩
                  have e1 := hdr.out.1
                  have e2 := hdr.out.2
                  rw [es] at e1
                  rw [eg] at e2
                  have l1 := congrArg List.length e1
                  have l2 := congrArg List.length e2
                  rw [List.length_drop, List.length_cons] at l1 l2
                  have hal : ai < SS.length := by omega
                  have hfl : fi < GG.length := by omega
                  have x1 : SS[ai]? = some s := by have := congrArg List.head? e1; rw [List.head?_drop] at this; exact this
                  have x2 : GG[fi]? = some g := by have := congrArg List.head? e2; rw [List.head?_drop] at this; exact this
                  have y1 : SS.drop (ai + 1) = ss := by have := congrArg List.tail e1; rw [List.tail_drop] at this; exact this
                  have y2 : GG.drop (fi + 1) = gs := by have := congrArg List.tail e2; rw [List.tail_drop] at this; exact this
                  have hleft : d.left = ss.length + gs.length + 2 := by unfold DS.left; rw [es, eg]; simp; omega
                  have hln : Hid ((ints SS).length ≤ 1000000) := by
                    have := hgo.out.2
                    unfold Hid
                    rw [ints_len]; omega
                  have ain : ai < n := by have := hgo.out.2; omega
                  have ND : Hid ((d.rest g - (H - d.rest s) < H → Hid ((SS ++ [g]).drop (ai + 1) = (d.next H s g ss gs).small ∧ GG.drop (fi + 1) = (d.next H s g ss gs).great)) ∧ (¬ d.rest g - (H - d.rest s) < H → Hid (SS.drop (ai + 1) = (d.next H s g ss gs).small ∧ GG.drop fi = (d.next H s g ss gs).great))) := by
                    refine ⟨fun h => ?_, fun h => ?_⟩
                    · have a1 : (d.next H s g ss gs).small = ss ++ [g] := if_pos h
                      have a2 : (d.next H s g ss gs).great = gs := if_pos h
                      exact ⟨by rw [a1, List.drop_append_of_le_length (by omega), y1], by rw [a2, y2]⟩
                    · have a1 : (d.next H s g ss gs).small = ss := if_neg h
                      have a2 : (d.next H s g ss gs).great = g :: gs := if_neg h
                      exact ⟨by rw [a1, y1], by rw [a2, e2]⟩
                  obtain ⟨sb, so, sc, hv, _, _, _, _, hcs⟩ := F.s.at (by intro h; rw [← List.length_eq_zero_iff, ints_len] at h; omega)
                  obtain ⟨gb, go, gc, hv2, _, _, _, _, hcg⟩ := F.g.at (by intro h; rw [← List.length_eq_zero_iff, ints_len] at h; omega)
                  have cs := hcs ai s (by unfold ints; rw [List.getElem?_map, x1]; rfl)
                  have cg := hcg fi g (by unfold ints; rw [List.getElem?_map, x2]; rfl)
                  rw [ints_len] at hv hv2
                  have cL := F.cL
                  have cRs := F.r.cell sn
                  have cLs := F.l.cell sn
                  have fL := F.l.frozen s
                  clear e1 e2 l1 l2 x1 x2 y1 y2 hcs hcg hleft hl' es eg hdr hgo
                  generalize hsl : SS.length = sl at *
                  generalize GG.length = gl at *
                  have HSL := hide hsl
                  clear hsl
                  subst hv hv2
                  by_cases hl : d.rest g - (H - d.rest s) < H
                  · go_wp2_with fail
                    go_region
                    have F1 := (F.setL Ap s (d.rest s)).drew
                    have hB1 := (hB.setCell (p := ⟨L, s, none⟩) bL (.int .i64 (d.rest s))).drew
                    clear F hB cL cRs fL cs cg
                    generalize (wr.setCell ⟨L, s, none⟩ (.int .i64 (d.rest s))).drew = x1 at *
                    have cO := F1.cO
                    have cOs := F1.o.cell sn
                    have fO := F1.o.frozen s
                    go_wp2_with fail
                    have F2 := F1.setO Ap s g
                    have hB2 := hB1.setCell (p := ⟨O, s, none⟩) bO (.int .i64 g)
                    clear F1 hB1 cO cOs fO
                    generalize x1.setCell ⟨O, s, none⟩ (.int .i64 g) = x2 at *
                    have cH := F2.cH
                    have cRs := F2.r.cell sn
                    have cRg := F2.r.cell gn
                    have fRg := F2.r.frozen g
                    go_region
                    have F3 := (F2.setR Ap g (d.rest g - (H - d.rest s))).drew
                    have hB3 := (hB2.setCell (p := ⟨R, g, none⟩) bR (.int .i64 (d.rest g - (H - d.rest s)))).drew
                    clear F2 hB2 cH cRs cRg fRg
                    generalize (x2.setCell ⟨R, g, none⟩ (.int .i64 (d.rest g - (H - d.rest s)))).drew = x3 at *
                    have cH := F3.cH
                    have cRg := F3.r.cell gn
                    simp only [upd_same] at cRg
                    go_wp2_with fail
                    go_quiet (fail)
                    have F4 := F3.drewN nq
                    have hB4 := below_drewN hB3 nq
                    clear F3 hB3 cH cRg
                    generalize x3.drewN nq = x4 at *
                    go_wp2_with (at_builtin; refine wpList_que _ rfl (.tmp 160) (.tmp 162) 22 rfl (R + 1) 3 i0 Tryd.underlying22 hi hz0 hz1 hz2 _ _ rfl (F4.s.alloc _) ⟨x4.heap.size, 0, none⟩ 1 g rfl (cell_new _ _ _ _ _ _ rfl rfl) hln.out (by have := F4.r.lt; simp; omega) ?_; intro sv' w2 hq hg ho)
                    have F5 := (F4.alloc _).pushS Ap hq hg ho
                    have hs2 := F4.r.lt
                    go_roundw
                    case rel => exact ⟨d.next H s g ss gs, SS ++ [g], ai + 1, fi + 1, by go_num, by go_num, F5, ND.out.1 hl, by rw [List.length_append, HSL.out]; simp; omega, by omega, I', hgo', (hB4.alloc hB4.size _).grown hg (by simp; omega) (fun j hj => by have := (F4.s.lt j hj).1; omega)⟩
                    case measure => simp [intOf]; omega
                  · go_wp2_with fail
                    go_region
                    have F1 := (F.setL Ap s (d.rest s)).drew
                    have hB1 := (hB.setCell (p := ⟨L, s, none⟩) bL (.int .i64 (d.rest s))).drew
                    clear F hB cL cRs fL cs cg
                    generalize (wr.setCell ⟨L, s, none⟩ (.int .i64 (d.rest s))).drew = x1 at *
                    have cO := F1.cO
                    have cOs := F1.o.cell sn
                    have fO := F1.o.frozen s
                    go_wp2_with fail
                    have F2 := F1.setO Ap s g
                    have hB2 := hB1.setCell (p := ⟨O, s, none⟩) bO (.int .i64 g)
                    clear F1 hB1 cO cOs fO
                    generalize x1.setCell ⟨O, s, none⟩ (.int .i64 g) = x2 at *
                    have cH := F2.cH
                    have cRs := F2.r.cell sn
                    have cRg := F2.r.cell gn
                    have fRg := F2.r.frozen g
                    go_region
                    have F3 := (F2.setR Ap g (d.rest g - (H - d.rest s))).drew
                    have hB3 := (hB2.setCell (p := ⟨R, g, none⟩) bR (.int .i64 (d.rest g - (H - d.rest s)))).drew
                    clear F2 hB2 cH cRs cRg fRg
                    generalize (x2.setCell ⟨R, g, none⟩ (.int .i64 (d.rest g - (H - d.rest s)))).drew = x3 at *
                    have cH := F3.cH
                    have cRg := F3.r.cell gn
                    simp only [upd_same] at cRg
                    go_wp2_with fail
                    go_quiet (fail)
                    have F4 := F3.drewN nq
                    have hB4 := below_drewN hB3 nq
                    clear F3 hB3 cH cRg
                    generalize x3.drewN nq = x4 at *
                    go_wp2_with fail
                    go_roundw
                    case rel => exact ⟨d.next H s g ss gs, SS, ai + 1, fi, by go_num, rfl, F4, ND.out.2 (by omega), by rw [HSL.out]; omega, hf, I', hgo', hB4⟩
                    case measure => simp [intOf]; omega
end Go.Proofs.YtlhffdmhbplpjaaDoor
