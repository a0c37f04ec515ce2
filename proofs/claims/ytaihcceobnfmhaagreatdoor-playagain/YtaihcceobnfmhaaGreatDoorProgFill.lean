/-
  The program's columns made (draw.fill), and a new draw, by their contracts.
-/
import Derived.Test.YtaihcceobnfmhaaGreatDoorFillAtX
import Derived.Test.YtaihcceobnfmhaaGreatDoorIntsOwn
namespace Go.Proofs.YtaihcceobnfmhaaGreatDoor
open Go.RowKit Go.Deep

theorem Tryz.infoCol : (Tryz.prog.info? 180).map (fun i => (i.zero, i.size, i.bytes)) = some (some (.agg #[.int .i64 0, .int .i64 0]), 2, 16) := by kernel_rfl
/-- so many noughts -/
def noughts (n : Nat) : Array Value := madeCells #[.int .i64 0] n
theorem noughts_at (n i : Nat) (h : i < n) : (noughts n)[i]? = some (.int .i64 0) := by
  simp [noughts, madeCells, h, Nat.mod_one]
theorem noughts_size (n : Nat) : (noughts n).size = n := size_madeCells _ _
def noughts2 (n : Nat) : Array Value := madeCells #[.int .i64 0, .int .i64 0] (n * 2)
theorem noughts2_at (n i : Nat) (h : i < n * 2) : (noughts2 n)[i]? = some (.int .i64 0) := by
  have e : [Value.int .i64 0, Value.int .i64 0][i % 2]?.getD default = .int .i64 0 := by
    rcases Nat.mod_two_eq_zero_or_one i with g | g <;> rw [g] <;> rfl
  simp [noughts2, madeCells, h, e]
theorem noughts2_size (n : Nat) : (noughts2 n).size = n * 2 := size_madeCells _ _
theorem make_ints (n : Nat) (h : n ≤ 100) (w : World) : (Instr.makeSlice 31 (.int .i64 (n : Int)) (.int .i64 (n : Int))).run Tryz.prog w = .ok (.slice (some ⟨w.heap.size, 0, none⟩) n n) (w.alloc (.cells (noughts n) 3)) :=
  run_make_row' (P := Tryz.prog) 31 3 (.int .i64 0) 8 Tryz.underlying31 Tryz.infoInts rfl .i64 .i64 n (by omega) (by omega) w
theorem make_cols (n : Nat) (h : n ≤ 100) (w : World) : (Instr.makeSlice 136 (.int .i64 (n : Int)) (.int .i64 (n : Int))).run Tryz.prog w = .ok (.slice (some ⟨w.heap.size, 0, none⟩) n n) (w.alloc (.cells (noughts2 n) 180)) := by
  obtain ⟨i, hi, hz, hs, hb⟩ := info_parts Tryz.infoCol
  have hr := run_make (P := Tryz.prog) w 136 180 i (.agg #[.int .i64 0, .int .i64 0]) Tryz.underlying136 hi hz .i64 .i64 n n (by omega) (Int.le_refl _) (by rw [hb]; omega) (by omega)
  rw [hs] at hr
  exact hr

set_option maxRecDepth 100000 in
theorem lacks_of (B n k : Nat) (H : Int) (rest line : Nat → Int) (other : Nat → Nat) (sv gv : Value) (small great : List Nat) (w : World) (h : FillAt w B n H rest line other sv gv small great) (hk : k < n) :
    Calls Tryz.prog 149 #[.int .i64 k, .pointer (some ⟨B + 3, 0, none⟩), .pointer (some ⟨B, 0, none⟩)] w fun e w' => e = .returned (.bool (decide (rest k < H))) ∧ ∃ m, w' = w.drewN m := by
  have c1 := h.cH
  have c2 := h.cV
  have c3 := h.cR hk
  go_enter Tryz.func149, Tryz.ntmps149
  go_wp2
  go_quiet (fail)
  go_wp2
  go_ret
  exact ⟨rfl, _, rfl⟩

/-- the columns at first -/
theorem fill_start (w : World) (H : Int) (n : Nat) : FillAt ((((w.alloc (.cells #[.int .i64 H] 3)).alloc (.cells (noughts2 n) 180)).alloc (.cells (noughts n) 3)).alloc (.cells #[.slice (some ⟨w.heap.size + 2, 0, none⟩) n n] 31)) w.heap.size n H (fun _ => 0) (fun _ => 0) (fun _ => 0) (.slice none 0 0) (.slice none 0 0) [] [] := by
  have s1 : (w.alloc (.cells #[.int .i64 H] 3)).heap.size = w.heap.size + 1 := by simp
  have s2 : ((w.alloc (.cells #[.int .i64 H] 3)).alloc (.cells (noughts2 n) 180)).heap.size = w.heap.size + 2 := by simp
  have s3 : (((w.alloc (.cells #[.int .i64 H] 3)).alloc (.cells (noughts2 n) 180)).alloc (.cells (noughts n) 3)).heap.size = w.heap.size + 3 := by simp
  have r1 := World.rowIs_alloc (w.alloc (.cells #[.int .i64 H] 3)) (noughts2 n) 180 (fun _ => .int .i64 0) (fun i hi => noughts2_at n i (by rw [noughts2_size] at hi; exact hi))
  have r2 := World.rowIs_alloc ((w.alloc (.cells #[.int .i64 H] 3)).alloc (.cells (noughts2 n) 180)) (noughts n) 3 (fun _ => .int .i64 0) (fun i hi => noughts_at n i (by rw [noughts_size] at hi; exact hi))
  rw [s1, noughts2_size] at r1
  rw [s2, noughts_size] at r2
  refine ⟨?_, ((r1.alloc _).alloc _).congr (fun i _ => ?_), r2.alloc _, ?_, Que.nil _ _ _, Que.nil _ _ _, fun k hk => by simp [Value.ownBlock] at hk⟩
  · rw [Below.heap_alloc _ _ _ (by omega), Below.heap_alloc _ _ _ (by omega), Below.heap_alloc _ _ _ (by omega)]
    exact heap_alloc_new w _
  · unfold colv; split <;> rfl
  · rw [← s3]; exact heap_alloc_new _ _

def restTo (W : Nat → Int) (n k : Nat) : Nat → Int := fun j => if j < k then W j * n else 0
def lineTo (H : Int) (k : Nat) : Nat → Int := fun j => if j < k then H else 0
def otherTo (k : Nat) : Nat → Nat := fun j => if j < k then j else 0
theorem to_next {α : Type} (f : Nat → α) (z : α) (k j : Nat) : upd (fun j => if j < k then f j else z) k (f k) j = if j < k + 1 then f j else z := by
  unfold upd
  by_cases e : j = k
  · subst e; rw [if_pos rfl, if_pos (by omega)]
  · rw [if_neg e]
    show (if j < k then f j else z) = _
    by_cases g : j < k
    · rw [if_pos g, if_pos (by omega)]
    · rw [if_neg g, if_neg (by omega)]
theorem FillAt.next {w : World} {B n k : Nat} {H : Int} {W : Nat → Int} {sv gv : Value} {small great : List Nat} (h : FillAt w B n H (upd (restTo W n k) k (W k * n)) (upd (lineTo H k) k H) (upd (otherTo k) k k) sv gv small great) :
    FillAt w B n H (restTo W n (k + 1)) (lineTo H (k + 1)) (otherTo (k + 1)) sv gv small great :=
  h.as (fun j _ => to_next (fun j => W j * n) 0 k j) (fun j _ => to_next (fun _ => H) 0 k j) (fun j _ => to_next (fun j => j) 0 k j)
theorem FillAt.all {w : World} {B n : Nat} {H : Int} {W : Nat → Int} {sv gv : Value} {small great : List Nat} (h : FillAt w B n H (restTo W n n) (lineTo H n) (otherTo n) sv gv small great) :
    FillAt w B n H (fun k => W k * n) (fun _ => H) (fun k => k) sv gv small great :=
  h.as (fun j hj => by simp [restTo, hj]) (fun j hj => by simp [lineTo, hj]) (fun j hj => by simp [otherTo, hj])
theorem rows_len (H : Int) (rest : Nat → Int) (k : Nat) : (ints (smallTo H rest k)).length ≤ k ∧ (ints (greatTo H rest k)).length ≤ k := by
  have := (rows_sum H rest rest k).2
  rw [ints_len, ints_len]; omega
def lenV : Value → Nat | .slice _ n _ => n | _ => 0
theorem Que.lenV {w : World} {e : TypeId} {base : Nat} {v : Value} {xs : List Int} (h : Que w e base v xs) : lenV v = xs.length := by
  obtain ⟨ao, cap, rfl, _, _⟩ := h.shape
  rfl

set_option maxRecDepth 100000 in
set_option maxHeartbeats 4000000 in
theorem fill_of (b off n cap : Nat) (W : Nat → Int) (w : World) (hI : Ints w b off n W) (hb : b < w.heap.size) (hW : Weights n W) :
    Calls Tryz.prog 95 #[.slice (some ⟨b, off, none⟩) n cap, .int .i64 (sumTo W n)] w fun e w' => ∃ c, e = .returned (.slice (some ⟨c, 0, none⟩) n n) ∧ w.heap.size ≤ c ∧
      (∀ k, k < n → w'.cell? ⟨c, k * 2, none⟩ = some (.int .i64 ((dend n W).line k)) ∧ w'.cell? ⟨c, k * 2 + 1, none⟩ = some (.int .i64 ((dend n W).other k))) ∧ Below w.heap.size w w' := by
  obtain ⟨i0, hi, hz0, hz1, hz2⟩ := info_parts Tryz.infoInts
  have n1 := hW.n1
  have n64 := hW.n64
  have m1 := make_ints n (by omega)
  have m2 := make_cols n (by omega)
  have hS := hW.sum
  have F0 := fill_start w (sumTo W n) n
  have hB0 := ((((Below.refl w.heap.size w).alloc (Nat.le_refl _) (.cells #[.int .i64 (sumTo W n)] 3)).alloc (by simp) (.cells (noughts2 n) 180)).alloc (by simp; omega) (.cells (noughts n) 3)).alloc (by simp; omega) (.cells #[.slice (some ⟨w.heap.size + 2, 0, none⟩) n n] 31)
  have hend : Hid (dend n W = (dstart n (sumTo W n) W).go (sumTo W n) (dstart n (sumTo W n) W).left) := rfl
  have I0 := dinv_start n W (fun k hk => (hW.bd k hk).1)
  generalize sumTo W n = H at *
  go_enter Tryz.func95, Tryz.ntmps95
  go_wp2
  go_loopw [7, 8, 23] (fun sv gv i wr => ∃ k : Nat, k ≤ n ∧ i = .int .i64 k ∧ FillAt wr w.heap.size n H (restTo W n k) (lineTo H k) (otherTo k) sv gv (smallTo H (fun k => W k * n) k) (greatTo H (fun k => W k * n) k) ∧ Below w.heap.size w wr) (fun _ _ i _ => n - (intOf i).toNat)
  case atStart => exact ⟨0, Nat.zero_le _, rfl, F0.as (fun _ _ => rfl) (fun _ _ => rfl) (fun _ _ => rfl), hB0⟩
  case round =>
    obtain ⟨k, hk, rfl, F, hB⟩ := hrel
    by_cases hlt : k < n
    · have cw := hI.below hB hb k hlt
      have cV : wr.cell? ⟨w.heap.size + 1 + 1 + 1, 0, none⟩ = some (.slice (some ⟨w.heap.size + 1 + 1, 0, none⟩) n n) := F.cV
      have cH := F.cH
      have cR : wr.cell? ⟨w.heap.size + 1 + 1, k, none⟩ = _ := F.cR hlt
      have fR : wr.frozen? ⟨w.heap.size + 1 + 1, k, none⟩ = false := F.fR k
      have cL := F.cL hlt
      have cO := F.cO hlt
      have fL := F.fC (k * 2)
      have fO := F.fC (k * 2 + 1)
      have hm := hW.times k hlt
      have F1 := (F.setR k (W k * n)).setC k H k
      have hB1 := ((hB.setCell (p := ⟨w.heap.size + 2, k, none⟩) (by simp) (.int .i64 (W k * n))).setCell (p := ⟨w.heap.size + 1, k * 2, none⟩) (by simp) (.int .i64 H)).setCell (p := ⟨w.heap.size + 1, k * 2 + 1, none⟩) (by simp) (.int .i64 k)
      have L := lacks_of w.heap.size n k H _ _ _ _ _ _ _ _ F1 hlt
      rw [upd_same] at L
      have hlen := rows_len H (fun k => W k * n) k
      clear F0 hB0 hI hW I0 F
      by_cases hl : W k * n < H
      · have hd : decide (W k * n < H) = true := by simp [hl]
        rw [hd] at L
        clear hd
        go_wp2_with (first | (go_at_call 149; refine L.mono ?_; rintro e w1 ⟨rfl, m, hw⟩; have F2 := (by rw [hw]; exact F1.drewN m : FillAt w1 _ _ _ _ _ _ _ _ _ _); have hB2 := (by rw [hw]; exact below_drewN hB1 m : Below w.heap.size w w1); clear hw L F1 hB1 cV cH cR fR cL cO fL fO cw) | (at_builtin; refine wpList_que _ rfl (.tmp 44) (.tmp 46) 31 rfl (w.heap.size + 4) 3 i0 Tryz.underlying31 hi hz0 hz1 hz2 u7 _ rfl (F2.s.alloc _) ⟨w1.heap.size, 0, none⟩ 1 k rfl (cell_new _ _ _ _ _ _ rfl rfl) (by omega) (by have := F2.size; simp; omega) ?_; intro sv' w2 hq hg ho))
        have F3 := ((F2.alloc _).pushS hq hg ho).next
        have es : smallTo H (fun k => W k * n) (k + 1) = smallTo H (fun k => W k * n) k ++ [k] := if_pos hl
        have eg : greatTo H (fun k => W k * n) (k + 1) = greatTo H (fun k => W k * n) k := if_pos hl
        have hs2 := F2.size
        go_roundw
        case rel => exact ⟨k + 1, by omega, by go_num, by rw [es, eg]; exact F3, (hB2.alloc hB2.size _).grown hg (by simp; omega) (fun j hj => by have := (F2.s.lt j hj).1; omega)⟩
        case measure => simp [intOf]; omega
      · have hd : decide (W k * n < H) = false := by simp; omega
        rw [hd] at L
        clear hd
        go_wp2_with (first | (go_at_call 149; refine L.mono ?_; rintro e w1 ⟨rfl, m, hw⟩; have F2 := (by rw [hw]; exact F1.drewN m : FillAt w1 _ _ _ _ _ _ _ _ _ _); have hB2 := (by rw [hw]; exact below_drewN hB1 m : Below w.heap.size w w1); clear hw L F1 hB1 cV cH cR fR cL cO fL fO cw) | (at_builtin; refine wpList_que _ rfl (.tmp 48) (.tmp 50) 31 rfl (w.heap.size + 4) 3 i0 Tryz.underlying31 hi hz0 hz1 hz2 u8 _ rfl (F2.g.alloc _) ⟨w1.heap.size, 0, none⟩ 1 k rfl (cell_new _ _ _ _ _ _ rfl rfl) (by omega) (by have := F2.size; simp; omega) ?_; intro sv' w2 hq hg ho))
        have F3 := ((F2.alloc _).pushG hq hg ho).next
        have es : smallTo H (fun k => W k * n) (k + 1) = smallTo H (fun k => W k * n) k := if_neg (show ¬ W k * n < H by omega)
        have eg : greatTo H (fun k => W k * n) (k + 1) = greatTo H (fun k => W k * n) k ++ [k] := if_neg (show ¬ W k * n < H by omega)
        have hs2 := F2.size
        go_roundw
        case rel => exact ⟨k + 1, by omega, by go_num, by rw [es, eg]; exact F3, (hB2.alloc hB2.size _).grown hg (by simp; omega) (fun j hj => by have := (F2.g.lt j hj).1; omega)⟩
        case measure => simp [intOf]; omega
    · obtain rfl : k = n := by omega
      have F1 : FillAt wr w.heap.size k H (dstart k H W).rest (dstart k H W).line (dstart k H W).other u7 u8 (dstart k H W).small (dstart k H W).great := F.all
      have hT : ∀ j, j < k → W j * k ≤ 68719476736 := fun j hj => (hW.times j hj).2
      have G0 : Hid ((dstart k H W).go H (dstart k H W).left = dend k W ∧ (dstart k H W).left ≤ k) := ⟨hend.out.symm, by unfold DS.left; rw [List.length_append]; exact Nat.le_of_eq (rows_sum H (fun k_1 => W k_1 * k) (fun _ => 0) k).2⟩
      clear F0 hB0 hI hW F hend m1 m2 hlt hk
      go_wp2
      go_loopw [7, 8] (fun sv gv w2 => ∃ d : DS, FillAt w2 w.heap.size k H d.rest d.line d.other sv gv d.small d.great ∧ DInv k H W d ∧ Hid (d.go H d.left = dend k W ∧ d.left ≤ k) ∧ Below w.heap.size w w2) (fun sv gv _ => lenV sv + lenV gv)
      case atStart => exact ⟨_, F1, I0, G0, hB⟩
      case round =>
        clear F1 I0 G0 hB
        obtain ⟨d, F, I, hgo, hB⟩ := hrel
        match es : d.small, eg : d.great with
        | [], _ =>
          have ed : d = dend k W := by rw [← hgo.out.1, DS.go_end H _ d (.inl es)]
          rw [es] at F
          obtain ⟨ao, sc, hv, _, _⟩ := F.s.shape
          have hv : u7 = .slice ao 0 sc := hv
          subst hv
          have E : Hid (d = dend k W) := ed
          clear ed
          go_wp2
          go_ret
          exact ⟨_, rfl, by omega, fun j hj => by rw [← E.out]; exact ⟨F.cL hj, F.cO hj⟩, hB⟩
        | a :: rs, [] =>
          have ed : d = dend k W := by rw [← hgo.out.1, DS.go_end H _ d (.inr eg)]
          rw [es, eg] at F
          obtain ⟨ao, sc, hv, _, _⟩ := F.s.shape
          have hv : u7 = .slice ao (ints (a :: rs)).length sc := hv
          obtain ⟨m, hm⟩ : ∃ m, m = (ints (a :: rs)).length := ⟨_, rfl⟩
          rw [← hm] at hv
          have hm : 1 ≤ m := by rw [hm, ints_len]; simp
          subst hv
          obtain ⟨bo, gc, hv, _, _⟩ := F.g.shape
          have hv : u8 = .slice bo 0 gc := hv
          subst hv
          have E : Hid (d = dend k W) := ed
          clear ed
          go_wp2
          go_ret
          exact ⟨_, rfl, by omega, fun j hj => by rw [← E.out]; exact ⟨F.cL hj, F.cO hj⟩, hB⟩
        | s :: ss, g :: gs =>
          have hS' : 0 ≤ d.rest s ∧ d.rest s < H := I.sm s (by rw [es]; simp)
          have hG' : H ≤ d.rest g := I.gr g (by rw [eg]; simp)
          have sn : s < k := I.lt s (by rw [es]; simp)
          have gn : g < k := I.lt g (by rw [eg]; simp)
          have hT' : d.rest g ≤ 68719476736 := Int.le_trans (I.rest_le hS.1 g (by rw [eg]; simp)) (hT g gn)
          have hne : s ≠ g := fun e => by have := hS'.2; rw [e] at this; omega
          have I' := I.next es eg
          have hl' := next_left H d s g ss gs es eg
          have hgo' : Hid ((d.next H s g ss gs).go H (d.next H s g ss gs).left = dend k W ∧ (d.next H s g ss gs).left ≤ k) := by
            have := hgo.out.1
            rw [← hl', DS.go_step H _ d es eg] at this
            exact ⟨this, by have := hgo.out.2; omega⟩
          have hll : d.left = ss.length + gs.length + 2 := by unfold DS.left; rw [es, eg]; simp; omega
          rw [es, eg] at F
          obtain ⟨sb, so, sm, scap, sv', rfl, hsm, hs1, hs2, hs3, hs4, cs, runs, own1, quec, sa, hsv⟩ := F.s.cut
          obtain ⟨gb, go, gm, gcap, gv', rfl, hgm, hg1, hg2, hg3, hg4, cg, rung, own2, quec2, ga, hgv⟩ := F.g.cut
          have cV : wr.cell? ⟨w.heap.size + 1 + 1 + 1, 0, none⟩ = some (.slice (some ⟨w.heap.size + 1 + 1, 0, none⟩) k k) := F.cV
          have cH := F.cH
          have cR : wr.cell? ⟨w.heap.size + 1 + 1, s, none⟩ = _ := F.cR sn
          have cG : wr.cell? ⟨w.heap.size + 1 + 1, g, none⟩ = _ := F.cR gn
          have fG : wr.frozen? ⟨w.heap.size + 1 + 1, g, none⟩ = false := F.fR g
          have cL := F.cL sn
          have cO := F.cO sn
          have fL := F.fC (s * 2)
          have fO := F.fC (s * 2 + 1)
          have hsm1 : 1 ≤ sm := by omega
          have hgm1 : 1 ≤ gm := by omega
          have HS : Hid (sm = ss.length + 1 ∧ gm = gs.length + 1 ∧ sv' = .slice sa (ints ss).length (scap - 1) ∧ gv' = .slice ga (ints gs).length (gcap - 1)) := ⟨by rw [hsm]; simp, by rw [hgm]; simp, hsv, hgv⟩
          have OW : Hid (sv'.ownBlock = some sb ∧ gv'.ownBlock = some gb) := ⟨own1, own2⟩
          have NX : Hid ((d.next H s g ss gs).left + 1 = d.left ∧ d.left = ss.length + gs.length + 2) := ⟨hl', hll⟩
          have EE : Hid (d.small = s :: ss ∧ d.great = g :: gs) := ⟨es, eg⟩
          clear hsm hgm hsv hgv own1 own2 hl' hll hT es eg
          by_cases hl : d.rest g - (H - d.rest s) < H
          · go_wp2
            go_quiet (fail)
            go_wp2
            go_region
            have F1 := ((((F.drewN nq).cutS quec (OW.out.1)).setC s (d.rest s) g).setR g (d.rest g - (H - d.rest s))).drew
            have hB1 := ((((below_drewN hB nq).setCell (p := ⟨w.heap.size + 1, s * 2, none⟩) (by simp) (.int .i64 (d.rest s))).setCell (p := ⟨w.heap.size + 1, s * 2 + 1, none⟩) (by simp) (.int .i64 g)).setCell (p := ⟨w.heap.size + 2, g, none⟩) (by simp) (.int .i64 (d.rest g - (H - d.rest s)))).drew
            have L := lacks_of w.heap.size k g H _ _ _ _ _ _ _ _ F1 gn
            rw [upd_same] at L
            have hd : decide (d.rest g - (H - d.rest s) < H) = true := by simp [hl]
            rw [hd] at L
            clear hd F cV cH cR cG fG cL cO fL fO cs cg quec
            have hln : (ints ss).length ≤ 64 := by
              have h1 := hgo.out.2
              have h2 := NX.out.2
              rw [ints_len]; omega
            go_wp2_with (first | (go_at_call 149; refine L.mono ?_; rintro e w1 ⟨rfl, m, hw⟩; have F2 := (by rw [hw]; exact F1.drewN m : FillAt w1 _ _ _ _ _ _ _ _ _ _); have hB2 := (by rw [hw]; exact below_drewN hB1 m : Below w.heap.size w w1); clear hw L F1 hB1) | (at_builtin; refine wpList_que _ rfl (.tmp 95) (.tmp 97) 31 rfl (w.heap.size + 4) 3 i0 Tryz.underlying31 hi hz0 hz1 hz2 sv' _ rfl (F2.s.alloc _) ⟨w1.heap.size, 0, none⟩ 1 g rfl (cell_new _ _ _ _ _ _ rfl rfl) (by omega) (by have := F2.size; simp; omega) ?_; intro sv2 w2 hq hg ho))
            have F3 := ((F2.alloc _).pushS hq hg ho).cutG quec2 OW.out.2
            have es' : (d.next H s g ss gs).small = ss ++ [g] := if_pos hl
            have eg' : (d.next H s g ss gs).great = gs := if_pos hl
            have hs2 := F2.size
            go_roundw
            case rel => exact ⟨d.next H s g ss gs, by rw [es', eg']; exact F3, I', hgo', (hB2.alloc hB2.size _).grown hg (by simp; omega) (fun j hj => by have := (F2.s.lt j hj).1; omega)⟩
            case measure =>
              have e1 := F3.s.lenV
              have e2 := F3.g.lenV
              rw [ints_len] at e1 e2
              obtain ⟨h1, h2, _, _⟩ := HS.out
              rw [e1, e2]
              simp only [lenV, List.length_append, List.length_cons, List.length_nil]
              omega
          · go_wp2
            go_quiet (fail)
            go_wp2
            go_region
            have F1 := ((((F.drewN nq).cutS quec (OW.out.1)).setC s (d.rest s) g).setR g (d.rest g - (H - d.rest s))).drew
            have hB1 := ((((below_drewN hB nq).setCell (p := ⟨w.heap.size + 1, s * 2, none⟩) (by simp) (.int .i64 (d.rest s))).setCell (p := ⟨w.heap.size + 1, s * 2 + 1, none⟩) (by simp) (.int .i64 g)).setCell (p := ⟨w.heap.size + 2, g, none⟩) (by simp) (.int .i64 (d.rest g - (H - d.rest s)))).drew
            have L := lacks_of w.heap.size k g H _ _ _ _ _ _ _ _ F1 gn
            rw [upd_same] at L
            have hd : decide (d.rest g - (H - d.rest s) < H) = false := by simp; omega
            rw [hd] at L
            clear hd F cV cH cR cG fG cL cO fL fO cs cg quec
            go_wp2_with (go_at_call 149; refine L.mono ?_; rintro e w1 ⟨rfl, m, hw⟩; have F2 := (by rw [hw]; exact F1.drewN m : FillAt w1 _ _ _ _ _ _ _ _ _ _); have hB2 := (by rw [hw]; exact below_drewN hB1 m : Below w.heap.size w w1); clear hw L F1 hB1)
            have es' : (d.next H s g ss gs).small = ss := if_neg (show ¬ d.rest g - (H - d.rest s) < H by omega)
            have eg' : (d.next H s g ss gs).great = g :: gs := if_neg (show ¬ d.rest g - (H - d.rest s) < H by omega)
            go_roundw
            case rel => exact ⟨d.next H s g ss gs, by rw [es', eg']; exact F2, I', hgo', hB2⟩
            case measure =>
              have e1 := F2.s.lenV
              rw [ints_len] at e1
              obtain ⟨h1, h2, _, _⟩ := HS.out
              rw [e1]
              simp only [lenV]
              omega
end Go.Proofs.YtaihcceobnfmhaaGreatDoor
