/-
  A baker of the program's by its contracts: what has waited is freed, and what waits is slashed, cycle by cycle in any order.
  The program's stakes by their contracts: what they tell of one baker.
  The program's stakes by their contracts: what is done with one baker.
-/
import Derived.Test.YtaihcceobnfmhaaGreatDoorStkPartsX
namespace Go.Proofs.YtaihcceobnfmhaaGreatDoor
open Go.RowKit Go.Maps

theorem map_no_cell {w : World} {m : Nat} {es : Array MapEntry} {clock : Nat} (h : w.heap[m]? = some (.map es clock)) (i : Nat) : w.cell? ⟨m, i, none⟩ = none := by simp [World.cell?, h]
theorem OwnS.no_cell {w : World} {m g : Nat} {s : Int → Int} (h : OwnS w m s g) (i : Nat) : w.cell? ⟨m, i, none⟩ = none := by
  obtain ⟨n, D, ⟨es, clock, hes, _⟩, _⟩ := h
  exact map_no_cell hes i
theorem OwnQ.no_cell {w : World} {m g : Nat} {H : Int → Bool} {q : Int → Nat} (h : OwnQ w m H q g) (i : Nat) : w.cell? ⟨m, i, none⟩ = none := by
  obtain ⟨n, D, ⟨es, clock, hes, _⟩, _⟩ := h
  exact map_no_cell hes i
/-- an error's variable lies elsewhere -/
theorem PoolLaid.kept {w w' : World} {A : Nat → Addr} {s : Bool} {X : List Nat} (hL : PoolLaid w A s) (hX : ∀ k, k ∈ X → ∀ a : Addr, w.cell? ⟨k, 0, none⟩ ≠ some (sent a)) (hK : Kept X w w') : PoolLaid w' A s := by
  have st : ∀ (i : Nat) (a : Addr), w.cell? ⟨i, 0, none⟩ = some (sent a) → w'.cell? ⟨i, 0, none⟩ = some (sent a) := fun i a h => hK.old h fun g => hX i g a h
  exact ⟨st _ _ hL.v1, st _ _ hL.v3, fun e => st _ _ (hL.v5 e), st _ _ hL.v6, st _ _ hL.v7⟩
theorem PoolAt.apart {w : World} {b m g : Nat} {x : St} (h : PoolAt w b m x g) : ∀ k, k ∈ [b, m] → ∀ a : Addr, w.cell? ⟨k, 0, none⟩ ≠ some (sent a) := by
  intro k hk a e
  rcases List.mem_cons.1 hk with rfl | hk
  · rw [h.c0] at e; cases e
  · rw [List.mem_singleton.1 hk, h.own.no_cell 0] at e; cases e
theorem OwnQ.apart {w : World} {m g : Nat} {H : Int → Bool} {q : Int → Nat} (h : OwnQ w m H q g) : ∀ k, k ∈ [m] → ∀ a : Addr, w.cell? ⟨k, 0, none⟩ ≠ some (sent a) := by
  intro k hk a e
  rw [List.mem_singleton.1 hk, h.no_cell 0] at e; cases e
theorem RangeQ.apart {w : World} {m r g cnt : Nat} {H left : Int → Bool} {q : Int → Nat} (h : RangeQ w m r H left q g cnt) : ∀ k, k ∈ [r] → ∀ a : Addr, w.cell? ⟨k, 0, none⟩ ≠ some (sent a) := by
  intro k hk a e
  obtain ⟨n, D, lf, ⟨es, clock, since, seen, c0, h1, F, hs, hD, h2, _⟩, _⟩ := h
  rw [List.mem_singleton.1 hk] at e
  simp [World.cell?, h2] at e

/-- a loop over what waits: each pool that is no longer to come was turned by f, or let be -/
def swW (W : Int → St) (f : Int → St → St) (left : Int → Bool) : Int → St := fun c => if left c = false then f c (W c) else W c
def swG (g : Nat) (left : Int → Bool) : Int → Nat := fun c => if left c = true then g else g + 4
/-- a loop over what waits, under way -/
structure SwAt (tag : Nat → Tg) (w : World) (bb p pm wm r g : Nat) (P : St) (H : Int → Bool) (q qm : Int → Nat) (W : Int → St) (f : Int → St → St) (A : Nat → Addr) (wr : World) (left H' : Int → Bool) (cnt : Nat) : Prop where
  rg : RangeQ wr wm r H' left q g cnt
  bk : BkAt tag wr bb p pm wm P g H' q qm (swW W f left) (swG g left)
  emp : ∀ c, H' c = false → swW W f left c = e0
  sub : ∀ c, H' c = true → H c = true
  kept : KeptP (fun k => tag k ≠ .no) w wr
  laid : PoolLaid wr A true
  tr : tag r = .no
  size : w.heap.size ≤ r
section
variable {tag : Nat → Tg} {w wr w1 w2 w3 : World} {bb p pm wm r g cnt cnt1 cnt2 : Nat} {P : St} {H : Int → Bool} {q qm : Int → Nat} {W : Int → St} {f : Int → St → St} {A : Nat → Addr} {left H' : Int → Bool} {c : Int}
theorem SwAt.start (h : BkAt tag w bb p pm wm P g H q qm W (fun _ => g)) (h0 : ∀ c, H c = false → W c = e0) (hf : ∀ c, f c e0 = e0) (hL : PoolLaid w A true) (hr : RangeQ w1 wm w.heap.size H H q g cnt) (hB : Below w.heap.size w w1) :
    SwAt tag w bb p pm wm w.heap.size g P H q qm W f A w1 H H cnt where
  rg := hr
  bk := (h.keptP (KeptP.of_below (F := fun _ => False) hB) (fun _ g => g.elim)).congr (fun c hc => if_neg (by rw [hc]; simp)) (fun c hc => by show g ≤ (if H c = true then g else g + 4); rw [if_pos hc]; exact Nat.le_refl _)
  emp := fun c hc => by show (if H c = false then f c (W c) else W c) = e0; rw [if_pos hc, h0 c hc, hf]
  sub := fun _ h => h
  kept := KeptP.of_below hB
  laid := hL.below hB
  tr := Classical.byContradiction fun e => by have := h.tin _ e; omega
  size := Nat.le_refl _
/-- the step has drawn a key -/
theorem SwAt.next (h : SwAt tag w bb p pm wm r g P H q qm W f A wr left H' cnt) (_hr : RangeQ w1 wm r H' (but left c) q g cnt1) (hK : Kept [r] wr w1) :
    BkAt tag w1 bb p pm wm P g H' q qm (swW W f left) (swG g left) ∧ KeptP (fun k => tag k ≠ .no) w w1 ∧ PoolLaid w1 A true := by
  refine ⟨h.bk.keptP (KeptP.of_kept (F := fun k => k = r) hK (fun k hk => List.mem_singleton.1 hk)) (fun k e => by rw [e]; exact h.tr), h.kept.trans (KeptP.of_kept (F := fun k => k = r) hK (fun k hk => List.mem_singleton.1 hk)) (fun i hi e => by have := h.size; omega), h.laid.kept h.rg.apart hK⟩
theorem swW_other {d : Int} (e : d ≠ c) : swW W f (but left c) d = swW W f left d := by unfold swW; rw [but_other _ _ _ e]
theorem swW_same : swW W f (but left c) c = f c (W c) := if_pos (but_same _ _)
theorem swW_left (h : left c = true) : swW W f left c = W c := if_neg (by rw [h]; simp)
theorem swG_left (h : left c = true) : swG g left c = g := if_pos h
theorem swG_le (d : Int) : swG g left d ≤ swG g (but left c) d := by
  unfold swG
  by_cases e : d = c
  · subst e
    have e : (if but left d d = true then g else g + 4) = g + 4 := if_neg (by rw [but_same]; simp)
    rw [e]
    split <;> omega
  · rw [but_other _ _ _ e]; exact Nat.le_refl _
/-- a pool that is let be -/
theorem SwAt.skip (h : SwAt tag w bb p pm wm r g P H q qm W f A wr left H' cnt) (hl : left c = true) (hf : f c (W c) = W c) (hr : RangeQ w1 wm r H' (but left c) q g cnt1) (hK : Kept [r] wr w1) : SwAt tag w bb p pm wm r g P H q qm W f A w1 (but left c) H' cnt1 := by
  obtain ⟨hb, hk, hL⟩ := h.next hr hK
  have e : ∀ d, swW W f (but left c) d = swW W f left d := fun d => by
    by_cases e : d = c
    · subst e; rw [swW_same, swW_left hl, hf]
    · exact swW_other e
  exact ⟨hr, hb.congr (fun d _ => e d) (fun d _ => swG_le d), fun d hd => by rw [e]; exact h.emp d hd, h.sub, hk, hL, h.tr, h.size⟩
/-- a pool that is turned -/
theorem SwAt.turn (h : SwAt tag w bb p pm wm r g P H q qm W f A wr left H' cnt) (hH : H' c = true) (hr : RangeQ w1 wm r H' (but left c) q g cnt1) (hK : Kept [r] wr w1)
    (hP : PoolAt w2 (q c) (qm c) (f c (W c)) (g + 4)) (hK2 : Kept [q c, qm c] w1 w2) : SwAt tag w bb p pm wm r g P H q qm W f A w2 (but left c) H' cnt1 := by
  obtain ⟨hb, hk, hL⟩ := h.next hr hK
  obtain ⟨hb2, hT⟩ := hb.waitTurned hH hK2 hP
  obtain ⟨t1, t2, hp⟩ := hb.wait c hH
  have nm : ¬ tag wm = .wait c := by rw [hb.tm]; intro e; cases e
  have nr : ¬ tag r = .wait c := by rw [h.tr]; intro e; cases e
  refine ⟨hr.of_blocks (hT.block wm hr.lt.2.1 nm) (hT.block r hr.lt.1 nr), hb2.congr (fun d _ => ?_) (fun d _ => ?_), fun d hd => ?_, h.sub, hk.trans hT (fun i _ e => by rw [e]; intro e2; cases e2), hL.kept hp.apart hK2, h.tr, h.size⟩
  · by_cases e : d = c
    · subst e; rw [swW_same, set1_same]
    · rw [swW_other e, set1_other _ _ _ _ e]
  · by_cases e : d = c
    · subst e
      rw [set1_same]
      show g + 4 ≤ (if but left d d = true then g else g + 4)
      rw [but_same, if_neg (by simp)]; exact Nat.le_refl _
    · rw [set1_other _ _ _ _ e]; exact swG_le d
  · rw [swW_other (fun e => by rw [e, hH] at hd; cases hd)]; exact h.emp d hd
/-- a pool that is empty now is struck -/
theorem SwAt.strike (h : SwAt tag w bb p pm wm r g P H q qm W f A wr left H' cnt) (hl : left c = false) (he : f c (W c) = e0) (hr : RangeQ w1 wm r (but H' c) (but left c) q g cnt1) (hK : Kept [wm] wr w1) : SwAt tag w bb p pm wm r g P H q qm W f A w1 left (but H' c) cnt1 := by
  obtain ⟨hb, hT⟩ := h.bk.mapTurned hK
  have e : but left c = left := by
    funext d
    by_cases e : d = c
    · subst e; rw [but_same, hl]
    · exact but_other _ _ _ e
  rw [e] at hr
  refine ⟨hr, hb.fewer (fun d hd => (but_true hd).1), fun d hd => ?_, fun d hd => h.sub d (but_true hd).1, h.kept.trans hT (fun i _ e => by rw [e]; intro e2; cases e2), h.laid.kept h.rg.owns.apart hK, h.tr, h.size⟩
  by_cases e : d = c
  · subst e
    show (if left d = false then f d (W d) else W d) = e0
    rw [if_pos hl, he]
  · rw [but_other _ _ _ e] at hd; exact h.emp d hd
/-- nothing is left to come -/
theorem SwAt.done {F : Nat → Prop} (h : SwAt tag w bb p pm wm r g P H q qm W f A wr left H' cnt) (hf : ∀ k, F k ↔ tag k ≠ Tg.no) (hcy : ∀ c, H c = true → Cy c) (hl : ∀ c, left c = false) : Bkr F wr bb P (fun c => f c (W c)) (g + 4) ∧ Moved F F w wr := by
  have e : swW W f left = fun c => f c (W c) := funext fun c => if_pos (hl c)
  refine ⟨⟨tag, p, pm, wm, H', q, qm, hf, ?_, h.rg.owns.more (by omega), fun c hc => by have := h.emp c hc; rw [e] at this; exact this, fun c hc => hcy c (h.sub c hc)⟩, ⟨h.kept.mono (fun k _ g => (hf k).2 g), fun _ _ g => g⟩⟩
  exact (h.bk.moreP (Nat.le_add_right _ 4)).congr (fun c _ => by rw [e]) (fun c _ => by show (if left c = true then g else g + 4) ≤ g + 4; split <;> omega)
end

/-! freeing -/
def frT (o cyc : Int) (c : Int) (x : St) : St := if c + 2 < cyc then x.leave o else x
def frN (W : Int → St) (o cyc : Int) : Int → Int → Int := fun _ c => if c + 2 < cyc then (W c).leaveN o else 0
def frC (W : Int → St) (o cyc : Int) : Int → Int → Int := fun _ c => if c + 2 < cyc ∧ (W c).leaveC o = 0 then 1 else 0
theorem St.Ok.leaveN_bd {x : St} (h : x.Ok) (o : Int) : 0 ≤ x.leaveN o ∧ x.leaveN o ≤ 1125899906842624 := by
  unfold St.leaveN
  split
  · have := h.val0 o
    have := h.val1 o
    have := h.t1
    omega
  · omega
theorem e0_leaveC (o : Int) : e0.leaveC o ≠ 0 := by
  unfold St.leaveC
  split
  · omega
  · rw [if_pos (show e0.s o = 0 from rfl)]; omega
theorem e0_leaveN (o : Int) : e0.leaveN o = 0 := if_neg (e0_leaveC o)
set_option maxRecDepth 100000 in
set_option maxHeartbeats 4000000 in
theorem bk_free (F : Nat → Prop) (bb g : Nat) (P : St) (W : Int → St) (hW : ∀ c, (W c).Ok) (hg : g ≤ 900000) (o cyc : Int) (ho : Ow o) (hcyc : Cy cyc) (K : List (Int × Int)) (hn : K.Nodup) (hKl : K.length ≤ 900) (b : Int) (hK0 : ∀ c, (b, c) ∉ K → W c = e0)
    (A : Nat → Addr) (w : World) (hL : PoolLaid w A true) (h : Bkr F w bb P W g) :
    Calls Tryz.prog 197 #[.pointer (some ⟨bb, 0, none⟩), .int .i64 o, .int .i64 cyc] w fun e w' => e = .returned (.tuple #[.int .i64 (sumK K fun b' c' => if b' = b then frN W o cyc b' c' else 0), .int .i64 (sumK K fun b' c' => if b' = b then frC W o cyc b' c' else 0)]) ∧
      Bkr F w' bb P (fun c => frT o cyc c (W c)) (g + 4) ∧ Moved F F w w' ∧ PoolLaid w' A true := by
  have wo : (Lit.int .i64 o).wf = true := WalkArith.wf_i64 (by omega)
  obtain ⟨tag, p, pm, wm, H, q, qm, hf, hb, hq, h0, hcy⟩ := h
  have c1 := hb.c1
  have fN : ∀ b' c', 0 ≤ frN W o cyc b' c' ∧ frN W o cyc b' c' ≤ 1125899906842624 := fun b' c' => by
    unfold frN
    split
    · exact (hW c').leaveN_bd o
    · omega
  have fC : ∀ b' c', 0 ≤ frC W o cyc b' c' ∧ frC W o cyc b' c' ≤ 1 := fun b' c' => by unfold frC; split <;> omega
  have zN : ∀ c, W c = e0 → frN W o cyc b c = 0 := fun c e => by
    unfold frN
    split
    · rw [e]; exact e0_leaveN o
    · rfl
  have zC : ∀ c, W c = e0 → frC W o cyc b c = 0 := fun c e => if_neg (fun g => by rw [e] at g; exact e0_leaveC o g.2)
  have fT : ∀ c, frT o cyc c e0 = e0 := fun c => by
    unfold frT
    split
    · exact e0_leave o
    · rfl
  go_enter Tryz.func197, Tryz.ntmps197
  go_wp2_with (first | (at_range; refine wpList_range_Q rfl _ 91 90 rfl Tryz.underlying91 rfl hq ?_; intro w0 cnt0 hr0 hB0) | go_in)
  go_frame
  go_loopw [6, 7, 8] (fun s k _ wr => ∃ left H' cnt, s = .int .i64 (sumB K b left (frN W o cyc)) ∧ k = .int .i64 (sumB K b left (frC W o cyc)) ∧ SwAt tag w bb p pm wm w.heap.size g P H q qm W (frT o cyc) A wr left H' cnt) (fun _ _ _ wr => wr.rangeLeft wm w.heap.size)
  case atStart => exact ⟨H, H, cnt0, by rw [sumB_start (fun c hc => zN c (h0 c hc))], by rw [sumB_start (fun c hc => zC c (h0 c hc))], SwAt.start hb h0 fT hL hr0 hB0⟩
  case round =>
    obtain ⟨left, H', cnt, rfl, rfl, hS⟩ := hrel
    have b1 := sumB_bd (K := K) (b := b) (left := left) (M := 1125899906842624) (by decide) fN
    have b2 := sumB_bd (K := K) (b := b) (left := left) (M := 1) (by decide) fC
    have hKi : (K.length : Int) ≤ 900 := by omega
    have b3 : sumB K b left (frN W o cyc) ≤ 1013309916158361600 := by omega
    have b4 : sumB K b left (frC W o cyc) ≤ 900 := by omega
    obtain ⟨b1, _⟩ := b1
    obtain ⟨b2, _⟩ := b2
    clear hKi
    go_wp2_with (first | (at_next; refine wpList_next_Q rfl _ rfl rfl hS.rg ?_ ?_) | go_in)
    · intro hl0
      obtain ⟨hBk, hM⟩ := hS.done hf hcy hl0
      have E1 := hide (sumB_end (K := K) (b := b) (f := frN W o cyc) hl0)
      have E2 := hide (sumB_end (K := K) (b := b) (f := frC W o cyc) hl0)
      have LL := hide hS.laid
      clear hS hl0
      go_wp2
      go_ret2
      exact ⟨ret_int2 E1.out E2.out, hBk, hM, LL.out⟩
    · intro c w1 cnt1 hwc hlc hHc hrg1 hlt hK1 hen
      obtain ⟨y0, y1⟩ := hcy c (hS.sub c hHc)
      have SN := hide (sumB_step hn (left := left) (f := frN W o cyc) hlc (fun g => zN c (hK0 c g)))
      have SC := hide (sumB_step hn (left := left) (f := frC W o cyc) hlc (fun g => zC c (hK0 c g)))
      obtain ⟨hb1, hk1, hL1⟩ := hS.next hrg1 hK1
      obtain ⟨hy0, hy1⟩ := hcyc
      by_cases hlt2 : c + 2 < cyc
      · have hw := (hb1.wait c hHc).2.2
        rw [swW_left hlc, swG_left hlc] at hw
        have fe : frT o cyc c (W c) = (W c).leave o := if_pos hlt2
        have ge : ¬ c + 2 ≥ cyc := by omega
        have L := prog_leave (q c) (qm c) g (W c) (hW c) o wo (by omega) A true w1 hL1 hw
        have nb := (hW c).leaveN_bd o
        have FN := hide (show frN W o cyc b c = (W c).leaveN o from if_pos hlt2)
        by_cases hcode : (W c).leaveC o = 0
        · have FC := hide (show frC W o cyc b c = 1 from if_pos ⟨hlt2, hcode⟩)
          have HC := hide hcode
          clear hcode
          go_wp2_with fail
          refine L.mono ?_
          rintro e w2 ⟨ev, rfl, hE, hP2, hK2⟩
          obtain rfl := hE.nil HC.out
          have AL := prog_all (q c) (qm c) _ _ w2 hP2
          rw [← fe] at hP2
          have hS2 := hS.turn hHc hrg1 hK1 hP2 hK2
          have d1 := hS2.bk.c1
          have HE : Hid (((W c).leave o).A = 0 → frT o cyc c (W c) = e0) := fun e => by rw [fe]; exact ((hW c).leave o).empty e
          obtain ⟨nb0, nb1⟩ := nb
          generalize sumB K b left (frN W o cyc) = z at *
          generalize sumB K b left (frC W o cyc) = y at *
          generalize (W c).leaveN o = v at *
          generalize ((W c).leave o).A = a at *
          by_cases hA : a = 0
          · have tA : (a == 0) = true := by simp [hA]
            have HA := hide hA
            clear hA L hE hw hb1 fe
            go_wp2_with (first | (go_at_call 207; refine AL.mono ?_; rintro e w' ⟨rfl, rfl⟩) | (at_delete; refine wpList_delete_Q rfl _ _ 91 90 rfl Tryz.underlying91 rfl hS2.rg c rfl hwc ?_; intro w3 cnt3 hr3 hle hK3; go_frame))
            go_roundw
            case rel => exact ⟨but left c, but H' c, cnt3, by rw [SN.out, FN.out], by rw [SC.out, FC.out], hS2.strike (but_same _ _) (HE.out HA.out) hr3 hK3⟩
            case measure => rw [hr3.measure, hS.rg.measure]; omega
          · have tA : (a == 0) = false := by simp [hA]
            clear hA L hE hw hb1 fe
            go_wp2_with (go_at_call 207; refine AL.mono ?_; rintro e w' ⟨rfl, rfl⟩)
            go_roundw
            case rel => exact ⟨but left c, H', cnt1, by rw [SN.out, FN.out], by rw [SC.out, FC.out], hS2⟩
            case measure => rw [hS2.rg.measure, hS.rg.measure]; omega
        · have FC := hide (show frC W o cyc b c = 0 from if_neg (fun g => hcode g.2))
          have NC := hide (St.leave_no (x := W c) rfl hcode).2
          go_wp2_with fail
          refine L.mono ?_
          rintro e w2 ⟨ev, rfl, hE, hP2, hK2⟩
          obtain ⟨i, rfl⟩ := hE.err hcode
          rw [← fe] at hP2
          have hS2 := hS.turn hHc hrg1 hK1 hP2 hK2
          clear hcode L hE hw hb1 fe
          go_wp2
          go_roundw
          case rel => exact ⟨but left c, H', cnt1, by rw [SN.out, FN.out, NC.out, Int.add_zero], by rw [SC.out, FC.out, Int.add_zero], hS2⟩
          case measure => rw [hS2.rg.measure, hS.rg.measure]; omega
      · have FN := hide (show frN W o cyc b c = 0 from if_neg hlt2)
        have FC := hide (show frC W o cyc b c = 0 from if_neg (fun g => hlt2 g.1))
        have hS2 := hS.skip hlc (if_neg hlt2) hrg1 hK1
        have ge : c + 2 ≥ cyc := by omega
        clear hlt2 hb1
        go_wp2
        go_roundw
        case rel => exact ⟨but left c, H', cnt1, by rw [SN.out, FN.out, Int.add_zero], by rw [SC.out, FC.out, Int.add_zero], hS2⟩
        case measure => rw [hS2.rg.measure, hS.rg.measure]; omega

/-! slashing -/
def slT (f p : Int) (c : Int) (x : St) : St := if f ≤ c then x.slash p else x
def slN (W : Int → St) (f p : Int) : Int → Int → Int := fun _ c => if f ≤ c then (W c).slashN p else 0
theorem e0_slashN (p : Int) : e0.slashN p = 0 := by
  unfold St.slashN
  split
  · show (0 : Int) * p / 100 = 0
    rw [Int.zero_mul]; decide
  · rfl
set_option maxRecDepth 100000 in
set_option maxHeartbeats 4000000 in
theorem bk_slash (F : Nat → Prop) (bb g : Nat) (P : St) (W : Int → St) (hW : ∀ c, (W c).Ok) (_hg : g ≤ 900000) (f pc : Int) (hp : 0 ≤ pc ∧ pc ≤ 100) (_wf : (Lit.int .i64 f).wf = true) (K : List (Int × Int)) (hn : K.Nodup) (hKl : K.length ≤ 900) (b : Int) (hK0 : ∀ c, (b, c) ∉ K → W c = e0)
    (A : Nat → Addr) (w : World) (hL : PoolLaid w A true) (h : Bkr F w bb P W g) :
    Calls Tryz.prog 192 #[.pointer (some ⟨bb, 0, none⟩), .int .i64 f, .int .i64 pc] w fun e w' => e = .returned (.int .i64 (sumK K fun b' c' => if b' = b then slN W f pc b' c' else 0)) ∧
      Bkr F w' bb P (fun c => slT f pc c (W c)) (g + 4) ∧ Moved F F w w' := by
  obtain ⟨tag, p, pm, wm, H, q, qm, hf, hb, hq, h0, hcy⟩ := h
  have c1 := hb.c1
  have fN : ∀ b' c', 0 ≤ slN W f pc b' c' ∧ slN W f pc b' c' ≤ 1125899906842624 := fun b' c' => by
    unfold slN
    split
    · have := (hW c').slashN_bd pc
      have := (hW c').t1
      omega
    · omega
  have zN : ∀ c, W c = e0 → slN W f pc b c = 0 := fun c e => by
    unfold slN
    split
    · rw [e]; exact e0_slashN pc
    · rfl
  have fT : ∀ c, slT f pc c e0 = e0 := fun c => by
    unfold slT
    split
    · exact e0_slash pc
    · rfl
  go_enter Tryz.func192, Tryz.ntmps192
  go_wp2_with (first | (at_range; refine wpList_range_Q rfl _ 91 90 rfl Tryz.underlying91 rfl hq ?_; intro w0 cnt0 hr0 hB0) | go_in)
  go_frame
  go_loopw [7, 8] (fun s _ wr => ∃ left H' cnt, s = .int .i64 (sumB K b left (slN W f pc)) ∧ SwAt tag w bb p pm wm w.heap.size g P H q qm W (slT f pc) A wr left H' cnt) (fun _ _ wr => wr.rangeLeft wm w.heap.size)
  case atStart => exact ⟨H, H, cnt0, by rw [sumB_start (fun c hc => zN c (h0 c hc))], SwAt.start hb h0 fT hL hr0 hB0⟩
  case round =>
    obtain ⟨left, H', cnt, rfl, hS⟩ := hrel
    have b1 := sumB_bd (K := K) (b := b) (left := left) (M := 1125899906842624) (by decide) fN
    have hKi : (K.length : Int) ≤ 900 := by omega
    have b3 : sumB K b left (slN W f pc) ≤ 1013309916158361600 := by omega
    obtain ⟨b1, _⟩ := b1
    clear hKi
    go_wp2_with (first | (at_next; refine wpList_next_Q rfl _ rfl rfl hS.rg ?_ ?_) | go_in)
    · intro hl0
      obtain ⟨hBk, hM⟩ := hS.done hf hcy hl0
      have E1 := hide (sumB_end (K := K) (b := b) (f := slN W f pc) hl0)
      clear hS hl0
      go_wp2
      go_ret
      exact ⟨ret_int E1.out, hBk, hM⟩
    · intro c w1 cnt1 hwc hlc hHc hrg1 hlt hK1 hen
      have SN := hide (sumB_step hn (left := left) (f := slN W f pc) hlc (fun g => zN c (hK0 c g)))
      obtain ⟨hb1, hk1, hL1⟩ := hS.next hrg1 hK1
      by_cases hlt2 : f ≤ c
      · have hw := (hb1.wait c hHc).2.2
        rw [swW_left hlc, swG_left hlc] at hw
        have fe : slT f pc c (W c) = (W c).slash pc := if_pos hlt2
        have ge : ¬ c < f := by omega
        have L := prog_slash (q c) (qm c) g (W c) (hW c) pc A true w1 hL1 hw
        have nb := (hW c).slashN_bd pc
        have nt := (hW c).t1
        have FN := hide (show slN W f pc b c = (W c).slashN pc from if_pos hlt2)
        have HC := hide (St.slash_yes (x := W c) hp).1
        go_wp2_with fail
        refine L.mono ?_
        rintro e w2 ⟨ev, rfl, hE, hP2, hK2⟩
        obtain rfl := hE.nil HC.out
        rw [← fe] at hP2
        have hS2 := hS.turn hHc hrg1 hK1 hP2 hK2
        obtain ⟨nb0, nb1⟩ := nb
        have nb2 : (W c).slashN pc ≤ 1125899906842624 := by omega
        clear nb1 nt
        generalize sumB K b left (slN W f pc) = z at *
        generalize (W c).slashN pc = v at *
        clear L hE hw hb1 fe
        go_wp2
        go_roundw
        case rel => exact ⟨but left c, H', cnt1, by rw [SN.out, FN.out], hS2⟩
        case measure => rw [hS2.rg.measure, hS.rg.measure]; omega
      · have FN := hide (show slN W f pc b c = 0 from if_neg hlt2)
        have hS2 := hS.skip hlc (if_neg hlt2) hrg1 hK1
        have ge : c < f := by omega
        clear hlt2 hb1
        go_wp2
        go_roundw
        case rel => exact ⟨but left c, H', cnt1, by rw [SN.out, FN.out, Int.add_zero], hS2⟩
        case measure => rw [hS2.rg.measure, hS.rg.measure]; omega
end Go.Proofs.YtaihcceobnfmhaaGreatDoor

namespace Go.Proofs.YtaihcceobnfmhaaGreatDoor
open Go.RowKit

theorem baker_yes (b : Int) (h0 : 0 ≤ b) (h3 : b < 3) (w : World) :
    Calls Tryz.prog 112 #[.int .i64 b] w fun e w' => e = .returned (.bool true) ∧ w' = w := by
  go_enter Tryz.func112, Tryz.ntmps112
  go_wp2
  go_ret
  exact ⟨rfl, rfl⟩
theorem baker_no (b : Int) (h : ¬ Bk b) (w : World) :
    Calls Tryz.prog 112 #[.int .i64 b] w fun e w' => e = .returned (.bool false) ∧ w' = w := by
  by_cases h0 : 0 ≤ b
  · have h3 : ¬ b < 3 := by omega
    clear h
    go_enter Tryz.func112, Tryz.ntmps112
    go_wp2
    go_ret
    exact ⟨rfl, rfl⟩
  · clear h
    go_enter Tryz.func112, Tryz.ntmps112
    go_wp2
    go_ret
    exact ⟨rfl, rfl⟩
theorem cycle_yes (c : Int) (h0 : 0 ≤ c) (h1 : c ≤ 1048576) (w : World) :
    Calls Tryz.prog 93 #[.int .i64 c] w fun e w' => e = .returned (.bool true) ∧ w' = w := by
  go_enter Tryz.func93, Tryz.ntmps93
  go_wp2
  go_ret
  exact ⟨rfl, rfl⟩
theorem cycle_no (c : Int) (h : ¬ Cy c) (w : World) :
    Calls Tryz.prog 93 #[.int .i64 c] w fun e w' => e = .returned (.bool false) ∧ w' = w := by
  by_cases h0 : 0 ≤ c
  · have h3 : ¬ c ≤ 1048576 := by omega
    clear h
    go_enter Tryz.func93, Tryz.ntmps93
    go_wp2
    go_ret
    exact ⟨rfl, rfl⟩
  · clear h
    go_enter Tryz.func93, Tryz.ntmps93
    go_wp2
    go_ret
    exact ⟨rfl, rfl⟩

theorem find_yes (G : Int → Nat → Prop) (bb : Int → Nat) (sb : Nat) (S : Sk) (hS : S.Ok) (gb : Int → Nat) (b : Int) (hr : S.R b = true) (w : World) (h : PSkAt G bb w sb S gb) :
    Calls Tryz.prog 50 #[.pointer (some ⟨sb, 0, none⟩), .int .i64 b] w fun e w' => e = .returned (.pointer (some ⟨bb b, 0, none⟩)) ∧ w' = w := by
  obtain ⟨b0, b3⟩ := hS.rin b hr
  have I := baker_yes b b0 b3
  obtain ⟨k, rfl⟩ : ∃ k : Nat, b = k := ⟨b.toNat, by omega⟩
  have hk : k < 3 := by omega
  have hc := h.c k hk
  rw [hr] at hc
  simp only [if_true] at hc
  clear hr h b0 b3
  go_enter Tryz.func50, Tryz.ntmps50
  go_wp2_with (go_at_call 112; refine (I _).mono ?_; rintro e w' ⟨rfl, rfl⟩)
  go_ret
  exact ⟨rfl, rfl⟩
theorem find_no (G : Int → Nat → Prop) (bb : Int → Nat) (sb : Nat) (S : Sk) (gb : Int → Nat) (b : Int) (hr : S.R b = false) (w : World) (h : PSkAt G bb w sb S gb) :
    Calls Tryz.prog 50 #[.pointer (some ⟨sb, 0, none⟩), .int .i64 b] w fun e w' => e = .returned (.pointer none) ∧ w' = w := by
  by_cases hb : Bk b
  · obtain ⟨b0, b3⟩ := hb
    have I := baker_yes b b0 b3
    obtain ⟨k, rfl⟩ : ∃ k : Nat, b = k := ⟨b.toNat, by omega⟩
    have hk : k < 3 := by omega
    have hc := h.c k hk
    rw [hr] at hc
    simp only [Bool.false_eq_true, if_false] at hc
    clear hr h b0 b3
    go_enter Tryz.func50, Tryz.ntmps50
    go_wp2_with (go_at_call 112; refine (I _).mono ?_; rintro e w' ⟨rfl, rfl⟩)
    go_ret
    exact ⟨rfl, rfl⟩
  · have I := baker_no b hb
    clear hb h hr
    go_enter Tryz.func50, Tryz.ntmps50
    go_wp2_with (go_at_call 112; refine (I _).mono ?_; rintro e w' ⟨rfl, rfl⟩)
    go_ret
    exact ⟨rfl, rfl⟩
theorem is_at (G : Int → Nat → Prop) (bb : Int → Nat) (sb : Nat) (S : Sk) (hS : S.Ok) (gb : Int → Nat) (b : Int) (w : World) (h : PSkAt G bb w sb S gb) :
    Calls Tryz.prog 144 #[.pointer (some ⟨sb, 0, none⟩), .int .i64 b] w fun e w' => e = .returned (.bool (S.R b)) ∧ w' = w := by
  cases hr : S.R b with
  | true =>
    have C := find_yes G bb sb S hS _ b hr w h
    clear hr h
    go_enter Tryz.func144, Tryz.ntmps144
    go_wp2_with (go_at_call 50; refine C.mono ?_; rintro e w' ⟨rfl, rfl⟩)
    go_ret
    exact ⟨rfl, rfl⟩
  | false =>
    have C := find_no G bb sb S _ b hr w h
    clear hr h
    go_enter Tryz.func144, Tryz.ntmps144
    go_wp2_with (go_at_call 50; refine C.mono ?_; rintro e w' ⟨rfl, rfl⟩)
    go_ret
    exact ⟨rfl, rfl⟩
theorem ps_is (F : Nat → Prop) (sb : Nat) (S : Sk) (hS : S.Ok) (g : Nat) (b : Int) (w : World) (h : PSk F w sb S g) :
    Calls Tryz.prog 144 #[.pointer (some ⟨sb, 0, none⟩), .int .i64 b] w fun e w' => e = .returned (.bool (S.R b)) ∧ ∃ m, w' = w.drewN m := by
  obtain ⟨G, bb, hf, h⟩ := h
  exact (is_at G bb sb S hS _ b w h).mono fun e w' ⟨h1, h2⟩ => ⟨h1, 0, h2⟩
theorem ps_staked (F : Nat → Prop) (sb : Nat) (S : Sk) (hS : S.Ok) (g : Nat) (b : Int) (w : World) (h : PSk F w sb S g) :
    Calls Tryz.prog 17 #[.pointer (some ⟨sb, 0, none⟩), .int .i64 b] w fun e w' => e = .returned (.int .i64 (S.P b).T) ∧ ∃ m, w' = w.drewN m := by
  obtain ⟨G, bb, hf, h⟩ := h
  cases hr : S.R b with
  | true =>
    have C := find_yes G bb sb S hS _ b hr w h
    obtain ⟨tag, p, pm, wm, H, q, qm, _, hb, _⟩ := h.bk b hr
    have c0 := hb.c0
    have T := prog_total p pm _ _ w hb.pool
    clear hr h hb
    go_enter Tryz.func17, Tryz.ntmps17
    go_wp2_with (first | (go_at_call 50; refine C.mono ?_; rintro e w' ⟨rfl, rfl⟩) | (go_at_call 51; refine T.mono ?_; rintro e w' ⟨rfl, rfl⟩))
    go_ret
    exact ⟨rfl, 0, rfl⟩
  | false =>
    have C := find_no G bb sb S _ b hr w h
    have E : Hid ((S.P b).T = 0) := by rw [hS.pout b hr]; rfl
    clear hr h
    go_enter Tryz.func17, Tryz.ntmps17
    go_wp2_with (go_at_call 50; refine C.mono ?_; rintro e w' ⟨rfl, rfl⟩)
    go_ret
    exact ⟨ret_int E.out.symm, 0, rfl⟩
theorem ps_value (F : Nat → Prop) (sb : Nat) (S : Sk) (hS : S.Ok) (g : Nat) (o b : Int) (wo : (Lit.int .i64 o).wf = true) (w : World) (h : PSk F w sb S g) :
    Calls Tryz.prog 80 #[.pointer (some ⟨sb, 0, none⟩), .int .i64 o, .int .i64 b] w fun e w' => e = .returned (.int .i64 ((S.P b).val o)) ∧ ∃ m, w' = w.drewN m := by
  obtain ⟨G, bb, hf, h⟩ := h
  cases hr : S.R b with
  | true =>
    have C := find_yes G bb sb S hS _ b hr w h
    obtain ⟨tag, p, pm, wm, H, q, qm, _, hb, _⟩ := h.bk b hr
    have c0 := hb.c0
    have T := prog_value p pm _ _ (hS.pok b) o wo w hb.pool
    clear hr h hb
    go_enter Tryz.func80, Tryz.ntmps80
    go_wp2_with (first | (go_at_call 50; refine C.mono ?_; rintro e w' ⟨rfl, rfl⟩) | (go_at_call 138; refine T.mono ?_; rintro e w' ⟨rfl, m, rfl⟩))
    go_ret
    exact ⟨rfl, m, rfl⟩
  | false =>
    have C := find_no G bb sb S _ b hr w h
    have E : Hid ((S.P b).val o = 0) := by rw [hS.pout b hr]; exact e0_val o
    clear hr h
    go_enter Tryz.func80, Tryz.ntmps80
    go_wp2_with (go_at_call 50; refine C.mono ?_; rintro e w' ⟨rfl, rfl⟩)
    go_ret
    exact ⟨ret_int E.out.symm, 0, rfl⟩
theorem ps_waits (F : Nat → Prop) (sb : Nat) (S : Sk) (hS : S.Ok) (g : Nat) (o b c : Int) (wo : (Lit.int .i64 o).wf = true) (wc : (Lit.int .i64 c).wf = true) (w : World) (h : PSk F w sb S g) :
    Calls Tryz.prog 82 #[.pointer (some ⟨sb, 0, none⟩), .int .i64 o, .int .i64 b, .int .i64 c] w fun e w' => e = .returned (.int .i64 ((S.W b c).val o)) ∧ Below w.heap.size w w' := by
  obtain ⟨G, bb, hf, h⟩ := h
  cases hr : S.R b with
  | true =>
    have C := find_yes G bb sb S hS _ b hr w h
    obtain ⟨tag, p, pm, wm, H, q, qm, _, hb, hq, h0, _⟩ := h.bk b hr
    have D := bk_waitingOf hb g g hq h0 (fun _ => Nat.le_refl _) c wc
    have hx := hS.wok b c
    clear hr h hb hq h0
    go_enter Tryz.func82, Tryz.ntmps82
    go_wp2_with (go_at_call 50; refine C.mono ?_; rintro e w' ⟨rfl, rfl⟩)
    refine D.mono ?_
    rintro e w1 ⟨x, xm, rfl, hX, _, hB⟩
    go_wp2_with (go_at_call 138; refine (prog_value x xm _ _ hx o wo w1 hX).mono ?_; rintro e w' ⟨rfl, m, rfl⟩)
    go_ret
    exact ⟨rfl, below_drewN hB m⟩
  | false =>
    have C := find_no G bb sb S _ b hr w h
    have E : Hid ((S.W b c).val o = 0) := by rw [hS.wout b c (fun g => by rw [(hS.kin _ g).1] at hr; cases hr)]; exact e0_val o
    clear hr h
    go_enter Tryz.func82, Tryz.ntmps82
    go_wp2_with (go_at_call 50; refine C.mono ?_; rintro e w' ⟨rfl, rfl⟩)
    go_ret
    exact ⟨ret_int E.out.symm, Below.refl _ _⟩
end Go.Proofs.YtaihcceobnfmhaaGreatDoor

namespace Go.Proofs.YtaihcceobnfmhaaGreatDoor
open Go.RowKit Go.Maps

/-! one baker turned, or none -/
theorem PSk.turned {F : Nat → Prop} {G : Int → Nat → Prop} {bb : Int → Nat} {w w' : World} {sb g : Nat} {S S' : Sk} (hf : ∀ k, F k ↔ k = sb ∨ ∃ b, G b k) (h : PSkAt G bb w sb S (fun _ => g)) {b : Int} (hr : S.R b = true) {G' : Nat → Prop} {P' : St} {W' : Int → St}
    (hB : Bkr G' w' (bb b) P' W' (g + 4)) (hM : Moved (G b) G' w w') (hR : ∀ i, S'.R i = S.R i) (hP : S'.P b = P') (hW : S'.W b = W') (hPo : ∀ i, i ≠ b → S'.P i = S.P i) (hWo : ∀ i, i ≠ b → S'.W i = S.W i) : ∃ F', PSk F' w' sb S' (g + 4) ∧ Moved F F' w w' :=
  ⟨_, (h.turn hr hB hM hR hP hW hPo hWo).sk (fun i => by
    by_cases e : i = b
    · subst e; rw [set1_same]; exact Nat.le_refl _
    · rw [set1_other _ _ _ _ e]; omega), moved_turn hf hM⟩
theorem PSk.same {F : Nat → Prop} {G : Int → Nat → Prop} {bb : Int → Nat} {w w' : World} {sb g : Nat} {S : Sk} (hf : ∀ k, F k ↔ k = sb ∨ ∃ b, G b k) (h : PSkAt G bb w sb S (fun _ => g)) (hB : Below w.heap.size w w') : ∃ F', PSk F' w' sb S (g + 4) ∧ Moved F F' w w' :=
  ⟨F, PSk.more ⟨G, bb, hf, h.below hB⟩ (by omega), KeptP.of_below hB, fun _ _ g => g⟩
theorem Bkr.poolTurned {F : Nat → Prop} {tag : Nat → Tg} {w w' : World} {bb p pm wm g : Nat} {P P' : St} {H : Int → Bool} {q qm : Int → Nat} {W : Int → St} (hf : ∀ k, F k ↔ tag k ≠ Tg.no) (hb : BkAt tag w bb p pm wm P g H q qm W (fun _ => g)) (hq : OwnQ w wm H q g)
    (h0 : ∀ c, H c = false → W c = e0) (hcy : ∀ c, H c = true → Cy c) (hP : PoolAt w' p pm P' (g + 4)) (hK : Kept [p, pm] w w') : Bkr F w' bb P' W (g + 4) ∧ Moved F F w w' := by
  obtain ⟨hb', hT⟩ := hb.poolTurned hK hP
  exact ⟨⟨tag, p, pm, wm, H, q, qm, hf, hb'.congr (fun _ _ => rfl) (fun _ _ => Nat.le_add_right _ _), (hq.of_block (hT.block wm hq.lt (by rw [hb.tm]; intro e; cases e))).more (by omega), h0, hcy⟩, hT.mono (fun k _ e => (hf k).2 (by rw [e]; intro i; cases i)), fun _ _ g => g⟩

theorem Bkr.poolTurned0 {F : Nat → Prop} {tag : Nat → Tg} {w w' : World} {bb p pm wm g : Nat} {P P' : St} {H : Int → Bool} {q qm : Int → Nat} {W : Int → St} (hf : ∀ k, F k ↔ tag k ≠ Tg.no) (hb : BkAt tag w bb p pm wm P g H q qm W (fun _ => g)) (hq : OwnQ w wm H q g)
    (h0 : ∀ c, H c = false → W c = e0) (hcy : ∀ c, H c = true → Cy c) (hP : PoolAt w' p pm P' g) (hK : Kept [p, pm] w w') : Bkr F w' bb P' W g ∧ Moved F F w w' := by
  obtain ⟨hb', hT⟩ := hb.poolTurned hK hP
  exact ⟨⟨tag, p, pm, wm, H, q, qm, hf, hb', hq.of_block (hT.block wm hq.lt (by rw [hb.tm]; intro e; cases e)), h0, hcy⟩, hT.mono (fun k _ e => (hf k).2 (by rw [e]; intro i; cases i)), fun _ _ g => g⟩

/-! new stakes -/
theorem ps_new (w : World) :
    Calls Tryz.prog 88 #[] w fun e w' => ∃ sb F, e = .returned (.pointer (some ⟨sb, 0, none⟩)) ∧ PSk F w' sb Sk.none 0 ∧ (∀ k, F k → w.heap.size ≤ k) ∧ Below w.heap.size w w' := by
  go_enter Tryz.func88, Tryz.ntmps88
  go_wp2
  go_ret
  refine ⟨w.heap.size, fun k => k = w.heap.size, rfl, ⟨fun _ _ => False, fun _ => 0, fun k => ⟨.inl, fun g => g.elim (fun e => e) (fun ⟨_, e⟩ => e.elim)⟩, fun b hb => ?_, fun b hb => World.frozen?_alloc_at _ _ _ _ rfl, fun _ e => (by cases e), fun _ _ _ e => e, fun _ _ _ e => e.elim, fun _ _ e => e.elim⟩, fun k e => by rw [e]; exact Nat.le_refl _, (Below.refl _ _).alloc (Nat.le_refl _) _⟩
  have : b = 0 ∨ b = 1 ∨ b = 2 := by omega
  rcases this with rfl | rfl | rfl <;> exact cell_new _ _ _ _ _ _ rfl rfl

/-! a new baker -/
theorem bkr_fresh {w : World} {nb pb pm m : Nat} (c0 : w.cell? ⟨nb, 0, none⟩ = some (.pointer (some ⟨pb, 0, none⟩))) (c1 : w.cell? ⟨nb, 1, none⟩ = some (.map (some m))) (f0 : w.frozen? ⟨nb, 0, none⟩ = false) (hP : PoolAt w pb pm e0 0) (hq : OwnQ w m (fun _ => false) (fun _ => 0) 0) (hne : m ≠ pm) :
    Bkr (fun k => k = nb ∨ k = pb ∨ k = pm ∨ k = m) w nb e0 (fun _ => e0) 0 := by
  have n1 : nb ≠ pb := fun e => by rw [e, hP.c0] at c0; cases c0
  have n2 : nb ≠ pm := fun e => by rw [e, hP.own.no_cell] at c0; cases c0
  have n3 : nb ≠ m := fun e => by rw [e, hq.no_cell] at c0; cases c0
  have n4 : m ≠ pb := fun e => by have := hq.no_cell 0; rw [e, hP.c0] at this; cases this
  have n5 := hP.ne
  have ltp := hP.lt
  refine ⟨fun k => if k = nb then .base else if k = pb ∨ k = pm then .pool else if k = m then .wmap else .no, pb, pm, m, fun _ => false, fun _ => 0, fun _ => 0, fun k => ?_, ⟨c0, c1, f0, if_pos rfl, ?_, ?_, ?_, hP, fun c hc => (by cases hc), fun k hk => ?_⟩, hq, fun _ _ => rfl, fun c hc => (by cases hc)⟩
  · show _ ↔ (if k = nb then Tg.base else if k = pb ∨ k = pm then .pool else if k = m then .wmap else .no) ≠ .no
    by_cases e1 : k = nb
    · rw [if_pos e1]; exact ⟨fun _ e => (by cases e), fun _ => .inl e1⟩
    · rw [if_neg e1]
      by_cases e2 : k = pb ∨ k = pm
      · rw [if_pos e2]; exact ⟨fun _ e => (by cases e), fun _ => .inr (e2.elim .inl (fun e => .inr (.inl e)))⟩
      · rw [if_neg e2]
        by_cases e3 : k = m
        · rw [if_pos e3]; exact ⟨fun _ e => (by cases e), fun _ => .inr (.inr (.inr e3))⟩
        · rw [if_neg e3]; exact ⟨fun g => by omega, fun g => absurd rfl g⟩
  · show (if pb = nb then Tg.base else if pb = pb ∨ pb = pm then .pool else if pb = m then .wmap else .no) = .pool
    rw [if_neg n1.symm, if_pos (.inl rfl)]
  · show (if pm = nb then Tg.base else if pm = pb ∨ pm = pm then .pool else if pm = m then .wmap else .no) = .pool
    rw [if_neg n2.symm, if_pos (.inr rfl)]
  · show (if m = nb then Tg.base else if m = pb ∨ m = pm then .pool else if m = m then .wmap else .no) = .wmap
    rw [if_neg n3.symm, if_neg (by omega), if_pos rfl]
  · have lb := cell_lt (a := ⟨nb, 0, none⟩) c0
    have lm := hq.lt
    have hk' : (if k = nb then Tg.base else if k = pb ∨ k = pm then .pool else if k = m then .wmap else .no) ≠ .no := hk
    by_cases e1 : k = nb
    · rw [e1]; exact lb
    · rw [if_neg e1] at hk'
      by_cases e2 : k = pb ∨ k = pm
      · omega
      · rw [if_neg e2] at hk'
        by_cases e3 : k = m
        · rw [e3]; exact lm
        · rw [if_neg e3] at hk'; exact absurd rfl hk'
theorem PSk.registered {F : Nat → Prop} {G : Int → Nat → Prop} {bb : Int → Nat} {w w3 : World} {sb g k : Nat} {S : Sk} (hS : S.Ok) (hf : ∀ k, F k ↔ k = sb ∨ ∃ b, G b k) (h : PSkAt G bb w sb S (fun _ => g)) (hk : k < 3) (hr : S.R k = false) {G' : Nat → Prop} {nb : Nat}
    (hB3 : Below w.heap.size w w3) (hB : Bkr G' w3 nb e0 (fun _ => e0) 0) (hG : ∀ k, G' k → w.heap.size ≤ k) (hc : S.regC k = 0) :
    ∃ F', PSk F' (w3.setCell ⟨sb, k, none⟩ (.pointer (some ⟨nb, 0, none⟩))) sb (S.reg k) (g + 4) ∧ Moved F F' w (w3.setCell ⟨sb, k, none⟩ (.pointer (some ⟨nb, 0, none⟩))) := by
  have hs := h.base
  have h3 := h.below hB3
  have K : KeptP (fun i => i = sb) w3 (w3.setCell ⟨sb, k, none⟩ (.pointer (some ⟨nb, 0, none⟩))) := (KeptP.refl (fun i => i = sb) w3).setCell (p := ⟨sb, k, none⟩) rfl _
  have ec : S.reg k = ⟨set1 S.R k true, S.P, S.K, S.W⟩ := if_pos hc
  have pe : S.P k = e0 := hS.pout k hr
  have we : S.W k = fun _ => e0 := funext fun c => hS.wout k c (fun g => by rw [(hS.kin _ g).1] at hr; cases hr)
  rw [ec]
  refine ⟨owns (set1 G k G') sb, ⟨set1 G k G', set1 bb k nb, fun _ => Iff.rfl, fun i hi => ?_, fun i hi => ?_, fun i hi => ?_, fun i hi j gj => ?_, fun i j x gi gj => ?_, fun i x gx => ?_⟩, ⟨?_, fun x hx gx => (hf x).2 ?_⟩⟩
  · by_cases e : i = k
    · subst e
      rw [World.cell?_setCell_same _ _ _ (h3.c i hi)]
      show _ = some (Value.pointer (if set1 S.R i true i = true then some ⟨set1 bb i nb i, 0, none⟩ else none))
      rw [set1_same, set1_same, if_pos rfl]
    · rw [World.cell?_setCell_other _ _ _ _ (by intro h; cases h; exact e rfl)]
      have ei : (i : Int) ≠ k := by omega
      show _ = some (Value.pointer (if set1 S.R k true i = true then some ⟨set1 bb k nb i, 0, none⟩ else none))
      rw [set1_other _ _ _ _ ei, set1_other _ _ _ _ ei]
      exact h3.c i hi
  · rw [World.frozen?_setCell]; exact h3.f i hi
  · by_cases e : i = k
    · subst e
      rw [set1_same, set1_same]
      show Bkr G' _ nb (S.P k) (S.W k) (g + 4)
      rw [pe, we]
      exact (hB.keptP K (fun j ej gj => by have := hG j gj; omega)).more (by omega)
    · rw [set1_other _ _ _ _ e, set1_other _ _ _ _ e]
      have hi' : S.R i = true := by have h1 : set1 S.R k true i = true := hi; rw [set1_other _ _ _ _ e] at h1; exact h1
      exact ((h3.bk i hi').keptP K (fun j ej gj => h.nsb i j gj ej)).more (by omega)
  · have h1 : set1 S.R k true i = false := hi
    have e : i ≠ k := fun e => by rw [e, set1_same] at h1; cases h1
    rw [set1_other _ _ _ _ e] at h1 gj
    exact h.out i h1 j gj
  · by_cases e : i = k <;> by_cases e2 : j = k
    · rw [e, e2]
    · rw [e, set1_same] at gi
      rw [set1_other _ _ _ _ e2] at gj
      have := hG x gi
      have := h.lt gj
      omega
    · rw [e2, set1_same] at gj
      rw [set1_other _ _ _ _ e] at gi
      have := hG x gj
      have := h.lt gi
      omega
    · rw [set1_other _ _ _ _ e] at gi
      rw [set1_other _ _ _ _ e2] at gj
      exact h.apart i j x gi gj
  · by_cases e : i = k
    · rw [e, set1_same] at gx
      have := hG x gx
      omega
    · rw [set1_other _ _ _ _ e] at gx
      exact h.nsb i x gx
  · exact (KeptP.of_below hB3).trans K (fun i _ e => (hf i).2 (.inl e))
  · rcases gx with e | ⟨i, gi⟩
    · exact .inl e
    · by_cases e : i = k
      · rw [e, set1_same] at gi
        have := hG x gi
        omega
      · rw [set1_other _ _ _ _ e] at gi
        exact .inr ⟨i, gi⟩
theorem own_fresh (w : World) : OwnQ (w.alloc (.map #[] 0)) w.heap.size (fun _ => false) (fun _ => 0) 0 := ⟨0, .map [], World.ownsMap_made w _ _ _, Nat.le_refl _, fun _ => rfl, fun _ h => (by cases h)⟩
/-- an act's end: a code, the stakes that come of it -/
def ActEnd (F : Nat → Prop) (sb g : Nat) (S' : Sk) (c : Int) (A : Nat → Addr) (w : World) (e : Ending) (w' : World) : Prop := ∃ ev F', e = .returned ev ∧ ErrIs A ev c ∧ PSk F' w' sb S' (g + 4) ∧ Moved F F' w w'
theorem ActEnd.of {F : Nat → Prop} {sb g : Nat} {S' : Sk} {c : Int} {A : Nat → Addr} {w w' : World} {ev : Value} (hE : ErrIs A ev c) (h : ∃ F', PSk F' w' sb S' (g + 4) ∧ Moved F F' w w') : ActEnd F sb g S' c A w (.returned ev) w' := by
  obtain ⟨F', h1, h2⟩ := h
  exact ⟨ev, F', rfl, hE, h1, h2⟩
theorem slot_kept {w w' : World} {a : Addr} {v : Value} (hB : Below w.heap.size w w') (hc : w.cell? a = some v) (hf : w.frozen? a = false) : w'.cell? a = some v ∧ w'.frozen? a = false := by
  refine ⟨old_cell hB hc, ?_⟩
  rw [hB.frozen (cell_lt hc)]; exact hf
theorem slot_alloc {w : World} {a : Addr} {v : Value} (hc : w.cell? a = some v) (hf : w.frozen? a = false) (o : Obj) : (w.alloc o).cell? a = some v ∧ (w.alloc o).frozen? a = false := slot_kept ((Below.refl _ _).alloc (Nat.le_refl _) _) hc hf
/-- a new baker in memory, its map made behind its pool, or ahead of it -/
theorem new_baker1 {F : Nat → Prop} {G : Int → Nat → Prop} {bb : Int → Nat} {w w2 : World} {sb g k pb pm : Nat} {S : Sk} (hS : S.Ok) (hf : ∀ k, F k ↔ k = sb ∨ ∃ b, G b k) (h : PSkAt G bb w sb S (fun _ => g)) (hk : k < 3) (hr : S.R k = false) (hc : S.regC k = 0) (hB : Below w.heap.size w w2)
    (hpb : w.heap.size ≤ pb) (hpm : w.heap.size ≤ pm) (hP : PoolAt w2 pb pm ⟨0, fun _ => 0⟩ 0) (t : TypeId) :
    ∃ F', PSk F' (((w2.alloc (.map #[] 0)).alloc (.cells #[.pointer (some ⟨pb, 0, none⟩), .map (some w2.heap.size)] t)).setCell ⟨sb, k, none⟩ (.pointer (some ⟨w2.heap.size + 1, 0, none⟩))) sb (S.reg k) (g + 4) ∧
      Moved F F' w (((w2.alloc (.map #[] 0)).alloc (.cells #[.pointer (some ⟨pb, 0, none⟩), .map (some w2.heap.size)] t)).setCell ⟨sb, k, none⟩ (.pointer (some ⟨w2.heap.size + 1, 0, none⟩))) := by
  have hs := hB.size
  have lt := hP.lt
  have e1 : (w2.alloc (.map #[] 0)).heap.size = w2.heap.size + 1 := by simp
  have B1 : Below w2.heap.size w2 (w2.alloc (.map #[] 0)) := (Below.refl _ _).alloc (Nat.le_refl _) _
  have B2 : Below (w2.alloc (.map #[] 0)).heap.size (w2.alloc (.map #[] 0)) ((w2.alloc (.map #[] 0)).alloc (.cells #[.pointer (some ⟨pb, 0, none⟩), .map (some w2.heap.size)] t)) := (Below.refl _ _).alloc (Nat.le_refl _) _
  have B3 : Below w.heap.size w ((w2.alloc (.map #[] 0)).alloc (.cells #[.pointer (some ⟨pb, 0, none⟩), .map (some w2.heap.size)] t)) := (hB.alloc hs _).alloc (by omega) _
  have hP3 := (hP.keptP (KeptP.of_below (F := fun _ => False) B1) (fun g => g) (fun g => g)).keptP (KeptP.of_below (F := fun _ => False) B2) (fun g => g) (fun g => g)
  have hq3 := (own_fresh w2).of_block (B2.block w2.heap.size (by omega))
  refine PSk.registered hS hf h hk hr B3 (bkr_fresh (pm := pm) (cell_new _ _ _ _ _ _ e1.symm rfl) (cell_new _ _ _ _ _ _ e1.symm rfl) (World.frozen?_alloc_at _ _ _ _ e1.symm) hP3 hq3 (by omega)) (fun i hi => ?_) hc
  omega
theorem new_baker2 {F : Nat → Prop} {G : Int → Nat → Prop} {bb : Int → Nat} {w w2 : World} {sb g k pb pm : Nat} {S : Sk} (hS : S.Ok) (hf : ∀ k, F k ↔ k = sb ∨ ∃ b, G b k) (h : PSkAt G bb w sb S (fun _ => g)) (hk : k < 3) (hr : S.R k = false) (hc : S.regC k = 0) (hB : Below (w.alloc (.map #[] 0)).heap.size (w.alloc (.map #[] 0)) w2)
    (hpb : (w.alloc (.map #[] 0)).heap.size ≤ pb) (hpm : (w.alloc (.map #[] 0)).heap.size ≤ pm) (hP : PoolAt w2 pb pm ⟨0, fun _ => 0⟩ 0) (t : TypeId) :
    ∃ F', PSk F' ((w2.alloc (.cells #[.pointer (some ⟨pb, 0, none⟩), .map (some w.heap.size)] t)).setCell ⟨sb, k, none⟩ (.pointer (some ⟨w2.heap.size, 0, none⟩))) sb (S.reg k) (g + 4) ∧
      Moved F F' w ((w2.alloc (.cells #[.pointer (some ⟨pb, 0, none⟩), .map (some w.heap.size)] t)).setCell ⟨sb, k, none⟩ (.pointer (some ⟨w2.heap.size, 0, none⟩))) := by
  have hs := hB.size
  have lt := hP.lt
  have e1 : (w.alloc (.map #[] 0)).heap.size = w.heap.size + 1 := by simp
  have B0 : Below w.heap.size w (w.alloc (.map #[] 0)) := (Below.refl _ _).alloc (Nat.le_refl _) _
  have B1 : Below w.heap.size w w2 := B0.trans (hB.mono (by omega))
  have B2 : Below w2.heap.size w2 (w2.alloc (.cells #[.pointer (some ⟨pb, 0, none⟩), .map (some w.heap.size)] t)) := (Below.refl _ _).alloc (Nat.le_refl _) _
  have B3 : Below w.heap.size w (w2.alloc (.cells #[.pointer (some ⟨pb, 0, none⟩), .map (some w.heap.size)] t)) := B1.alloc B1.size _
  have hP3 := hP.keptP (KeptP.of_below (F := fun _ => False) B2) (fun g => g) (fun g => g)
  have hq3 := ((own_fresh w).of_block (hB.block w.heap.size (by omega))).of_block (B2.block w.heap.size (by omega))
  refine PSk.registered hS hf h hk hr B3 (bkr_fresh (pm := pm) (cell_new _ _ _ _ _ _ rfl rfl) (cell_new _ _ _ _ _ _ rfl rfl) (World.frozen?_alloc_at _ _ _ _ rfl) hP3 hq3 (by omega)) (fun i hi => ?_) hc
  omega
set_option maxRecDepth 100000 in
set_option maxHeartbeats 2000000 in
theorem ps_register (F : Nat → Prop) (sb : Nat) (S : Sk) (hS : S.Ok) (g : Nat) (_hg : g ≤ 900000) (b : Int) (A : Nat → Addr) (w : World) (hL : StkLaid w A) (h : PSk F w sb S g) :
    Calls Tryz.prog 90 #[.pointer (some ⟨sb, 0, none⟩), .int .i64 b] w (ActEnd F sb g (S.reg b) (S.regC b) A w) := by
  obtain ⟨G, bb, hf, h⟩ := h
  have I := is_at G bb sb S hS _ b w h
  have v1 := hL.v1
  have v4 := hL.v4
  by_cases hb : Bk b
  · have B := baker_yes b hb.1 hb.2
    cases hr : S.R b with
    | true =>
      have hc : S.regC b = 5 := by unfold Sk.regC; rw [if_neg (fun g => g hb), hr]; rfl
      have HC := hide hc
      have HE := hide (show S.reg b = S from if_neg (by omega))
      rw [hr] at I
      clear hr hb hc
      go_enter Tryz.func90, Tryz.ntmps90
      go_wp2_with (first | (go_at_call 112; refine (B _).mono ?_; rintro e w' ⟨rfl, rfl⟩) | (go_at_call 144; refine I.mono ?_; rintro e w' ⟨rfl, rfl⟩))
      go_ret
      exact ActEnd.of (ErrIs.is 4 (by omega) HC.out) (by rw [HE.out]; exact PSk.same hf h (Below.refl _ _))
    | false =>
      have hc : S.regC b = 0 := by unfold Sk.regC; rw [if_neg (fun g => g hb), hr]; rfl
      rw [hr] at I
      obtain ⟨b0, b3⟩ := hb
      obtain ⟨k, rfl⟩ : ∃ k : Nat, b = k := ⟨b.toNat, by omega⟩
      have hk : k < 3 := by omega
      have hc0 := h.c k hk
      rw [hr] at hc0
      simp only [Bool.false_eq_true, if_false] at hc0
      have f0 := h.f k hk
      have HC := hide hc
      have HR := hide hr
      have hmm := @run_makeMap Tryz.prog
      have hsz := h.base
      clear hr hc
      go_enter Tryz.func90, Tryz.ntmps90
      go_wp2_with (first | (go_at_call 112; refine (B _).mono ?_; rintro e w' ⟨rfl, rfl⟩) | (go_at_call 144; refine I.mono ?_; rintro e w' ⟨rfl, rfl⟩))
      go_region_held3 (fun _ => True) (exact trivial)
        ((go_at_call 145; refine (prog_new _).mono ?_; rintro e w2 ⟨pb, pm, rfl, hpb, hpm, hP2, hB2⟩; have d0 : w2.cell? ⟨sb, k, none⟩ = some (.pointer none) ∧ w2.frozen? ⟨sb, k, none⟩ = false := (by first | exact slot_kept (w := w') (below_of_drew hB2) hc0 f0 | exact slot_kept (w := w'.alloc (.map #[] 0)) (below_of_drew hB2) (slot_alloc hc0 f0 _).1 (slot_alloc hc0 f0 _).2); have d1 : ∀ o, (w2.alloc o).cell? ⟨sb, k, none⟩ = some (.pointer none) := (fun o => (slot_alloc d0.1 d0.2 o).1); have d2 : ∀ o, (w2.alloc o).frozen? ⟨sb, k, none⟩ = false := (fun o => (slot_alloc d0.1 d0.2 o).2); have d3 : ∀ o o', ((w2.alloc o).alloc o').cell? ⟨sb, k, none⟩ = some (.pointer none) := (fun o o' => (slot_alloc (d1 o) (d2 o) o').1); have d4 : ∀ o o', ((w2.alloc o).alloc o').frozen? ⟨sb, k, none⟩ = false := (fun o o' => (slot_alloc (d1 o) (d2 o) o').2)))
      · go_wp2
        go_ret
        exact ActEnd.of (ErrIs.no HC.out) (new_baker1 hS hf h hk HR.out HC.out (below_of_drew hB2) hpb hpm hP2 _)
      · go_wp2
        go_ret
        exact ActEnd.of (ErrIs.no HC.out) (new_baker2 hS hf h hk HR.out HC.out (below_of_drew hB2) hpb hpm hP2 _)
  · have B := baker_no b hb
    have hc : S.regC b = 2 := if_pos hb
    have HC := hide hc
    have HE := hide (show S.reg b = S from if_neg (by omega))
    clear hb hc
    go_enter Tryz.func90, Tryz.ntmps90
    go_wp2_with (go_at_call 112; refine (B _).mono ?_; rintro e w' ⟨rfl, rfl⟩)
    go_ret
    exact ActEnd.of (ErrIs.is 1 (by omega) HC.out) (by rw [HE.out]; exact PSk.same hf h (Below.refl _ _))

/-! acts on a baker's pool -/
set_option maxRecDepth 100000 in
theorem ps_join (F : Nat → Prop) (sb : Nat) (S : Sk) (hS : S.Ok) (g : Nat) (hg : g ≤ 900000) (o b n : Int) (wo : (Lit.int .i64 o).wf = true) (A : Nat → Addr) (w : World) (hL : StkLaid w A) (h : PSk F w sb S g) :
    Calls Tryz.prog 147 #[.pointer (some ⟨sb, 0, none⟩), .int .i64 o, .int .i64 b, .int .i64 n] w (ActEnd F sb g (S.join o b n) (S.joinC o b n) A w) := by
  obtain ⟨G, bb, hf, h⟩ := h
  cases hr : S.R b with
  | true =>
    have C := find_yes G bb sb S hS _ b hr w h
    obtain ⟨tag, p, pm, wm, H, q, qm, hF, hb, hq, h0, hcy⟩ := h.bk b hr
    have c0 := hb.c0
    have T := prog_join p pm _ _ (hS.pok b) o n wo (by omega) A true w hL.pool hb.pool
    have e1 : Hid (S.joinC o b n = (S.P b).joinC o n) := if_pos hr
    have e2 : Hid (S.join o b n = ⟨S.R, set1 S.P b ((S.P b).join o n), S.K, S.W⟩) := if_pos hr
    have HR := hide hr
    have HB := hide hb
    clear hr hb
    go_enter Tryz.func147, Tryz.ntmps147
    go_wp2_with (go_at_call 50; refine C.mono ?_; rintro e w' ⟨rfl, rfl⟩)
    refine T.mono ?_
    rintro e w1 ⟨ev, rfl, hE, hP1, hK1⟩
    go_wp2
    go_ret
    obtain ⟨hB1, hM1⟩ := Bkr.poolTurned hF HB.out hq h0 hcy hP1 hK1
    rw [e1.out, e2.out]
    exact ActEnd.of hE (PSk.turned hf h HR.out hB1 hM1 (fun _ => rfl) (set1_same ..) rfl (fun i hi => set1_other _ _ _ _ hi) (fun _ _ => rfl))
  | false =>
    have C := find_no G bb sb S _ b hr w h
    have v3 := hL.v3
    have e1 : Hid (S.joinC o b n = 4) := if_neg (by rw [hr]; decide)
    have e2 : Hid (S.join o b n = S) := if_neg (by rw [hr]; decide)
    clear hr
    go_enter Tryz.func147, Tryz.ntmps147
    go_wp2_with (go_at_call 50; refine C.mono ?_; rintro e w' ⟨rfl, rfl⟩)
    go_ret
    exact ActEnd.of (ErrIs.is 3 (by omega) e1.out) (by rw [e2.out]; exact PSk.same hf h (Below.refl _ _))
set_option maxRecDepth 100000 in
theorem ps_add (F : Nat → Prop) (sb : Nat) (S : Sk) (hS : S.Ok) (g : Nat) (_hg : g ≤ 900000) (b n : Int) (A : Nat → Addr) (w : World) (hL : StkLaid w A) (h : PSk F w sb S g) :
    Calls Tryz.prog 104 #[.pointer (some ⟨sb, 0, none⟩), .int .i64 b, .int .i64 n] w (ActEnd F sb g (S.add b n) (S.addC b n) A w) := by
  obtain ⟨G, bb, hf, h⟩ := h
  cases hr : S.R b with
  | true =>
    have C := find_yes G bb sb S hS _ b hr w h
    obtain ⟨tag, p, pm, wm, H, q, qm, hF, hb, hq, h0, hcy⟩ := h.bk b hr
    have c0 := hb.c0
    have T := prog_add p pm _ _ (hS.pok b) n A true w hL.pool hb.pool
    have e1 : Hid (S.addC b n = (S.P b).addC n) := if_pos hr
    have e2 : Hid (S.add b n = ⟨S.R, set1 S.P b ((S.P b).add n), S.K, S.W⟩) := if_pos hr
    have HR := hide hr
    have HB := hide hb
    clear hr hb
    go_enter Tryz.func104, Tryz.ntmps104
    go_wp2_with (go_at_call 50; refine C.mono ?_; rintro e w' ⟨rfl, rfl⟩)
    refine T.mono ?_
    rintro e w1 ⟨ev, rfl, hE, hP1, hK1⟩
    go_wp2
    go_ret
    obtain ⟨hB1, hM1⟩ := Bkr.poolTurned hF HB.out hq h0 hcy hP1 hK1
    rw [e1.out, e2.out]
    exact ActEnd.of hE (PSk.turned hf h HR.out hB1 hM1 (fun _ => rfl) (set1_same ..) rfl (fun i hi => set1_other _ _ _ _ hi) (fun _ _ => rfl))
  | false =>
    have C := find_no G bb sb S _ b hr w h
    have v3 := hL.v3
    have e1 : Hid (S.addC b n = 4) := if_neg (by rw [hr]; decide)
    have e2 : Hid (S.add b n = S) := if_neg (by rw [hr]; decide)
    clear hr
    go_enter Tryz.func104, Tryz.ntmps104
    go_wp2_with (go_at_call 50; refine C.mono ?_; rintro e w' ⟨rfl, rfl⟩)
    go_ret
    exact ActEnd.of (ErrIs.is 3 (by omega) e1.out) (by rw [e2.out]; exact PSk.same hf h (Below.refl _ _))
theorem set2_row {α : Type} (f : Int → Int → α) (b c : Int) (v : α) : set2 f b c v b = set1 (f b) c v := by
  funext j
  unfold set2 set1
  by_cases e : j = c
  · rw [if_pos ⟨rfl, e⟩, if_pos e]
  · rw [if_neg (fun g => e g.2), if_neg e]
theorem set2_rows {α : Type} (f : Int → Int → α) (b c : Int) (v : α) (i : Int) (h : i ≠ b) : set2 f b c v i = f i := funext fun _ => if_neg fun g => h g.1
set_option maxRecDepth 100000 in
theorem ps_leave (F : Nat → Prop) (sb : Nat) (S : Sk) (hS : S.Ok) (g : Nat) (hg : g ≤ 900000) (o b n c : Int) (wo : (Lit.int .i64 o).wf = true) (_wc : (Lit.int .i64 c).wf = true) (A : Nat → Addr) (w : World) (hL : StkLaid w A) (h : PSk F w sb S g) :
    Calls Tryz.prog 114 #[.pointer (some ⟨sb, 0, none⟩), .int .i64 o, .int .i64 b, .int .i64 n, .int .i64 c] w (ActEnd F sb g (S.leave o b n c) (S.leaveC o b n c) A w) := by
  obtain ⟨G, bb, hf, h⟩ := h
  have v1 := hL.v1
  have v3 := hL.v3
  cases hr : S.R b with
  | true =>
    have C := find_yes G bb sb S hS _ b hr w h
    by_cases hc : Cy c
    · have D := cycle_yes c hc.1 hc.2
      have T := bk_unstake (G b) (bb b) g (S.P b) (S.W b) (hS.pok b) (hS.wok b) hg o n c wo hc A w hL.pool (h.bk b hr)
      have e1 : Hid (S.leaveC o b n c = ustC (S.P b) (S.W b) o n c) := (if_pos hr).trans (if_neg (fun g => g hc))
      have HR := hide hr
      clear hr hc
      go_enter Tryz.func114, Tryz.ntmps114
      go_wp2_with (first | (go_at_call 50; refine C.mono ?_; rintro e w' ⟨rfl, rfl⟩) | (go_at_call 93; refine (D _).mono ?_; rintro e w' ⟨rfl, rfl⟩))
      refine T.mono ?_
      rintro e w1 ⟨ev, G', rfl, hE, hB1, hM1⟩
      go_wp2
      go_ret
      rw [e1.out]
      refine ActEnd.of hE ?_
      by_cases hz : ustC (S.P b) (S.W b) o n c = 0
      · rw [if_pos hz] at hB1
        have e2 : S.leave o b n c = ⟨S.R, set1 S.P b ((S.P b).take o n), keyed2 S.K b c, set2 S.W b c ((S.W b c).join o n)⟩ := if_pos (e1.out.trans hz)
        rw [e2]
        exact PSk.turned hf h HR.out hB1 hM1 (fun _ => rfl) (set1_same ..) (set2_row ..) (fun i hi => set1_other _ _ _ _ hi) (fun i hi => set2_rows _ _ _ _ _ hi)
      · rw [if_neg hz] at hB1
        have e2 : S.leave o b n c = S := if_neg (fun e => hz (e1.out.symm.trans e))
        rw [e2]
        exact PSk.turned hf h HR.out hB1 hM1 (fun _ => rfl) rfl rfl (fun _ _ => rfl) (fun _ _ => rfl)
    · have D := cycle_no c hc
      have e1 : Hid (S.leaveC o b n c = 2) := (if_pos hr).trans (if_pos hc)
      have e2 : Hid (S.leave o b n c = S) := if_neg (by rw [e1.out]; decide)
      clear hr hc
      go_enter Tryz.func114, Tryz.ntmps114
      go_wp2_with (first | (go_at_call 50; refine C.mono ?_; rintro e w' ⟨rfl, rfl⟩) | (go_at_call 93; refine (D _).mono ?_; rintro e w' ⟨rfl, rfl⟩))
      go_ret
      exact ActEnd.of (ErrIs.is 1 (by omega) e1.out) (by rw [e2.out]; exact PSk.same hf h (Below.refl _ _))
  | false =>
    have C := find_no G bb sb S _ b hr w h
    have e1 : Hid (S.leaveC o b n c = 4) := if_neg (by rw [hr]; decide)
    have e2 : Hid (S.leave o b n c = S) := if_neg (by rw [e1.out]; decide)
    clear hr
    go_enter Tryz.func114, Tryz.ntmps114
    go_wp2_with (go_at_call 50; refine C.mono ?_; rintro e w' ⟨rfl, rfl⟩)
    go_ret
    exact ActEnd.of (ErrIs.is 3 (by omega) e1.out) (by rw [e2.out]; exact PSk.same hf h (Below.refl _ _))
/-- an act's end that tells a number too -/
def ActEndN (F : Nat → Prop) (sb g : Nat) (S' : Sk) (n c : Int) (A : Nat → Addr) (w : World) (e : Ending) (w' : World) : Prop := ∃ ev F', e = .returned (.tuple #[.int .i64 n, ev]) ∧ ErrIs A ev c ∧ PSk F' w' sb S' (g + 4) ∧ Moved F F' w w'
theorem ActEndN.of {F : Nat → Prop} {sb g : Nat} {S' : Sk} {n n' c : Int} {A : Nat → Addr} {w w' : World} {ev : Value} (hn : n' = n) (hE : ErrIs A ev c) (h : ∃ F', PSk F' w' sb S' (g + 4) ∧ Moved F F' w w') : ActEndN F sb g S' n c A w (.returned (.tuple #[.int .i64 n', ev])) w' := by
  obtain ⟨F', h1, h2⟩ := h
  exact ⟨ev, F', by rw [hn], hE, h1, h2⟩
/-! slashing writes no map -/
set_option maxRecDepth 100000 in
set_option maxHeartbeats 1000000 in
theorem prog_slash0 (b m g : Nat) (x : St) (hx : x.Ok) (p : Int) (A : Nat → Addr) (sh : Bool) (w : World) (hL : PoolLaid w A sh) (h : PoolAt w b m x g) :
    Calls Tryz.prog 191 #[.pointer (some ⟨b, 0, none⟩), .int .i64 p] w fun e w' => ∃ ev, e = .returned (.tuple #[.int .i64 (x.slashN p), ev]) ∧ ErrIs A ev (x.slashC p) ∧ PoolAt w' b m (x.slash p) g ∧ Kept [b, m] w w' := by
  have c0 := h.c0
  have f0 := h.f0
  have t0 := hx.t0
  have t1 := hx.t1
  have v1 := hL.v1
  by_cases hp : 0 ≤ p ∧ p ≤ 100
  · have e1 := hide (St.slash_yes (x := x) hp)
    have bd := hx.slashN_bd p
    rw [e1.out.2.1] at bd
    have P := down_yes x.T p 100 ⟨t0, t1, hp.1, by omega, by omega, by omega⟩ (by omega)
    obtain ⟨p0, p1⟩ := hp
    go_enter Tryz.func191, Tryz.ntmps191
    go_wp2_with (go_at_call 60; refine (P _).mono ?_; rintro e w' ⟨rfl, n, rfl⟩)
    go_ret2
    refine ⟨.nilIface, ret_pair e1.out.2.1.symm _, ErrIs.no e1.out.1, by rw [e1.out.2.2]; exact (h.drewN n).setT _, ((Kept.refl _ _).drewN n).setCell (by simp) _⟩
  · have e1 := hide (St.slash_no (x := x) hp)
    by_cases p0 : 0 ≤ p
    · have p1 : 100 < p := by omega
      clear hp
      go_enter Tryz.func191, Tryz.ntmps191
      go_wp2
      go_quiet (fail)
      go_wp2
      go_ret2
      exact ⟨sent (A 1), ret_pair e1.out.2.1.symm _, ErrIs.is 1 (by omega) e1.out.1, h.stayN e1.out.2.2 (Nat.le_refl _) _⟩
    · clear hp
      go_enter Tryz.func191, Tryz.ntmps191
      go_wp2
      go_quiet (fail)
      go_wp2
      go_ret2
      exact ⟨sent (A 1), ret_pair e1.out.2.1.symm _, ErrIs.is 1 (by omega) e1.out.1, h.stayN e1.out.2.2 (Nat.le_refl _) _⟩
theorem slash_fold (S : Sk) (b f p : Int) : (sumK S.K fun b' c' => if b' = b then slN (S.W b) f p b' c' else 0) = sumK S.K fun b' c' => if b' = b ∧ f ≤ c' then (S.W b' c').slashN p else 0 := by
  refine sumK_congr _ fun k _ => ?_
  by_cases e : k.1 = b
  · rw [if_pos e]
    show (if f ≤ k.2 then (S.W b k.2).slashN p else 0) = _
    by_cases e2 : f ≤ k.2
    · rw [if_pos e2, if_pos ⟨e, e2⟩, e]
    · rw [if_neg e2, if_neg (fun g => e2 g.2)]
  · rw [if_neg e, if_neg (fun g => e g.1)]
set_option maxRecDepth 100000 in
set_option maxHeartbeats 1000000 in
theorem ps_slash (F : Nat → Prop) (sb : Nat) (S : Sk) (hS : S.Ok) (hK : S.K.length ≤ 900) (g : Nat) (hg : g ≤ 900000) (b f p : Int) (wf : (Lit.int .i64 f).wf = true) (A : Nat → Addr) (w : World) (hL : StkLaid w A) (h : PSk F w sb S g) :
    Calls Tryz.prog 154 #[.pointer (some ⟨sb, 0, none⟩), .int .i64 b, .int .i64 f, .int .i64 p] w (ActEndN F sb g (S.slash b f p) (S.slashN b f p) (S.slashC b p) A w) := by
  obtain ⟨G, bb, hf, h⟩ := h
  have v3 := hL.v3
  cases hr : S.R b with
  | true =>
    have C := find_yes G bb sb S hS _ b hr w h
    obtain ⟨tag, q0, qm0, wm, H, q, qm, hF, hb, hq, h0, hcy⟩ := h.bk b hr
    have c0 := hb.c0
    have T := prog_slash0 q0 qm0 g (S.P b) (hS.pok b) p A true w hL.pool hb.pool
    by_cases hp : 0 ≤ p ∧ p ≤ 100
    · have e1 : Hid (S.slashC b p = 0) := (if_pos hr).trans (if_pos hp)
      have e2 : Hid (S.slashN b f p = (S.P b).slashN p + sumK S.K (fun b' c' => if b' = b ∧ f ≤ c' then (S.W b' c').slashN p else 0)) := if_pos e1.out
      have e3 : Hid (S.slash b f p = ⟨S.R, set1 S.P b ((S.P b).slash p), S.K, fun b' c' => if b' = b ∧ f ≤ c' then (S.W b' c').slash p else S.W b' c'⟩) := if_pos e1.out
      have EC := hide (St.slash_yes (x := S.P b) hp).1
      have nb := (hS.pok b).slashN_bd p
      have nt := (hS.pok b).t1
      have HR := hide hr
      have HB := hide hb
      have sN : ∀ c : Int, 0 ≤ (S.W b c).slashN p ∧ (S.W b c).slashN p ≤ 1125899906842624 := fun c => by
        have := (hS.wok b c).slashN_bd p
        have := (hS.wok b c).t1
        omega
      have s0 : 0 ≤ (sumK S.K fun b' c' => if b' = b then slN (S.W b) f p b' c' else 0) := sumK_nonneg S.K fun k _ => by
        show 0 ≤ (if k.1 = b then (if f ≤ k.2 then (S.W b k.2).slashN p else 0) else 0)
        have := sN k.2
        split
        · split <;> omega
        · omega
      have s1 : (sumK S.K fun b' c' => if b' = b then slN (S.W b) f p b' c' else 0) ≤ S.K.length * 1125899906842624 := sumK_le S.K fun k _ => by
        show (if k.1 = b then (if f ≤ k.2 then (S.W b k.2).slashN p else 0) else 0) ≤ 1125899906842624
        have := sN k.2
        split
        · split <;> omega
        · omega
      have s2 : (sumK S.K fun b' c' => if b' = b then slN (S.W b) f p b' c' else 0) ≤ 1013309916158361600 := by omega
      have hn2 : (S.P b).slashN p ≤ 1125899906842624 := by omega
      have hn0 := nb.1
      have SF := hide (slash_fold S b f p)
      clear hr hb s1 nb nt sN
      go_enter Tryz.func154, Tryz.ntmps154
      go_wp2_with (go_at_call 50; refine C.mono ?_; rintro e w' ⟨rfl, rfl⟩)
      refine T.mono ?_
      rintro e w1 ⟨ev, rfl, hE, hP1, hK1⟩
      obtain rfl := hE.nil EC.out
      obtain ⟨hB1, hM1⟩ := Bkr.poolTurned0 hF HB.out hq h0 hcy hP1 hK1
      have L1 := hL.pool.kept HB.out.pool.apart hK1
      go_wp2_with fail
      refine (bk_slash (G b) (bb b) g _ (S.W b) (hS.wok b) hg f p hp wf S.K hS.knd hK b (fun c hc => hS.wout b c hc) A w1 L1 hB1).mono ?_
      rintro e w2 ⟨rfl, hB2, hM2⟩
      rw [← SF.out] at e2
      generalize (sumK S.K fun b' c' => if b' = b then slN (S.W b) f p b' c' else 0) = z at *
      go_wp2
      go_ret2
      refine ActEndN.of e2.out.symm (ErrIs.no e1.out) ?_
      rw [e3.out]
      refine PSk.turned hf h HR.out hB2 (hM1.trans hM2) (fun _ => rfl) (set1_same ..) ?_ (fun i hi => set1_other _ _ _ _ hi) (fun i hi => ?_)
      · funext c
        show (if b = b ∧ f ≤ c then (S.W b c).slash p else S.W b c) = (if f ≤ c then (S.W b c).slash p else S.W b c)
        by_cases e : f ≤ c
        · rw [if_pos ⟨rfl, e⟩, if_pos e]
        · rw [if_neg (fun g => e g.2), if_neg e]
      · funext c
        exact if_neg (fun g => hi g.1)
    · have e1 : Hid (S.slashC b p = 2) := (if_pos hr).trans (if_neg hp)
      have e2 : Hid (S.slashN b f p = 0) := if_neg (by rw [e1.out]; decide)
      have e3 : Hid (S.slash b f p = S) := if_neg (by rw [e1.out]; decide)
      have ES := hide (St.slash_no (x := S.P b) hp)
      have HR := hide hr
      have HB := hide hb
      clear hr hb hp
      go_enter Tryz.func154, Tryz.ntmps154
      go_wp2_with (go_at_call 50; refine C.mono ?_; rintro e w' ⟨rfl, rfl⟩)
      refine T.mono ?_
      rintro e w1 ⟨ev, rfl, hE, hP1, hK1⟩
      rw [ES.out.1, ← e1.out] at hE
      obtain ⟨i, rfl⟩ := hE.err (by rw [e1.out]; decide)
      rw [ES.out.2.2] at hP1
      obtain ⟨hB1, hM1⟩ := Bkr.poolTurned hF HB.out hq h0 hcy (hP1.more (Nat.le_add_right _ 4)) hK1
      go_wp2
      go_ret2
      refine ActEndN.of e2.out.symm hE ?_
      rw [e3.out]
      exact PSk.turned hf h HR.out hB1 hM1 (fun _ => rfl) rfl rfl (fun _ _ => rfl) (fun _ _ => rfl)
  | false =>
    have C := find_no G bb sb S _ b hr w h
    have e1 : Hid (S.slashC b p = 4) := if_neg (by rw [hr]; decide)
    have e2 : Hid (S.slashN b f p = 0) := if_neg (by rw [e1.out]; decide)
    have e3 : Hid (S.slash b f p = S) := if_neg (by rw [e1.out]; decide)
    clear hr
    go_enter Tryz.func154, Tryz.ntmps154
    go_wp2_with (go_at_call 50; refine C.mono ?_; rintro e w' ⟨rfl, rfl⟩)
    go_quiet (fail)
    go_wp2
    go_ret2
    exact ActEndN.of e2.out.symm (ErrIs.is 3 (by omega) e1.out) (by rw [e3.out]; exact PSk.same hf h (below_drewN (Below.refl _ _) _))
end Go.Proofs.YtaihcceobnfmhaaGreatDoor
