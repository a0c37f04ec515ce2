/-
  Sums over what waits, baker by baker, cycle by cycle, in any order.
  A baker of the program's by its contracts: what has waited is freed, and what waits is slashed, cycle by cycle in any order.
-/
import Derived.Test.YtaihcceobnfmhaaDoorPtrMapX
import Derived.Test.YtaihcceobnfmhaaDoorProgBkActsX
namespace Go.Proofs.YtaihcceobnfmhaaDoor

/-- the summands of one baker whose cycles are no longer to come -/
def sumB (K : List (Int × Int)) (b : Int) (left : Int → Bool) (f : Int → Int → Int) : Int := sumK K fun b' c' => if b' = b ∧ left c' = false then f b' c' else 0
theorem sumB_step {K : List (Int × Int)} (hn : K.Nodup) {b c : Int} {left : Int → Bool} {f : Int → Int → Int} (hl : left c = true) (h0 : (b, c) ∉ K → f b c = 0) : sumB K b (but left c) f = sumB K b left f + f b c := by
  have oth : ∀ k, k ≠ (b, c) → (if k.1 = b ∧ but left c k.2 = false then f k.1 k.2 else 0) = (if k.1 = b ∧ left k.2 = false then f k.1 k.2 else 0) := by
    intro k hk
    by_cases e : k.1 = b
    · have ec : k.2 ≠ c := fun e2 => hk (by rw [← e, ← e2])
      rw [but_other _ _ _ ec]
    · rw [if_neg (fun g => e g.1), if_neg (fun g => e g.1)]
  have hd : (if b = b ∧ left c = false then f b c else 0) = 0 := if_neg (fun g => by rw [hl] at g; cases g.2)
  have hd2 : (if b = b ∧ but left c c = false then f b c else 0) = f b c := if_pos ⟨rfl, but_same _ _⟩
  by_cases hm : (b, c) ∈ K
  · have e := sumK_one (f := fun b' c' => if b' = b ∧ left c' = false then f b' c' else 0) (g := fun b' c' => if b' = b ∧ but left c c' = false then f b' c' else 0) b c K hn hm (fun k _ ne => oth k ne)
    unfold sumB
    rw [e]
    show sumK K _ - (if b = b ∧ left c = false then f b c else 0) + (if b = b ∧ but left c c = false then f b c else 0) = _
    rw [hd, hd2]
    omega
  · rw [h0 hm]
    unfold sumB
    rw [sumK_congr (g := fun b' c' => if b' = b ∧ left c' = false then f b' c' else 0) K (fun k hk => oth k (fun e => hm (e ▸ hk)))]
    omega
theorem sumB_start {K : List (Int × Int)} {b : Int} {left : Int → Bool} {f : Int → Int → Int} (h : ∀ c, left c = false → f b c = 0) : sumB K b left f = 0 :=
  sumK_zero K fun k _ => by
    by_cases g : k.1 = b ∧ left k.2 = false
    · rw [if_pos g, g.1]; exact h _ g.2
    · exact if_neg g
theorem sumB_end {K : List (Int × Int)} {b : Int} {left : Int → Bool} {f : Int → Int → Int} (h : ∀ c, left c = false) : sumB K b left f = sumK K fun b' c' => if b' = b then f b' c' else 0 :=
  sumK_congr K fun k _ => by
    by_cases g : k.1 = b
    · rw [if_pos ⟨g, h _⟩, if_pos g]
    · rw [if_neg (fun e => g e.1), if_neg g]
theorem sumB_bd {K : List (Int × Int)} {b : Int} {left : Int → Bool} {f : Int → Int → Int} {M : Int} (hM : 0 ≤ M) (h : ∀ b c, 0 ≤ f b c ∧ f b c ≤ M) : 0 ≤ sumB K b left f ∧ sumB K b left f ≤ K.length * M := by
  refine ⟨sumK_nonneg K fun k _ => ?_, sumK_le K fun k _ => ?_⟩
  · by_cases g : k.1 = b ∧ left k.2 = false
    · rw [if_pos g]; exact (h _ _).1
    · rw [if_neg g]; exact Int.le_refl _
  · by_cases g : k.1 = b ∧ left k.2 = false
    · rw [if_pos g]; exact (h _ _).2
    · rw [if_neg g]; exact hM
/-- the summands of bakers that are done -/
def sumD (K : List (Int × Int)) (d : Int → Bool) (f : Int → Int → Int) : Int := sumK K fun b' c' => if d b' = true then f b' c' else 0
theorem sumD_step {K : List (Int × Int)} {d : Int → Bool} {b : Int} {f : Int → Int → Int} (hd : d b = false) : sumD K (set1 d b true) f = sumD K d f + sumK K fun b' c' => if b' = b then f b' c' else 0 := by
  unfold sumD
  rw [← sumK_add]
  refine sumK_congr K fun k _ => ?_
  show (if set1 d b true k.1 = true then f k.1 k.2 else 0) = (if d k.1 = true then f k.1 k.2 else 0) + (if k.1 = b then f k.1 k.2 else 0)
  by_cases e : k.1 = b
  · rw [e, set1_same, if_pos rfl, hd, if_neg (by simp), if_pos rfl]; omega
  · rw [set1_other _ _ _ _ e, if_neg e]; omega
theorem sumD_start {K : List (Int × Int)} {d : Int → Bool} {f : Int → Int → Int} (h : ∀ b, d b = false) : sumD K d f = 0 := sumK_zero K fun k _ => by rw [h]; rfl
theorem sumD_end {K : List (Int × Int)} {d : Int → Bool} {f : Int → Int → Int} (h : ∀ k, k ∈ K → d k.1 = true) : sumD K d f = sumK K f := sumK_congr K fun k hk => by rw [h k hk]; rfl
theorem sumD_bd {K : List (Int × Int)} {d : Int → Bool} {f : Int → Int → Int} {M : Int} (hM : 0 ≤ M) (h : ∀ b c, 0 ≤ f b c ∧ f b c ≤ M) : 0 ≤ sumD K d f ∧ sumD K d f ≤ K.length * M := by
  refine ⟨sumK_nonneg K fun k _ => ?_, sumK_le K fun k _ => ?_⟩
  · by_cases g : d k.1 = true
    · rw [if_pos g]; exact (h _ _).1
    · rw [if_neg g]; exact Int.le_refl _
  · by_cases g : d k.1 = true
    · rw [if_pos g]; exact (h _ _).2
    · rw [if_neg g]; exact hM
end Go.Proofs.YtaihcceobnfmhaaDoor

namespace Go.Proofs.YtaihcceobnfmhaaDoor
open Go.RowKit Go.Maps

theorem map_no_cell {w : World} {m : Nat} {es : Array MapEntry} {clock : Nat} (h : w.heap[m]? = some (.map es clock)) (i : Nat) : w.cell? ⟨m, i, none⟩ = none := by simp [World.cell?, h]
theorem OwnS.no_cell {w : World} {m g : Nat} {s : Int → Int} (h : OwnS w m s g) (i : Nat) : w.cell? ⟨m, i, none⟩ = none := by
  obtain ⟨n, D, ⟨es, clock, hes, _⟩, _⟩ := h
  exact map_no_cell hes i
theorem OwnQ.no_cell {w : World} {m g : Nat} {H : Int → Bool} {q : Int → Nat} (h : OwnQ w m H q g) (i : Nat) : w.cell? ⟨m, i, none⟩ = none := by
  obtain ⟨n, D, ⟨es, clock, hes, _⟩, _⟩ := h
  exact map_no_cell hes i
/-- an error's variable lies elsewhere -/
theorem PoolLaid.kept {w w' : World} {A : Nat → Addr} {s : Bool} {X : List Nat} (hL : PoolLaid w A s) (hX : ∀ k, k ∈ X → ∀ a : Addr, w.cell? ⟨k, 0, none⟩ ≠ some (sent a)) (hK : Kept X w w') : PoolLaid w' A s := by
  have st : ∀ (i : Nat) (a : Addr), w.cell? ⟨i, 0, none⟩ = some (sent a) → w'.cell? ⟨i, 0, none⟩ = some (sent a) := fun i a h => hK.old h fun g => hX i g a h
  exact ⟨st _ _ hL.v1, st _ _ hL.v3, fun e => st _ _ (hL.v5 e), st _ _ hL.v6, st _ _ hL.v7⟩
theorem PoolAt.apart {w : World} {b m g : Nat} {x : St} (h : PoolAt w b m x g) : ∀ k, k ∈ [b, m] → ∀ a : Addr, w.cell? ⟨k, 0, none⟩ ≠ some (sent a) := by
  intro k hk a e
  rcases List.mem_cons.1 hk with rfl | hk
  · rw [h.c0] at e; cases e
  · rw [List.mem_singleton.1 hk, h.own.no_cell 0] at e; cases e
theorem OwnQ.apart {w : World} {m g : Nat} {H : Int → Bool} {q : Int → Nat} (h : OwnQ w m H q g) : ∀ k, k ∈ [m] → ∀ a : Addr, w.cell? ⟨k, 0, none⟩ ≠ some (sent a) := by
  intro k hk a e
  rw [List.mem_singleton.1 hk, h.no_cell 0] at e; cases e
theorem RangeQ.apart {w : World} {m r g cnt : Nat} {H left : Int → Bool} {q : Int → Nat} (h : RangeQ w m r H left q g cnt) : ∀ k, k ∈ [r] → ∀ a : Addr, w.cell? ⟨k, 0, none⟩ ≠ some (sent a) := by
  intro k hk a e
  obtain ⟨n, D, lf, ⟨es, clock, since, seen, c0, h1, F, hs, hD, h2, _⟩, _⟩ := h
  rw [List.mem_singleton.1 hk] at e
  simp [World.cell?, h2] at e

/-- a loop over what waits: each pool that is no longer to come was turned by f, or let be -/
def swW (W : Int → St) (f : Int → St → St) (left : Int → Bool) : Int → St := fun c => if left c = false then f c (W c) else W c
def swG (g : Nat) (left : Int → Bool) : Int → Nat := fun c => if left c = true then g else g + 4
/-- a loop over what waits, under way -/
structure SwAt (tag : Nat → Tg) (w : World) (bb p pm wm r g : Nat) (P : St) (H : Int → Bool) (q qm : Int → Nat) (W : Int → St) (f : Int → St → St) (A : Nat → Addr) (wr : World) (left H' : Int → Bool) (cnt : Nat) : Prop where
  rg : RangeQ wr wm r H' left q g cnt
  bk : BkAt tag wr bb p pm wm P g H' q qm (swW W f left) (swG g left)
  emp : ∀ c, H' c = false → swW W f left c = e0
  sub : ∀ c, H' c = true → H c = true
  kept : KeptP (fun k => tag k ≠ .no) w wr
  laid : PoolLaid wr A true
  tr : tag r = .no
  size : w.heap.size ≤ r
section
variable {tag : Nat → Tg} {w wr w1 w2 w3 : World} {bb p pm wm r g cnt cnt1 cnt2 : Nat} {P : St} {H : Int → Bool} {q qm : Int → Nat} {W : Int → St} {f : Int → St → St} {A : Nat → Addr} {left H' : Int → Bool} {c : Int}
theorem SwAt.start (h : BkAt tag w bb p pm wm P g H q qm W (fun _ => g)) (h0 : ∀ c, H c = false → W c = e0) (hf : ∀ c, f c e0 = e0) (hL : PoolLaid w A true) (hr : RangeQ w1 wm w.heap.size H H q g cnt) (hB : Below w.heap.size w w1) :
    SwAt tag w bb p pm wm w.heap.size g P H q qm W f A w1 H H cnt where
  rg := hr
  bk := (h.keptP (KeptP.of_below (F := fun _ => False) hB) (fun _ g => g.elim)).congr (fun c hc => if_neg (by rw [hc]; simp)) (fun c hc => by show g ≤ (if H c = true then g else g + 4); rw [if_pos hc]; exact Nat.le_refl _)
  emp := fun c hc => by show (if H c = false then f c (W c) else W c) = e0; rw [if_pos hc, h0 c hc, hf]
  sub := fun _ h => h
  kept := KeptP.of_below hB
  laid := hL.below hB
  tr := Classical.byContradiction fun e => by have := h.tin _ e; omega
  size := Nat.le_refl _
/-- the step has drawn a key -/
theorem SwAt.next (h : SwAt tag w bb p pm wm r g P H q qm W f A wr left H' cnt) (_hr : RangeQ w1 wm r H' (but left c) q g cnt1) (hK : Kept [r] wr w1) :
    BkAt tag w1 bb p pm wm P g H' q qm (swW W f left) (swG g left) ∧ KeptP (fun k => tag k ≠ .no) w w1 ∧ PoolLaid w1 A true := by
  refine ⟨h.bk.keptP (KeptP.of_kept (F := fun k => k = r) hK (fun k hk => List.mem_singleton.1 hk)) (fun k e => by rw [e]; exact h.tr), h.kept.trans (KeptP.of_kept (F := fun k => k = r) hK (fun k hk => List.mem_singleton.1 hk)) (fun i hi e => by have := h.size; omega), h.laid.kept h.rg.apart hK⟩
theorem swW_other {d : Int} (e : d ≠ c) : swW W f (but left c) d = swW W f left d := by unfold swW; rw [but_other _ _ _ e]
theorem swW_same : swW W f (but left c) c = f c (W c) := if_pos (but_same _ _)
theorem swW_left (h : left c = true) : swW W f left c = W c := if_neg (by rw [h]; simp)
theorem swG_left (h : left c = true) : swG g left c = g := if_pos h
theorem swG_le (d : Int) : swG g left d ≤ swG g (but left c) d := by
  unfold swG
  by_cases e : d = c
  · subst e
    have e : (if but left d d = true then g else g + 4) = g + 4 := if_neg (by rw [but_same]; simp)
    rw [e]
    split <;> omega
  · rw [but_other _ _ _ e]; exact Nat.le_refl _
/-- a pool that is let be -/
theorem SwAt.skip (h : SwAt tag w bb p pm wm r g P H q qm W f A wr left H' cnt) (hl : left c = true) (hf : f c (W c) = W c) (hr : RangeQ w1 wm r H' (but left c) q g cnt1) (hK : Kept [r] wr w1) : SwAt tag w bb p pm wm r g P H q qm W f A w1 (but left c) H' cnt1 := by
  obtain ⟨hb, hk, hL⟩ := h.next hr hK
  have e : ∀ d, swW W f (but left c) d = swW W f left d := fun d => by
    by_cases e : d = c
    · subst e; rw [swW_same, swW_left hl, hf]
    · exact swW_other e
  exact ⟨hr, hb.congr (fun d _ => e d) (fun d _ => swG_le d), fun d hd => by rw [e]; exact h.emp d hd, h.sub, hk, hL, h.tr, h.size⟩
/-- a pool that is turned -/
theorem SwAt.turn (h : SwAt tag w bb p pm wm r g P H q qm W f A wr left H' cnt) (hH : H' c = true) (hr : RangeQ w1 wm r H' (but left c) q g cnt1) (hK : Kept [r] wr w1)
    (hP : PoolAt w2 (q c) (qm c) (f c (W c)) (g + 4)) (hK2 : Kept [q c, qm c] w1 w2) : SwAt tag w bb p pm wm r g P H q qm W f A w2 (but left c) H' cnt1 := by
  obtain ⟨hb, hk, hL⟩ := h.next hr hK
  obtain ⟨hb2, hT⟩ := hb.waitTurned hH hK2 hP
  obtain ⟨t1, t2, hp⟩ := hb.wait c hH
  have nm : ¬ tag wm = .wait c := by rw [hb.tm]; intro e; cases e
  have nr : ¬ tag r = .wait c := by rw [h.tr]; intro e; cases e
  refine ⟨hr.of_blocks (hT.block wm hr.lt.2.1 nm) (hT.block r hr.lt.1 nr), hb2.congr (fun d _ => ?_) (fun d _ => ?_), fun d hd => ?_, h.sub, hk.trans hT (fun i _ e => by rw [e]; intro e2; cases e2), hL.kept hp.apart hK2, h.tr, h.size⟩
  · by_cases e : d = c
    · subst e; rw [swW_same, set1_same]
    · rw [swW_other e, set1_other _ _ _ _ e]
  · by_cases e : d = c
    · subst e
      rw [set1_same]
      show g + 4 ≤ (if but left d d = true then g else g + 4)
      rw [but_same, if_neg (by simp)]; exact Nat.le_refl _
    · rw [set1_other _ _ _ _ e]; exact swG_le d
  · rw [swW_other (fun e => by rw [e, hH] at hd; cases hd)]; exact h.emp d hd
/-- a pool that is empty now is struck -/
theorem SwAt.strike (h : SwAt tag w bb p pm wm r g P H q qm W f A wr left H' cnt) (hl : left c = false) (he : f c (W c) = e0) (hr : RangeQ w1 wm r (but H' c) (but left c) q g cnt1) (hK : Kept [wm] wr w1) : SwAt tag w bb p pm wm r g P H q qm W f A w1 left (but H' c) cnt1 := by
  obtain ⟨hb, hT⟩ := h.bk.mapTurned hK
  have e : but left c = left := by
    funext d
    by_cases e : d = c
    · subst e; rw [but_same, hl]
    · exact but_other _ _ _ e
  rw [e] at hr
  refine ⟨hr, hb.fewer (fun d hd => (but_true hd).1), fun d hd => ?_, fun d hd => h.sub d (but_true hd).1, h.kept.trans hT (fun i _ e => by rw [e]; intro e2; cases e2), h.laid.kept h.rg.owns.apart hK, h.tr, h.size⟩
  by_cases e : d = c
  · subst e
    show (if left d = false then f d (W d) else W d) = e0
    rw [if_pos hl, he]
  · rw [but_other _ _ _ e] at hd; exact h.emp d hd
/-- nothing is left to come -/
theorem SwAt.done {F : Nat → Prop} (h : SwAt tag w bb p pm wm r g P H q qm W f A wr left H' cnt) (hf : ∀ k, F k ↔ tag k ≠ Tg.no) (hcy : ∀ c, H c = true → Cy c) (hl : ∀ c, left c = false) : Bkr F wr bb P (fun c => f c (W c)) (g + 4) ∧ Moved F F w wr := by
  have e : swW W f left = fun c => f c (W c) := funext fun c => if_pos (hl c)
  refine ⟨⟨tag, p, pm, wm, H', q, qm, hf, ?_, h.rg.owns.more (by omega), fun c hc => by have := h.emp c hc; rw [e] at this; exact this, fun c hc => hcy c (h.sub c hc)⟩, ⟨h.kept.mono (fun k _ g => (hf k).2 g), fun _ _ g => g⟩⟩
  exact (h.bk.moreP (Nat.le_add_right _ 4)).congr (fun c _ => by rw [e]) (fun c _ => by show (if left c = true then g else g + 4) ≤ g + 4; split <;> omega)
end

/-! freeing -/
def frT (o cyc : Int) (c : Int) (x : St) : St := if c + 2 < cyc then x.leave o else x
def frN (W : Int → St) (o cyc : Int) : Int → Int → Int := fun _ c => if c + 2 < cyc then (W c).leaveN o else 0
def frC (W : Int → St) (o cyc : Int) : Int → Int → Int := fun _ c => if c + 2 < cyc ∧ (W c).leaveC o = 0 then 1 else 0
theorem St.Ok.leaveN_bd {x : St} (h : x.Ok) (o : Int) : 0 ≤ x.leaveN o ∧ x.leaveN o ≤ 1125899906842624 := by
  unfold St.leaveN
  split
  · have := h.val0 o
    have := h.val1 o
    have := h.t1
    omega
  · omega
theorem e0_leaveC (o : Int) : e0.leaveC o ≠ 0 := by
  unfold St.leaveC
  split
  · omega
  · rw [if_pos (show e0.s o = 0 from rfl)]; omega
theorem e0_leaveN (o : Int) : e0.leaveN o = 0 := if_neg (e0_leaveC o)
/-! slashing -/
def slT (f p : Int) (c : Int) (x : St) : St := if f ≤ c then x.slash p else x
def slN (W : Int → St) (f p : Int) : Int → Int → Int := fun _ c => if f ≤ c then (W c).slashN p else 0
theorem e0_slashN (p : Int) : e0.slashN p = 0 := by
  unfold St.slashN
  split
  · show (0 : Int) * p / 100 = 0
    rw [Int.zero_mul]; decide
  · rfl
set_option maxRecDepth 100000 in
set_option maxHeartbeats 4000000 in
theorem bk_slash (F : Nat → Prop) (bb g : Nat) (P : St) (W : Int → St) (hW : ∀ c, (W c).Ok) (_hg : g ≤ 900000) (f pc : Int) (hp : 0 ≤ pc ∧ pc ≤ 100) (_wf : (Lit.int .i64 f).wf = true) (K : List (Int × Int)) (hn : K.Nodup) (hKl : K.length ≤ 900) (b : Int) (hK0 : ∀ c, (b, c) ∉ K → W c = e0)
    (A : Nat → Addr) (w : World) (hL : PoolLaid w A true) (h : Bkr F w bb P W g) :
    Calls Tryd.prog 84 #[.pointer (some ⟨bb, 0, none⟩), .int .i64 f, .int .i64 pc] w fun e w' => e = .returned (.int .i64 (sumK K fun b' c' => if b' = b then slN W f pc b' c' else 0)) ∧
      Bkr F w' bb P (fun c => slT f pc c (W c)) (g + 4) ∧ Moved F F w w' := by
  obtain ⟨tag, p, pm, wm, H, q, qm, hf, hb, hq, h0, hcy⟩ := h
  have c1 := hb.c1
  have fN : ∀ b' c', 0 ≤ slN W f pc b' c' ∧ slN W f pc b' c' ≤ 1125899906842624 := fun b' c' => by
    unfold slN
    split
    · have := (hW c').slashN_bd pc
      have := (hW c').t1
      omega
    · omega
  have zN : ∀ c, W c = e0 → slN W f pc b c = 0 := fun c e => by
    unfold slN
    split
    · rw [e]; exact e0_slashN pc
    · rfl
  have fT : ∀ c, slT f pc c e0 = e0 := fun c => by
    unfold slT
    split
    · exact e0_slash pc
    · rfl
  go_enter Tryd.func84, Tryd.ntmps84
  go_wp2_with (first | (at_range; refine wpList_range_Q rfl _ 75 73 rfl Tryd.underlying75 rfl hq ?_; intro w0 cnt0 hr0 hB0) | go_in)
  go_frame
  go_loopw [7, 8] (fun s _ wr => ∃ left H' cnt, s = .int .i64 (sumB K b left (slN W f pc)) ∧ SwAt tag w bb p pm wm w.heap.size g P H q qm W (slT f pc) A wr left H' cnt) (fun _ _ wr => wr.rangeLeft wm w.heap.size)
  case atStart => exact ⟨H, H, cnt0, by rw [sumB_start (fun c hc => zN c (h0 c hc))], SwAt.start hb h0 fT hL hr0 hB0⟩
  case round =>
    obtain ⟨left, H', cnt, rfl, hS⟩ := hrel
    have b1 := sumB_bd (K := K) (b := b) (left := left) (M := 1125899906842624) (by decide) fN
    have hKi : (K.length : Int) ≤ 900 := by omega
    have b3 : sumB K b left (slN W f pc) ≤ 1013309916158361600 := by omega
    obtain ⟨b1, _⟩ := b1
    clear hKi
    go_wp2_with (first | (at_next; refine wpList_next_Q rfl _ rfl rfl hS.rg ?_ ?_) | go_in)
    · intro hl0
      obtain ⟨hBk, hM⟩ := hS.done hf hcy hl0
      have E1 := hide (sumB_end (K := K) (b := b) (f := slN W f pc) hl0)
      clear hS hl0
      go_wp2
      go_ret
      exact ⟨ret_int E1.out, hBk, hM⟩
    · intro c w1 cnt1 hwc hlc hHc hrg1 hlt hK1 hen
      have SN := hide (sumB_step hn (left := left) (f := slN W f pc) hlc (fun g => zN c (hK0 c g)))
      obtain ⟨hb1, hk1, hL1⟩ := hS.next hrg1 hK1
      by_cases hlt2 : f ≤ c
      · have hw := (hb1.wait c hHc).2.2
        rw [swW_left hlc, swG_left hlc] at hw
        have fe : slT f pc c (W c) = (W c).slash pc := if_pos hlt2
        have ge : ¬ c < f := by omega
        have L := prog_slash (q c) (qm c) g (W c) (hW c) pc A true w1 hL1 hw
        have nb := (hW c).slashN_bd pc
        have nt := (hW c).t1
        have FN := hide (show slN W f pc b c = (W c).slashN pc from if_pos hlt2)
        have HC := hide (St.slash_yes (x := W c) hp).1
        go_wp2_with fail
        refine L.mono ?_
        rintro e w2 ⟨ev, rfl, hE, hP2, hK2⟩
        obtain rfl := hE.nil HC.out
        rw [← fe] at hP2
        have hS2 := hS.turn hHc hrg1 hK1 hP2 hK2
        obtain ⟨nb0, nb1⟩ := nb
        have nb2 : (W c).slashN pc ≤ 1125899906842624 := by omega
        clear nb1 nt
        generalize sumB K b left (slN W f pc) = z at *
        generalize (W c).slashN pc = v at *
        clear L hE hw hb1 fe
        go_wp2
        go_roundw
        case rel => exact ⟨but left c, H', cnt1, by rw [SN.out, FN.out], hS2⟩
        case measure => rw [hS2.rg.measure, hS.rg.measure]; omega
      · have FN := hide (show slN W f pc b c = 0 from if_neg hlt2)
        have hS2 := hS.skip hlc (if_neg hlt2) hrg1 hK1
        have ge : c < f := by omega
        clear hlt2 hb1
        go_wp2
        go_roundw
        case rel => exact ⟨but left c, H', cnt1, by rw [SN.out, FN.out, Int.add_zero], hS2⟩
        case measure => rw [hS2.rg.measure, hS.rg.measure]; omega
end Go.Proofs.YtaihcceobnfmhaaDoor
