/-
  A chain, plainly: a cycle ends; a block is baked; what supply becomes.
  Small facts on worlds.
  Worlds that are alike but for some blocks.
  Worlds that are alike but for blocks of one kind; parts of memory told by tags.
  Parts of memory that are a call's own: one; two that lie apart.
  Parts of memory told by tags: tags anew where a part has moved.
  Package bound by its contracts: which numbers are amounts, and which are owners.
-/
import Derived.Test.YtjodnacodlhamacDoorChainMathX
import Derived.Test.YtjodnacodlhamacDoorCourtMathX
import Derived.Laws.AppendOwn
import Derived.Deep.RegionLaw
namespace Go.Proofs.YtjodnacodlhamacDoor

theorem pct_bd (n : Int) : 0 ≤ pct n ∧ pct n ≤ 50 := by unfold pct; split <;> omega
theorem St.Ok.half {x : St} (h : x.Ok) {p : Int} (h0 : 0 ≤ p) (h1 : p ≤ 50) : 2 * x.slashN p ≤ x.T := by
  unfold St.slashN
  rw [if_pos ⟨h0, by omega⟩]
  have t := h.t0
  have : x.T * p ≤ x.T * 50 := Int.mul_le_mul_of_nonneg_left h1 t
  omega
theorem sumK_mono {f g : Int → Int → Int} (K : List (Int × Int)) (h : ∀ k, k ∈ K → f k.1 k.2 ≤ g k.1 k.2) : sumK K f ≤ sumK K g := by
  have e := sumK_split K g (fun b c => g b c - f b c) f (fun _ _ => rfl)
  have := sumK_nonneg (f := fun b c => g b c - f b c) K (fun k hk => by have := h k hk; show 0 ≤ g k.1 k.2 - f k.1 k.2; omega)
  omega
theorem sumK_two (K : List (Int × Int)) (f : Int → Int → Int) : sumK K (fun b c => 2 * f b c) = 2 * sumK K f := by
  have := sumK_add f f K
  rw [show (fun b c => 2 * f b c) = (fun b c => f b c + f b c) by funext b c; omega, this]
  omega
/-- at most half is lost -/
theorem Sk.Ok.slash_half {S : Sk} (h : S.Ok) (b f : Int) {p : Int} (h0 : 0 ≤ p) (h1 : p ≤ 50) : 2 * S.slashN b f p ≤ S.total := by
  unfold Sk.slashN
  by_cases k : S.slashC b p = 0
  · rw [if_pos k]
    have hb : Bk b := by
      refine h.rin b ?_
      unfold Sk.slashC at k
      cases g : S.R b with
      | true => rfl
      | false => rw [g] at k; simp at k
    have a := (h.pok b).half h0 h1
    have c : 2 * sumK S.K (fun b' c' => if b' = b ∧ f ≤ c' then (S.W b' c').slashN p else 0) ≤ sumK S.K (fun b c => (S.W b c).T) := by
      rw [← sumK_two]
      refine sumK_mono S.K fun k _ => ?_
      show 2 * (if k.1 = b ∧ f ≤ k.2 then (S.W k.1 k.2).slashN p else 0) ≤ (S.W k.1 k.2).T
      split
      · exact (h.wok k.1 k.2).half h0 h1
      · have := (h.wok k.1 k.2).t0; omega
    have q0 := (h.pok 0).t0
    have q1 := (h.pok 1).t0
    have q2 := (h.pok 2).t0
    have e : b = 0 ∨ b = 1 ∨ b = 2 := by have := hb.1; have := hb.2; omega
    unfold Sk.total
    rcases e with rfl | rfl | rfl <;> omega
  · rw [if_neg k]
    have := h.total_bd.1
    omega
theorem Ch.Ok.lost_bd {C : Ch} (h : C.Ok) (t : Cs) : 0 ≤ C.lost t ∧ 2 * C.lost t ≤ C.s.total ∧ C.lost t ≤ 1125899906842624 := by
  have b := pct_bd t.2.2.2
  have l0 := h.s.slashN_nn t.2.1 t.2.2.1 (pct t.2.2.2)
  have l1 := h.s.slash_half t.2.1 t.2.2.1 b.1 b.2
  have := h.sum
  have := h.p.sum0
  have := h.p.top
  unfold Ch.lost
  exact ⟨l0, l1, by omega⟩
theorem Ch.Ok.judgeIn {C : Ch} (h : C.Ok) (t : Cs) (ho : Own t.1) : C.p.inC t.1 (C.lost t / 7) = 0 := by
  have l := h.lost_bd t
  have := h.sum
  exact Pu.inC_ok ho ⟨by omega, by omega⟩ (by omega)
theorem Ch.Ok.judgeBurn {C : Ch} (h : C.Ok) (t : Cs) (ho : Own t.1) : (C.p.in' t.1 (C.lost t / 7)).burnC (C.lost t - C.lost t / 7) = 0 := by
  have l := h.lost_bd t
  have g := Pu.in_gap ho (h.judgeIn t ho)
  have := h.sum
  exact Pu.burnC_ok ⟨by omega, by omega⟩ (by rw [g.1, g.2]; omega)
theorem Ch.Ok.judge1 {C : Ch} (h : C.Ok) (t : Cs) (ho : Own t.1) : (C.judge1 t).Ok ∧ (C.judge1 t).p.S ≤ C.p.S := by
  have l := h.lost_bd t
  have g1 := Pu.in_gap ho (h.judgeIn t ho)
  have g2 := Pu.burn_gap (h.judgeBurn t ho)
  have e : (C.s.slash t.2.1 t.2.2.1 (pct t.2.2.2)).total = C.s.total - C.lost t := h.s.slash_total t.2.1 t.2.2.1 (pct t.2.2.2)
  have s := h.sum
  have s0 := h.p.sum0
  have p0 := h.pos
  refine ⟨⟨(h.p.in' _ _).burn _, h.s.slash _ _ _, h.c, ?_, ?_, fun i hi => ?_, h.bon, h.cas, h.len, h.heavy, h.seed⟩, ?_⟩
  · show (Pu.burn _ _).S = (Pu.burn _ _).sum + (C.s.slash t.2.1 t.2.2.1 (pct t.2.2.2)).total
    rw [g2.1, g2.2, g1.1, g1.2, e]
    omega
  · show 1 ≤ (Pu.burn _ _).S
    rw [g2.1, g1.1]
    omega
  · show (C.s.slash t.2.1 t.2.2.1 (pct t.2.2.2)).R i = true
    rw [Sk.slash_R]; exact h.reg i hi
  · show (Pu.burn _ _).S ≤ _
    rw [g2.1, g1.1]
    omega
theorem Ch.Ok.judge : ∀ (l : List Cs) {C : Ch}, C.Ok → (∀ t, t ∈ l → Own t.1) → (C.judge l).Ok ∧ (C.judge l).p.S ≤ C.p.S
  | [], _, h, _ => ⟨h, Int.le_refl _⟩
  | t :: l, C, h, hl => by
    have a := h.judge1 t (hl t (List.mem_cons_self ..))
    have b := Ch.Ok.judge l a.1 (fun u hu => hl u (List.mem_cons_of_mem _ hu))
    exact ⟨b.1, Int.le_trans b.2 a.2⟩
theorem Ch.judge_same : ∀ (l : List Cs) (C : Ch), (C.judge l).c = C.c ∧ (C.judge l).seed = C.seed ∧ (C.judge l).cyc = C.cyc ∧ (C.judge l).lev = C.lev ∧ (C.judge l).bon = C.bon ∧ (C.judge l).pics = C.pics
  | [], _ => ⟨rfl, rfl, rfl, rfl, rfl, rfl⟩
  | t :: l, C => Ch.judge_same l (C.judge1 t)
theorem wtOf_bd {n : Int} (_h : 0 ≤ n) : 0 ≤ wtOf n ∧ wtOf n ≤ 1073741824 := by
  unfold wtOf
  split
  · omega
  · split <;> omega
theorem Sk.Ok.picW {S : Sk} (h : S.Ok) : Weights 3 S.pic := ⟨by omega, by omega, fun k _ => wtOf_bd (h.pok k).t0⟩
theorem Ch.Ok.nextPic {C : Ch} (h : C.Ok) : Heavy C.nextPic := by
  unfold Ch.nextPic
  by_cases k : sumTo C.s.pic 3 ≠ 0
  · rw [if_pos k]; exact ⟨h.s.picW, k⟩
  · rw [if_neg k]
    have hl := h.len
    have hi : C.pics.length - 1 < C.pics.length := by omega
    rw [List.getD_eq_getElem?_getD, List.getElem?_eq_getElem hi]
    exact h.heavy _ (List.getElem_mem hi)
theorem Ch.Ok.turned {C : Ch} (h : C.Ok) : C.turned.Ok := by
  refine ⟨h.p, h.s, h.c, h.sum, h.pos, h.reg, bonusV_bd h.bon.1 h.bon.2, h.cas, ?_, ?_, h.seed⟩
  · show (C.pics ++ [C.nextPic]).length = C.cyc + 1 + 3
    rw [List.length_append, h.len]
    show C.cyc + 3 + 1 = _
    omega
  · intro W hW
    rcases List.mem_append.1 (show W ∈ C.pics ++ [C.nextPic] from hW) with g | g
    · exact h.heavy W g
    · have : W = C.nextPic := by simpa using g
      rw [this]; exact h.nextPic
theorem Ch.Ok.asked {C : Ch} (h : C.Ok) : Ch.Ok { C with c := C.c.asked } := ⟨h.p, h.s, h.c.asked, h.sum, h.pos, h.reg, h.bon, h.cas, h.len, h.heavy, h.seed⟩
theorem Ch.Ok.lev {C : Ch} (h : C.Ok) (n : Nat) : Ch.Ok { C with lev := n } := ⟨h.p, h.s, h.c, h.sum, h.pos, h.reg, h.bon, h.cas, h.len, h.heavy, h.seed⟩
theorem Ch.Ok.due_own {C : Ch} (h : C.Ok) (t : Cs) (ht : t ∈ C.c.due) : Own t.1 := (h.cas t (List.mem_of_mem_drop ht)).1
theorem Ch.Ok.ended {C : Ch} (h : C.Ok) : C.ended.Ok ∧ C.ended.p.S ≤ C.p.S := by
  have j := Ch.Ok.judge C.c.due h.asked (fun t ht => h.due_own t ht)
  exact ⟨j.1.turned, j.2⟩
theorem Ch.ended_cyc (C : Ch) : C.ended.cyc = C.cyc + 1 ∧ C.ended.lev = C.lev := by
  have j := Ch.judge_same C.c.due { C with c := C.c.asked }
  exact ⟨by show (Ch.judge _ _).cyc + 1 = _; rw [j.2.2.1], j.2.2.2.1⟩
theorem Ch.Ok.stepped {C : Ch} (h : C.Ok) : C.stepped.Ok ∧ C.stepped.p.S ≤ C.p.S := by
  unfold Ch.stepped
  by_cases k : (C.lev + 1) % 4 = 0
  · rw [if_pos k]; exact (h.lev (C.lev + 1)).ended
  · rw [if_neg k]; exact ⟨h.lev _, Int.le_refl _⟩
theorem Ch.stepped_lev (C : Ch) : C.stepped.lev = C.lev + 1 := by
  unfold Ch.stepped
  split
  · exact (Ch.ended_cyc _).2
  · rfl
theorem Ch.stepped_cyc {C : Ch} (h : C.cyc = C.lev / 4) : C.stepped.cyc = (C.lev + 1) / 4 := by
  unfold Ch.stepped
  split
  · rw [(Ch.ended_cyc _).1]; show C.cyc + 1 = _; omega
  · show C.cyc = _; omega
/-- within a cycle supply stays -/
theorem Ch.stepped_in {C : Ch} (h : C.stepped.cyc = C.cyc) : C.stepped.p = C.p ∧ C.stepped.s = C.s := by
  unfold Ch.stepped at h ⊢
  by_cases k : (C.lev + 1) % 4 = 0
  · rw [if_pos k, (Ch.ended_cyc _).1] at h
    have h : C.cyc + 1 = C.cyc := h
    omega
  · rw [if_neg k]; exact ⟨rfl, rfl⟩
theorem Ch.paid_same (C : Ch) (b : Int) : (C.paid b).cyc = C.cyc ∧ (C.paid b).lev = C.lev ∧ (C.paid b).c = C.c := by
  unfold Ch.paid
  split <;> exact ⟨rfl, rfl, rfl⟩
theorem Ch.Ok.bakeN_bd {C : Ch} (h : C.Ok) (b : Int) : 0 ≤ C.bakeN b ∧ (C.paid b).p.S = C.p.S + C.bakeN b := by
  have r := h.rew_bd
  unfold Ch.bakeN Ch.paid
  by_cases k : C.Payable b
  · rw [if_pos k, if_pos k]
    have c : C.p.growC C.rew = 0 := Pu.growC_ok ⟨r.1, by have := h.p.top; omega⟩ k.1
    exact ⟨r.1, (Pu.grow_gap c).1⟩
  · rw [if_neg k, if_neg k]; exact ⟨Int.le_refl _, by omega⟩
theorem Ch.Ok.bake {C : Ch} (h : C.Ok) (b : Int) : (C.bake b).Ok ∧ (C.bake b).p.S ≤ C.p.S + C.bakeN b ∧ ((C.bake b).cyc = C.cyc → (C.bake b).p.S = C.p.S + C.bakeN b) := by
  have a := (h.paid b).stepped
  have n := h.bakeN_bd b
  refine ⟨a.1, by rw [← n.2]; exact a.2, fun e => ?_⟩
  have := (Ch.stepped_in (C := C.paid b) (by rw [(C.paid_same b).1]; exact e)).1
  show (C.paid b).stepped.p.S = _
  rw [this, n.2]

/-! a chain begins -/
def Pu.minted (x : Pu) : Pu := (((((x.mint 0 10000).mint 1 10000).mint 2 10000).mint 3 10000).mint 4 10000).mint 5 10000
def purse0 : Pu := ((none'.minted.out 0 1000).out 1 1000).out 2 1000
def stakes0 : Sk := ((((((Sk.none.reg 0).join 0 0 1000).reg 1).join 1 1 1000).reg 2).join 2 2 1000)
def chNew (seed : Nat) : Ch := ⟨purse0, stakes0, ⟨[], 0⟩, seed, 0, 0, 0, [stakes0.pic, stakes0.pic, stakes0.pic]⟩
theorem purse0_ok : purse0.Ok := ((((((((none_ok.mint 0 10000).mint 1 10000).mint 2 10000).mint 3 10000).mint 4 10000).mint 5 10000).out' 0 1000).out' 1 1000).out' 2 1000
theorem stakes0_ok : stakes0.Ok := (((((Sk.none_ok.reg 0).join 0 0 1000).reg 1).join 1 1 1000).reg 2).join 2 2 1000
theorem stakes0_pic : Heavy stakes0.pic := ⟨stakes0_ok.picW, by decide⟩
theorem chNew_ok (seed : Nat) (hs : seed < W64) : (chNew seed).Ok where
  p := purse0_ok
  s := stakes0_ok
  c := ct0_ok
  sum := by show purse0.S = purse0.sum + stakes0.total; decide
  pos := by show 1 ≤ purse0.S; decide
  reg := fun b hb => by
    have e : b = 0 ∨ b = 1 ∨ b = 2 := by have := hb.1; have := hb.2; omega
    show stakes0.R b = true
    rcases e with rfl | rfl | rfl <;> decide
  bon := ⟨Int.le_refl _, by show (0 : Int) ≤ 5000; omega⟩
  cas := fun t ht => by cases ht
  len := rfl
  heavy := fun W hW => by
    have : W = stakes0.pic := by
      have hW : W ∈ [stakes0.pic, stakes0.pic, stakes0.pic] := hW
      simpa using hW
    rw [this]; exact stakes0_pic
  seed := hs
theorem purse0_S : purse0.S = 60000 := by decide
theorem purse0_has : purse0.s 0 = 9000 := by decide
/- on the way to it -/
def ch0 (seed : Nat) : Ch := ⟨none', Sk.none, ⟨[], 0⟩, seed, 0, 0, 0, []⟩
def mintTo : Nat → Pu
  | 0 => none'
  | j + 1 => (mintTo j).mint j 10000
theorem mintTo_ok : ∀ j, (mintTo j).Ok
  | 0 => none_ok
  | j + 1 => (mintTo_ok j).mint j 10000
def outTo : Nat → Pu
  | 0 => mintTo 6
  | j + 1 => (outTo j).out j 1000
theorem outTo_ok : ∀ j, (outTo j).Ok
  | 0 => mintTo_ok 6
  | j + 1 => (outTo_ok j).out' j 1000
def stkSt : Nat → Sk
  | 0 => Sk.none
  | j + 1 => ((stkSt j).reg j).join j j 1000
theorem stkSt_ok : ∀ j, (stkSt j).Ok
  | 0 => Sk.none_ok
  | j + 1 => ((stkSt_ok j).reg j).join j j 1000
end Go.Proofs.YtjodnacodlhamacDoor

namespace Go.Proofs.YtjodnacodlhamacDoor
open Go.RowKit

theorem below_drewN {B : Nat} {a w : World} (h : Below B a w) (n : Nat) : Below B a (w.drewN n) := ⟨h.os, h.tape, h.output, h.size, h.block⟩
theorem below_from {w w' : World} {n : Nat} (h : Below (w.drewN n).heap.size (w.drewN n) w') : Below w.heap.size w w' := ⟨h.os, h.tape, h.output, h.size, h.block⟩
theorem hide {p : Prop} (h : p) : Hid p := h
theorem cell_new (W : World) (cs : Array Value) (t : TypeId) (n i : Nat) (v : Value) (h : n = W.heap.size) (hv : cs[i]? = some v) : (W.alloc (.cells cs t)).cell? ⟨n, i, none⟩ = some v := by
  subst h
  rw [World.cell?_alloc_at _ _ _ _ rfl]
  exact hv
theorem cell_lt {W : World} {a : Addr} {v : Value} (h : W.cell? a = some v) : a.block < W.heap.size := by
  rcases Nat.lt_or_ge a.block W.heap.size with g | g
  · exact g
  · simp [World.cell?, Array.getElem?_eq_none g] at h
theorem add_plain (b off n : Nat) : (⟨b, off, none⟩ : Addr).add n = ⟨b, off + n, none⟩ := by
  rcases Nat.eq_zero_or_pos n with h | h
  · subst h; simp [Addr.add]
  · have : ¬ n = 0 := by omega
    simp [Addr.add, this]
/-- a block without a mark -/
def Plain (w : World) (a : Addr) : Prop := ∃ c t, w.heap[a.block]? = some (.cells c t (0, 0))
theorem Plain.lt {w : World} {a : Addr} (h : Plain w a) : a.block < w.heap.size := by
  obtain ⟨c, t, h⟩ := h
  rcases Nat.lt_or_ge a.block w.heap.size with g | g
  · exact g
  · simp [Array.getElem?_eq_none g] at h
theorem Plain.below {w w' : World} {a : Addr} (h : Plain w a) (hB : Below w.heap.size w w') : Plain w' a := by
  have l := h.lt
  obtain ⟨c, t, h⟩ := h
  exact ⟨c, t, by rw [hB.block _ l]; exact h⟩
theorem Plain.new (w : World) (cs : Array Value) (t : TypeId) (i : Nat) : Plain (w.alloc (.cells cs t)) ⟨w.heap.size, i, none⟩ := ⟨cs, t, by show (w.heap.push _)[w.heap.size]? = _; simp⟩
theorem old_cell {w w' : World} (hB : Below w.heap.size w w') {a : Addr} {v : Value} (h : w.cell? a = some v) : w'.cell? a = some v := by
  rw [hB.cell (cell_lt h)]; exact h
end Go.Proofs.YtjodnacodlhamacDoor

namespace Go.Proofs.YtjodnacodlhamacDoor
open Go.RowKit

/-- of what was there only these blocks may have turned -/
structure Kept (X : List Nat) (w w' : World) : Prop where
  os : w'.os = w.os
  tape : w'.tape = w.tape
  output : w'.output = w.output
  size : w.heap.size ≤ w'.heap.size
  block : ∀ k, k < w.heap.size → k ∉ X → w'.heap[k]? = w.heap[k]?
theorem Kept.refl (X : List Nat) (w : World) : Kept X w w := ⟨rfl, rfl, rfl, Nat.le_refl _, fun _ _ _ => rfl⟩
theorem Kept.trans {X : List Nat} {a b c : World} (h : Kept X a b) (k : Kept X b c) : Kept X a c :=
  ⟨k.os.trans h.os, k.tape.trans h.tape, k.output.trans h.output, Nat.le_trans h.size k.size, fun i hi hx => (k.block i (Nat.lt_of_lt_of_le hi h.size) hx).trans (h.block i hi hx)⟩
theorem Kept.mono {X Y : List Nat} {a b : World} (h : Kept X a b) (hs : ∀ k, k ∈ X → k ∈ Y) : Kept Y a b :=
  ⟨h.os, h.tape, h.output, h.size, fun i hi hx => h.block i hi (fun g => hx (hs i g))⟩
theorem Kept.drewN {X : List Nat} {a w : World} (h : Kept X a w) (n : Nat) : Kept X a (w.drewN n) := ⟨h.os, h.tape, h.output, h.size, h.block⟩
theorem Kept.drew {X : List Nat} {a w : World} (h : Kept X a w) : Kept X a w.drew := ⟨h.os, h.tape, h.output, h.size, h.block⟩
theorem Kept.setCell {X : List Nat} {a w : World} (h : Kept X a w) {p : Addr} (hp : p.block ∈ X) (u : Value) : Kept X a (w.setCell p u) :=
  h.trans ⟨rfl, rfl, rfl, by simp [World.setCell], fun k _ hk => Below.heap_setCell _ _ _ _ (fun e => hk (by rw [e]; exact hp))⟩
theorem Kept.grown {X : List Nat} {a w w' : World} {b : Nat} (h : Kept X a w) (hg : w.grownBy w' (some b)) (hb : b ∈ X) : Kept X a w' :=
  h.trans ⟨hg.os, hg.tape, hg.output, hg.size, fun k hk hx => hg.block k hk (fun e => hx (by cases e; exact hb))⟩
theorem Kept.of_below {X : List Nat} {w w' : World} (h : Below w.heap.size w w') : Kept X w w' := ⟨h.os, h.tape, h.output, h.size, fun k hk _ => h.block k hk⟩
theorem Kept.below {X : List Nat} {B : Nat} {w w' : World} (h : Kept X w w') (hB : B ≤ w.heap.size) (hX : ∀ k, k ∈ X → B ≤ k) : Below B w w' :=
  ⟨h.os, h.tape, h.output, h.size, fun k hk => h.block k (by omega) (fun g => by have := hX k g; omega)⟩
theorem Kept.cell {X : List Nat} {w w' : World} (h : Kept X w w') {p : Addr} (hp : p.block < w.heap.size) (hx : p.block ∉ X) : w'.cell? p = w.cell? p := World.cell?_of_block (w := w) (h.block p.block hp hx)
theorem Kept.frozen {X : List Nat} {w w' : World} (h : Kept X w w') {p : Addr} (hp : p.block < w.heap.size) (hx : p.block ∉ X) : w'.frozen? p = w.frozen? p := World.frozen?_of_block (w := w) (h.block p.block hp hx)
theorem Kept.old {X : List Nat} {w w' : World} (h : Kept X w w') {p : Addr} {v : Value} (hc : w.cell? p = some v) (hx : p.block ∉ X) : w'.cell? p = some v := by rw [h.cell (cell_lt hc) hx]; exact hc
theorem ret_int {k : IntKind} {a b : Int} (h : a = b) : Ending.returned (.int k a) = .returned (.int k b) := by rw [h]
theorem ret_pair {k : IntKind} {a b : Int} (h : a = b) (v : Value) : Ending.returned (.tuple #[.int k a, v]) = .returned (.tuple #[.int k b, v]) := by rw [h]
theorem ret_int2 {k : IntKind} {a b c d : Int} (h : a = b) (g : c = d) : Ending.returned (.tuple #[.int k a, .int k c]) = .returned (.tuple #[.int k b, .int k d]) := by rw [h, g]
end Go.Proofs.YtjodnacodlhamacDoor

namespace Go.Proofs.YtjodnacodlhamacDoor
open Go.RowKit

/-- of what was there only such blocks may have turned -/
structure KeptP (F : Nat → Prop) (w w' : World) : Prop where
  os : w'.os = w.os
  tape : w'.tape = w.tape
  output : w'.output = w.output
  size : w.heap.size ≤ w'.heap.size
  block : ∀ k, k < w.heap.size → ¬ F k → w'.heap[k]? = w.heap[k]?
theorem KeptP.refl (F : Nat → Prop) (w : World) : KeptP F w w := ⟨rfl, rfl, rfl, Nat.le_refl _, fun _ _ _ => rfl⟩
theorem KeptP.mono {F G : Nat → Prop} {a b : World} (h : KeptP F a b) (hs : ∀ k, k < a.heap.size → F k → G k) : KeptP G a b :=
  ⟨h.os, h.tape, h.output, h.size, fun i hi hx => h.block i hi (fun g => hx (hs i hi g))⟩
/-- what a second step turns beside is new -/
theorem KeptP.trans {F G : Nat → Prop} {a b c : World} (h : KeptP F a b) (k : KeptP G b c) (hg : ∀ i, i < a.heap.size → G i → F i) : KeptP F a c :=
  ⟨k.os.trans h.os, k.tape.trans h.tape, k.output.trans h.output, Nat.le_trans h.size k.size, fun i hi hx => (k.block i (Nat.lt_of_lt_of_le hi h.size) (fun g => hx (hg i hi g))).trans (h.block i hi hx)⟩
theorem KeptP.drewN {F : Nat → Prop} {a w : World} (h : KeptP F a w) (n : Nat) : KeptP F a (w.drewN n) := ⟨h.os, h.tape, h.output, h.size, h.block⟩
theorem KeptP.drew {F : Nat → Prop} {a w : World} (h : KeptP F a w) : KeptP F a w.drew := ⟨h.os, h.tape, h.output, h.size, h.block⟩
theorem KeptP.setCell {F : Nat → Prop} {a w : World} (h : KeptP F a w) {p : Addr} (hp : F p.block) (u : Value) : KeptP F a (w.setCell p u) :=
  h.trans (G := F) ⟨rfl, rfl, rfl, by simp [World.setCell], fun k _ hk => Below.heap_setCell _ _ _ _ (fun e => hk (by rw [e]; exact hp))⟩ fun _ _ g => g
theorem KeptP.of_below {F : Nat → Prop} {w w' : World} (h : Below w.heap.size w w') : KeptP F w w' := ⟨h.os, h.tape, h.output, h.size, fun k hk _ => h.block k hk⟩
theorem KeptP.of_kept {F : Nat → Prop} {X : List Nat} {w w' : World} (h : Kept X w w') (hx : ∀ k, k ∈ X → F k) : KeptP F w w' := ⟨h.os, h.tape, h.output, h.size, fun k hk hF => h.block k hk (fun g => hF (hx k g))⟩
theorem KeptP.below {F : Nat → Prop} {B : Nat} {w w' : World} (h : KeptP F w w') (hB : B ≤ w.heap.size) (hX : ∀ k, F k → B ≤ k) : Below B w w' :=
  ⟨h.os, h.tape, h.output, h.size, fun k hk => h.block k (by omega) (fun g => by have := hX k g; omega)⟩
theorem KeptP.cell {F : Nat → Prop} {w w' : World} (h : KeptP F w w') {p : Addr} (hp : p.block < w.heap.size) (hx : ¬ F p.block) : w'.cell? p = w.cell? p := World.cell?_of_block (w := w) (h.block p.block hp hx)
theorem KeptP.frozen {F : Nat → Prop} {w w' : World} (h : KeptP F w w') {p : Addr} (hp : p.block < w.heap.size) (hx : ¬ F p.block) : w'.frozen? p = w.frozen? p := World.frozen?_of_block (w := w) (h.block p.block hp hx)
theorem KeptP.old {F : Nat → Prop} {w w' : World} (h : KeptP F w w') {p : Addr} {v : Value} (hc : w.cell? p = some v) (hx : ¬ F p.block) : w'.cell? p = some v := by rw [h.cell (cell_lt hc) hx]; exact hc
/-- some blocks alone -/
theorem KeptP.kept {F : Nat → Prop} {w w' : World} (h : KeptP F w w') : Below 0 w w' := ⟨h.os, h.tape, h.output, h.size, fun k hk => by omega⟩
/-- what a step did: of what was there only its own has turned, and all that it has now it had, or it is new -/
structure Moved (F F' : Nat → Prop) (w w' : World) : Prop where
  kept : KeptP F w w'
  old : ∀ k, k < w.heap.size → F' k → F k
theorem Moved.refl (F : Nat → Prop) (w : World) : Moved F F w w := ⟨KeptP.refl _ _, fun _ _ h => h⟩
theorem Moved.trans {F F' F'' : Nat → Prop} {a b c : World} (h : Moved F F' a b) (k : Moved F' F'' b c) : Moved F F'' a c :=
  ⟨h.kept.trans k.kept h.old, fun i hi g => h.old i hi (k.old i (Nat.lt_of_lt_of_le hi h.kept.size) g)⟩
theorem Moved.drewN {F F' : Nat → Prop} {a w : World} (h : Moved F F' a w) (n : Nat) : Moved F F' a (w.drewN n) := ⟨h.kept.drewN n, h.old⟩
theorem Moved.drew {F F' : Nat → Prop} {a w : World} (h : Moved F F' a w) : Moved F F' a w.drew := ⟨h.kept.drew, h.old⟩
theorem drewN_twice (w : World) (m n : Nat) : (w.drewN m).drewN n = w.drewN (m + n) := by simp [World.drewN, Nat.add_assoc]
theorem ownsRow_keptP {B : Nat} {w w' : World} {e : TypeId} {size n : Nat} {v : Value} {xs : List Value} {F : Nat → Prop} (h : w.ownsRow B e size v n xs) (hK : KeptP F w w') (hv : ∀ g, v.ownBlock = some g → ¬ F g) : w'.ownsRow B e size v n xs := by
  refine ⟨h.1, ?_⟩
  rcases h.2 with g | ⟨g, cap, cur, rfl, hb, hg, h1, h2, h3, h4⟩
  · exact .inl g
  · refine .inr ⟨g, cap, cur, rfl, hb, ?_, h1, h2, h3, h4⟩
    have hlt : g < w.heap.size := by
      rcases Nat.lt_or_ge g w.heap.size with l | l
      · exact l
      · rw [Array.getElem?_eq_none l] at hg; cases hg
    rw [hK.block g hlt (hv g rfl)]
    exact hg
theorem step_append_by {P : Program} {ops : Array Oper} {o : Oper} {a : Act} {w : World} {K : Act → World → Prop} {Q : Exit → Act → World → Prop} {E : Prop} (hg : o.guard = none) (s x : Operand) (t : TypeId)
    (ho : o.op = .call { callee := .builtin .append, args := #[s, x], argTypes := #[t, t] }) (vs vx : Value) (hs : a.eval s = vs) (hx : a.eval x = vx) (v' : Value) (w' : World)
    (hr : (Builtin.append_ #[t, t] o.type #[vs, vx]).run P w = .ok v' w') (h : K (a.put o.dst v') w') : if Region.wanted o (yielded ops a.tmps) = true then Oper.wp P o a w K Q else E := by
  have hw : Region.wanted o (yielded ops a.tmps) = true := by simp [Region.wanted, hg]
  rw [if_pos hw]
  unfold Oper.wp execOp
  simp only [ho, resolve, invoke, builtin, Sem.run_bind, Sem.run_pure, Result.andThen_ok, List.map_toArray, List.map_cons, List.map_nil, hs, hx, hr]
  exact h
end Go.Proofs.YtjodnacodlhamacDoor

namespace Go.Proofs.YtjodnacodlhamacDoor
open Go.RowKit

/-- what is its own lies behind B -/
structure Mine (B : Nat) (w0 w : World) (F : Nat → Prop) : Prop where
  f : ∀ k, F k → B ≤ k
  below : Below B w0 w
  size : B ≤ w.heap.size
theorem Mine.next {B : Nat} {w0 w w' : World} {F F' : Nat → Prop} (h : Mine B w0 w F) (hM : Moved F F' w w') : Mine B w0 w' F' := by
  refine ⟨fun k hk => ?_, h.below.trans (hM.kept.below h.size h.f), Nat.le_trans h.size hM.kept.size⟩
  rcases Nat.lt_or_ge k w.heap.size with l | l
  · exact h.f k (hM.old k l hk)
  · exact Nat.le_trans h.size l
theorem Mine.nextB {B : Nat} {w0 w w' : World} {F : Nat → Prop} (h : Mine B w0 w F) (k : Below w.heap.size w w') : Mine B w0 w' F :=
  ⟨h.f, h.below.trans (k.mono h.size), Nat.le_trans h.size k.size⟩
theorem Mine.drewN {B : Nat} {w0 w : World} {F : Nat → Prop} (h : Mine B w0 w F) (n : Nat) : Mine B w0 (w.drewN n) F := h.nextB (below_drewN (Below.refl _ _) n)
theorem Mine.new {w w' : World} {F : Nat → Prop} (hF : ∀ k, F k → w.heap.size ≤ k) (hB : Below w.heap.size w w') : Mine w.heap.size w w' F := ⟨hF, hB, hB.size⟩
/-- what lies apart, and behind B -/
structure Sides (B : Nat) (w0 w : World) (F G : Nat → Prop) : Prop where
  apart : ∀ k, F k → ¬ G k
  f : ∀ k, F k → B ≤ k
  g : ∀ k, G k → B ≤ k
  below : Below B w0 w
  size : B ≤ w.heap.size
theorem Sides.nextB {B : Nat} {w0 w w' : World} {F G : Nat → Prop} (h : Sides B w0 w F G) (k : Below w.heap.size w w') : Sides B w0 w' F G :=
  ⟨h.apart, h.f, h.g, h.below.trans (k.mono h.size), Nat.le_trans h.size k.size⟩
theorem Sides.drewN {B : Nat} {w0 w : World} {F G : Nat → Prop} (h : Sides B w0 w F G) (n : Nat) : Sides B w0 (w.drewN n) F G := h.nextB (below_drewN (Below.refl _ _) n)
/-- a cell of another's -/
theorem Moved.cell {F F' : Nat → Prop} {w w' : World} (h : Moved F F' w w') {p : Addr} {v : Value} (hc : w.cell? p = some v) (hx : ¬ F p.block) : w'.cell? p = some v := h.kept.old hc hx
/-- a step of the first, of the second -/
theorem Sides.one {B : Nat} {w0 w w' : World} {F F' G : Nat → Prop} (h : Sides B w0 w F G) (hlt : ∀ k, G k → k < w.heap.size) (hM : Moved F F' w w') : Sides B w0 w' F' G := by
  refine ⟨fun k hk hg => ?_, fun k hk => ?_, h.g, h.below.trans (hM.kept.below h.size h.f), Nat.le_trans h.size hM.kept.size⟩
  · exact h.apart k (hM.old k (hlt k hg) hk) hg
  · rcases Nat.lt_or_ge k w.heap.size with l | l
    · exact h.f k (hM.old k l hk)
    · exact Nat.le_trans h.size l
theorem Sides.two {B : Nat} {w0 w w' : World} {F G G' : Nat → Prop} (h : Sides B w0 w F G) (hlt : ∀ k, F k → k < w.heap.size) (hM : Moved G G' w w') : Sides B w0 w' F G' := by
  refine ⟨fun k hk hg => ?_, h.f, fun k hk => ?_, h.below.trans (hM.kept.below h.size h.g), Nat.le_trans h.size hM.kept.size⟩
  · exact h.apart k hk (hM.old k (hlt k hk) hg)
  · rcases Nat.lt_or_ge k w.heap.size with l | l
    · exact h.g k (hM.old k l hk)
    · exact Nat.le_trans h.size l
end Go.Proofs.YtjodnacodlhamacDoor

namespace Go.Proofs.YtjodnacodlhamacDoor
open Go.RowKit

/-- tags anew, where the part t has become G -/
noncomputable def retag (tag : Nat → Nat) (t : Nat) (G : Nat → Prop) : Nat → Nat := fun k => open Classical in if G k then t else if tag k = t then 0 else tag k
theorem retag_is {tag : Nat → Nat} {t : Nat} {G : Nat → Prop} {k : Nat} (h : G k) : retag tag t G k = t := if_pos h
theorem retag_not {tag : Nat → Nat} {t : Nat} {G : Nat → Prop} {k : Nat} (h : ¬ G k) (n : tag k ≠ t) : retag tag t G k = tag k := by unfold retag; rw [if_neg h, if_neg n]
theorem retag_iff {tag : Nat → Nat} {t : Nat} {G : Nat → Prop} (ht : t ≠ 0) (k : Nat) : retag tag t G k = t ↔ G k := by
  refine ⟨fun e => ?_, retag_is⟩
  by_cases g : G k
  · exact g
  · unfold retag at e
    rw [if_neg g] at e
    split at e
    · exact absurd e.symm ht
    · rename_i n; exact absurd e n
theorem retag_other {tag : Nat → Nat} {t u : Nat} {w w' : World} {G : Nat → Prop} (hM : Moved (fun k => tag k = t) G w w') (hl : ∀ k, tag k ≠ 0 → k < w.heap.size) (ut : u ≠ t) (u0 : u ≠ 0) {k : Nat} (h : tag k = u) : retag tag t G k = u := by
  have n : tag k ≠ t := by rw [h]; exact ut
  rw [retag_not (fun g => n (hM.old k (hl k (by rw [h]; exact u0)) g)) n, h]
theorem retag_back {tag : Nat → Nat} {t u : Nat} {G : Nat → Prop} (ut : u ≠ t) (u0 : u ≠ 0) {k : Nat} (h : retag tag t G k = u) : tag k = u := by
  unfold retag at h
  split at h
  · exact absurd h.symm ut
  · split at h
    · exact absurd h.symm u0
    · exact h
theorem retag_iff' {tag : Nat → Nat} {t u : Nat} {w w' : World} {G : Nat → Prop} (hM : Moved (fun k => tag k = t) G w w') (hl : ∀ k, tag k ≠ 0 → k < w.heap.size) (ut : u ≠ t) (u0 : u ≠ 0) : (fun k => retag tag t G k = u) = (fun k => tag k = u) := by
  funext k
  exact propext ⟨retag_back ut u0, retag_other hM hl ut u0⟩
theorem retag_moved {tag : Nat → Nat} {t : Nat} {w w' : World} {F G : Nat → Prop} (hF : ∀ k, F k ↔ tag k ≠ 0) (hM : Moved (fun k => tag k = t) G w w') (t0 : t ≠ 0) : Moved F (fun k => retag tag t G k ≠ 0) w w' := by
  refine ⟨hM.kept.mono fun k _ e => (hF k).2 (by rw [e]; exact t0), fun k hk h => ?_⟩
  by_cases g : G k
  · exact (hF k).2 (by rw [hM.old k hk g]; exact t0)
  · unfold retag at h
    rw [if_neg g] at h
    split at h
    · exact absurd rfl h
    · exact (hF k).2 h
end Go.Proofs.YtjodnacodlhamacDoor

namespace Go.Proofs.YtjodnacodlhamacDoor
open Go.RowKit

theorem owner_yes (o : Int) (h0 : 0 ≤ o) (h6 : o < 6) (w : World) :
    Calls Tryd.prog 37 #[.int .i64 o] w fun e w' => e = .returned (.bool true) ∧ w' = w := by
  go_enter Tryd.func37, Tryd.ntmps37
  go_wp2
  go_ret
  exact ⟨rfl, rfl⟩
theorem owner_no (o : Int) (h : ¬ (0 ≤ o ∧ o < 6)) (w : World) :
    Calls Tryd.prog 37 #[.int .i64 o] w fun e w' => e = .returned (.bool false) ∧ w' = w := by
  by_cases h0 : 0 ≤ o
  · have h6 : ¬ o < 6 := by omega
    clear h
    go_enter Tryd.func37, Tryd.ntmps37
    go_wp2
    go_ret
    exact ⟨rfl, rfl⟩
  · clear h
    go_enter Tryd.func37, Tryd.ntmps37
    go_wp2
    go_ret
    exact ⟨rfl, rfl⟩
theorem some_yes (n : Int) (h0 : 1 ≤ n) (h1 : n ≤ 1125899906842624) (w : World) :
    Calls Tryd.prog 65 #[.int .i64 n] w fun e w' => e = .returned (.bool true) ∧ w' = w := by
  go_enter Tryd.func65, Tryd.ntmps65
  go_wp2
  go_ret
  exact ⟨rfl, rfl⟩
theorem some_no (n : Int) (h : ¬ (1 ≤ n ∧ n ≤ 1125899906842624)) (w : World) :
    Calls Tryd.prog 65 #[.int .i64 n] w fun e w' => e = .returned (.bool false) ∧ w' = w := by
  by_cases h0 : 1 ≤ n
  · have h1 : ¬ n ≤ 1125899906842624 := by omega
    clear h
    go_enter Tryd.func65, Tryd.ntmps65
    go_wp2
    go_ret
    exact ⟨rfl, rfl⟩
  · clear h
    go_enter Tryd.func65, Tryd.ntmps65
    go_wp2
    go_ret
    exact ⟨rfl, rfl⟩
theorem amount_yes (n : Int) (h0 : 0 ≤ n) (h1 : n ≤ 1125899906842624) (w : World) :
    Calls Tryd.prog 44 #[.int .i64 n] w fun e w' => e = .returned (.bool true) ∧ w' = w := by
  go_enter Tryd.func44, Tryd.ntmps44
  go_wp2
  go_ret
  exact ⟨rfl, rfl⟩
theorem amount_no (n : Int) (h : ¬ (0 ≤ n ∧ n ≤ 1125899906842624)) (w : World) :
    Calls Tryd.prog 44 #[.int .i64 n] w fun e w' => e = .returned (.bool false) ∧ w' = w := by
  by_cases h0 : 0 ≤ n
  · have h1 : ¬ n ≤ 1125899906842624 := by omega
    clear h
    go_enter Tryd.func44, Tryd.ntmps44
    go_wp2
    go_ret
    exact ⟨rfl, rfl⟩
  · clear h
    go_enter Tryd.func44, Tryd.ntmps44
    go_wp2
    go_ret
    exact ⟨rfl, rfl⟩
end Go.Proofs.YtjodnacodlhamacDoor
