/-
  The program's pool by its contracts: what it tells.
  A map from numbers to pointers of whole blocks: looked up, written, ranged over in any order.
-/
import Derived.Test.YtaihcceobnfmhaaDoorKeptPX
import Derived.Test.YtaihcceobnfmhaaDoorPart
import Derived.Test.YtaihcceobnfmhaaDoorProgPurseX
import Derived.Test.YtaihcceobnfmhaaDoorIssueMathX
import Derived.Maps.OwnSet
import Derived.Maps.OwnOps
import Derived.Deep.QuietTactic
import Derived.BigQuiet
import Derived.Maps.RangeWalk
namespace Go.Proofs.YtaihcceobnfmhaaDoor
open Go.RowKit Go.Maps

theorem keyed : Keyed Tryd.prog 3 := int_keyed Tryd.underlying3
theorem zeroInt (w : World) : (zeroValue 3).run Tryd.prog w = .ok (.int .i64 0) w := by kernel_rfl

theorem lit_int {H : Type} {a b : Int} (h : (DataW.lit (.int .i64 a) : DataW H) = .lit (.int .i64 b)) : a = b := by cases h; rfl

/-- what the pool's errors hold -/
structure PoolLaid (w : World) (A : Nat → Addr) (short : Bool) : Prop where
  v1 : w.cell? ⟨0, 0, none⟩ = some (sent (A 1))
  v3 : w.cell? ⟨4, 0, none⟩ = some (sent (A 3))
  v5 : short = true → w.cell? ⟨3, 0, none⟩ = some (sent (A 5))
  v6 : w.cell? ⟨6, 0, none⟩ = some (sent (A 6))
  v7 : w.cell? ⟨5, 0, none⟩ = some (sent (A 7))
theorem PoolLaid.below {w w' : World} {A : Nat → Addr} {s : Bool} (h : PoolLaid w A s) (hB : Below w.heap.size w w') : PoolLaid w' A s :=
  ⟨old_cell hB h.v1, old_cell hB h.v3, fun e => old_cell hB (h.v5 e), old_cell hB h.v6, old_cell hB h.v7⟩
theorem PoolLaid.drewN {w : World} {A : Nat → Addr} {s : Bool} (h : PoolLaid w A s) (n : Nat) : PoolLaid (w.drewN n) A s := h.below (below_drewN (Below.refl _ _) n)

/-- a map that holds so much for each int -/
def OwnS (w : World) (m : Nat) (s : Int → Int) (g : Nat) : Prop := ∃ (n : Nat) (D : DataW Unit), w.ownsMap Tryd.prog 3 (plainElem Tryd.prog 3) m n D ∧ n ≤ g ∧ ∀ o : Int, (Lit.int .i64 o).wf = true → D.atKey (.int .i64 o) (.lit (.int .i64 0)) = .lit (.int .i64 (s o))
theorem OwnS.put {w : World} {m n g : Nat} {D : DataW Unit} {s : Int → Int} {o v : Int} (hm : IsMap D) (h : w.ownsMap Tryd.prog 3 (plainElem Tryd.prog 3) m (n + 1) (D.put (.int .i64 o) (.lit (.int .i64 v)))) (hn : n ≤ g)
    (hat : ∀ o : Int, (Lit.int .i64 o).wf = true → D.atKey (.int .i64 o) (.lit (.int .i64 0)) = .lit (.int .i64 (s o))) (hk : WideAt.IsKeyLit (.int .i64 o)) : OwnS w m (fun i => if i = o then v else s i) (g + 1) := by
  refine ⟨n + 1, _, h, by omega, fun i hi => ?_⟩
  show _ = DataW.lit (.int .i64 (if i = o then v else s i))
  by_cases e : i = o
  · subst e
    rw [atKey_put_same hm hk, if_pos rfl]
  · rw [atKey_put_other (fun g => e (by cases g; rfl)), if_neg e, hat i hi]
theorem OwnS.putDel {w : World} {m n g : Nat} {D d : DataW Unit} {dd : DataW Unit} {s : Int → Int} {o v : Int} (e : D = d.put (.int .i64 o) dd) (h : w.ownsMap Tryd.prog 3 (plainElem Tryd.prog 3) m (n + 1) (D.del (.int .i64 o))) (hn : n ≤ g)
    (hat : ∀ o : Int, (Lit.int .i64 o).wf = true → d.atKey (.int .i64 o) (.lit (.int .i64 0)) = .lit (.int .i64 (s o))) (hv : v = 0) : OwnS w m (fun i => if i = o then v else s i) (g + 1) := by
  refine ⟨n + 1, _, h, by omega, fun i hi => ?_⟩
  show _ = DataW.lit (.int .i64 (if i = o then v else s i))
  by_cases ei : i = o
  · subst ei
    rw [atKey_del_same, if_pos rfl, hv]
  · rw [atKey_del_other (fun g => ei (by cases g; rfl)), e, atKey_put_other (fun g => ei (by cases g; rfl)), if_neg ei, hat i hi]
theorem OwnS.del {w : World} {m n g : Nat} {D : DataW Unit} {s : Int → Int} {o : Int} (h : w.ownsMap Tryd.prog 3 (plainElem Tryd.prog 3) m n (D.del (.int .i64 o))) (hn : n ≤ g)
    (hat : ∀ o : Int, (Lit.int .i64 o).wf = true → D.atKey (.int .i64 o) (.lit (.int .i64 0)) = .lit (.int .i64 (s o))) (hz : s o = 0) : OwnS w m s g := by
  refine ⟨n, _, h, hn, fun i hi => ?_⟩
  by_cases e : i = o
  · subst e
    rw [atKey_del_same, hz]
  · rw [atKey_del_other (fun g => e (by cases g; rfl)), hat i hi]

theorem OwnS.look {w : World} {m g : Nat} {s : Int → Int} (h : OwnS w m s g) (o : Int) (ho : (Lit.int .i64 o).wf = true) : (Instr.lookup 93 (.map (some m)) (.int .i64 o) false).run Tryd.prog w = .ok (.int .i64 (s o)) w := by
  obtain ⟨n, D, hown, hn, hat⟩ := h
  obtain ⟨c, hrun, hc, _⟩ := hown.lookup_int keyed Tryd.underlying93 Tryd.underlying3 (zeroInt _) (keyOf_int_mk Tryd.underlying3 ho)
  rw [lit_int (hc.symm.trans (hat o ho))] at hrun
  exact hrun

/-- the program's pool, as it lies in memory -/
structure PoolAt (w : World) (b m : Nat) (x : St) (g : Nat) : Prop where
  c0 : w.cell? ⟨b, 0, none⟩ = some (.int .i64 x.T)
  c1 : w.cell? ⟨b, 1, none⟩ = some (.int .i64 x.A)
  c2 : w.cell? ⟨b, 2, none⟩ = some (.map (some m))
  f0 : w.frozen? ⟨b, 0, none⟩ = false
  f1 : w.frozen? ⟨b, 1, none⟩ = false
  own : OwnS w m x.s g
  ne : b ≠ m
theorem PoolAt.drewN {w : World} {b m g : Nat} {x : St} (h : PoolAt w b m x g) (n : Nat) : PoolAt (w.drewN n) b m x g := ⟨h.c0, h.c1, h.c2, h.f0, h.f1, h.own, h.ne⟩

theorem PoolAt.kept {w w' : World} {b m g : Nat} {x : St} {X : List Nat} (h : PoolAt w b m x g) (hK : Kept X w w') (hb : b ∉ X) (hm : m ∉ X) : PoolAt w' b m x g where
  c0 := hK.old h.c0 hb
  c1 := hK.old h.c1 hb
  c2 := hK.old h.c2 hb
  f0 := by rw [hK.frozen (cell_lt h.c0) hb]; exact h.f0
  f1 := by rw [hK.frozen (cell_lt h.c1) hb]; exact h.f1
  own := by
    obtain ⟨n, D, ⟨es, clock, hes, F, hs, hD⟩, hn, hat⟩ := h.own
    have hlt : m < w.heap.size := (Array.getElem?_eq_some_iff.1 hes).1
    exact ⟨n, D, ⟨es, clock, (hK.block m hlt hm).trans hes, F, hs, hD⟩, hn, hat⟩
  ne := h.ne
theorem PoolAt.lt {w : World} {b m g : Nat} {x : St} (h : PoolAt w b m x g) : b < w.heap.size ∧ m < w.heap.size := by
  obtain ⟨n, D, hown, _⟩ := h.own
  exact ⟨cell_lt h.c0, hown.lt⟩

theorem PoolAt.more {w : World} {b m g g' : Nat} {x : St} (h : PoolAt w b m x g) (hg : g ≤ g') : PoolAt w b m x g' := by
  obtain ⟨n, D, ho, hn, ha⟩ := h.own
  exact ⟨h.c0, h.c1, h.c2, h.f0, h.f1, ⟨n, D, ho, Nat.le_trans hn hg, ha⟩, h.ne⟩

/-- an owner's shares, looked up -/
theorem PoolAt.look {w : World} {b m g : Nat} {x : St} (h : PoolAt w b m x g) (o : Int) (ho : (Lit.int .i64 o).wf = true) (k : Nat) : (Instr.lookup 93 (.map (some m)) (.int .i64 o) false).run Tryd.prog (w.drewN k) = .ok (.int .i64 (x.s o)) (w.drewN k) := by
  obtain ⟨n, D, hown, hn, hat⟩ := (h.drewN k).own
  obtain ⟨c, hrun, hc, _⟩ := hown.lookup_int keyed Tryd.underlying93 Tryd.underlying3 (zeroInt _) (keyOf_int_mk Tryd.underlying3 ho)
  rw [lit_int (hc.symm.trans (hat o ho))] at hrun
  exact hrun

theorem prog_total (b m g : Nat) (x : St) (w : World) (h : PoolAt w b m x g) :
    Calls Tryd.prog 43 #[.pointer (some ⟨b, 0, none⟩)] w fun e w' => e = .returned (.int .i64 x.T) ∧ w' = w := by
  have c0 := h.c0
  go_enter Tryd.func43, Tryd.ntmps43
  go_wp2
  go_ret
  exact ⟨rfl, rfl⟩
/-- what a value's product asks -/
theorem val_amounts' {x : St} (hx : x.Ok) (hA : 0 < x.A) (o : Int) : Amounts (x.s o) x.T x.A ∧ x.s o * x.T / x.A ≤ 1125899906842624 := by
  have h1 := hx.le_all o
  have h2 := hx.a1
  refine ⟨⟨hx.pos o, by omega, hx.t0, hx.t1, by omega, h2⟩, ?_⟩
  have h3 := hx.val1 o
  rw [St.val_some o hA] at h3
  have := hx.t1
  omega

end Go.Proofs.YtaihcceobnfmhaaDoor

namespace Go.Proofs.YtaihcceobnfmhaaDoor
open Go.RowKit Go.Maps

/-- how a pointer to a block's head reads -/
def ptrElem (v : Value) : Option (DataW Unit × List MemPlace) := match v with
  | .pointer (some ⟨b, 0, none⟩) => some (.lit (.int .i64 b), [])
  | _ => none
theorem ptrElem_mk (b : Nat) : ptrElem (.pointer (some ⟨b, 0, none⟩)) = some (.lit (.int .i64 b), []) := rfl
theorem ptrElem_inv {v : Value} {y : DataW Unit × List MemPlace} (h : ptrElem v = some y) : ∃ b : Nat, v = .pointer (some ⟨b, 0, none⟩) ∧ y = (.lit (.int .i64 b), []) := by
  unfold ptrElem at h
  split at h
  · exact ⟨_, rfl, (Option.some.inj h).symm⟩
  · cases h
theorem lit_nat {a b : Nat} (h : (DataW.lit (.int .i64 (a : Int)) : DataW Unit) = .lit (.int .i64 (b : Int))) : a = b := by have := lit_int h; omega

/-- a map that has these keys, and where each leads -/
def OwnQ (w : World) (m : Nat) (H : Int → Bool) (q : Int → Nat) (g : Nat) : Prop :=
  ∃ (n : Nat) (D : DataW Unit), w.ownsMap Tryd.prog 3 ptrElem m n D ∧ n ≤ g ∧ (∀ c : Int, Maps.has D (.int .i64 c) = H c) ∧ ∀ c : Int, H c = true → ∀ z, D.atKey (.int .i64 c) z = .lit (.int .i64 (q c))
/-- .. ranged over: which keys are still to come -/
def RangeQ (w : World) (m r : Nat) (H left : Int → Bool) (q : Int → Nat) (g cnt : Nat) : Prop :=
  ∃ (n : Nat) (D : DataW Unit) (lf : Lit → Bool), w.ranges Tryd.prog 3 ptrElem m r n D lf cnt ∧ n ≤ g ∧ (∀ c : Int, Maps.has D (.int .i64 c) = H c) ∧ (∀ c : Int, H c = true → ∀ z, D.atKey (.int .i64 c) z = .lit (.int .i64 (q c))) ∧ ∀ c : Int, lf (.int .i64 c) = left c
theorem OwnQ.of_block {w w' : World} {m g : Nat} {H : Int → Bool} {q : Int → Nat} (h : OwnQ w m H q g) (hb : w'.heap[m]? = w.heap[m]?) : OwnQ w' m H q g := by
  obtain ⟨n, D, ⟨es, clock, hes, F, hs, hD⟩, r⟩ := h
  exact ⟨n, D, ⟨es, clock, hb.trans hes, F, hs, hD⟩, r⟩
theorem OwnQ.lt {w : World} {m g : Nat} {H : Int → Bool} {q : Int → Nat} (h : OwnQ w m H q g) : m < w.heap.size := by
  obtain ⟨n, D, hown, _⟩ := h
  exact hown.lt
theorem OwnQ.more {w : World} {m g g' : Nat} {H : Int → Bool} {q : Int → Nat} (h : OwnQ w m H q g) (hg : g ≤ g') : OwnQ w m H q g' := by
  obtain ⟨n, D, ho, hn, r⟩ := h
  exact ⟨n, D, ho, Nat.le_trans hn hg, r⟩
theorem OwnQ.congr {w : World} {m g : Nat} {H : Int → Bool} {q q' : Int → Nat} (h : OwnQ w m H q g) (hq : ∀ c, H c = true → q' c = q c) : OwnQ w m H q' g := by
  obtain ⟨n, D, ho, hn, h1, h2⟩ := h
  exact ⟨n, D, ho, hn, h1, fun c hc z => by rw [hq c hc]; exact h2 c hc z⟩
theorem OwnQ.drewN {w : World} {m g : Nat} {H : Int → Bool} {q : Int → Nat} (h : OwnQ w m H q g) (k : Nat) : OwnQ (w.drewN k) m H q g := h.of_block rfl
theorem RangeQ.owns {w : World} {m r g cnt : Nat} {H left : Int → Bool} {q : Int → Nat} (h : RangeQ w m r H left q g cnt) : OwnQ w m H q g := by
  obtain ⟨n, D, lf, hr, hn, h1, h2, _⟩ := h
  exact ⟨n, D, hr.owns, hn, h1, h2⟩
theorem RangeQ.lt {w : World} {m r g cnt : Nat} {H left : Int → Bool} {q : Int → Nat} (h : RangeQ w m r H left q g cnt) : r < w.heap.size ∧ m < w.heap.size ∧ r ≠ m := by
  obtain ⟨n, D, lf, hr, _⟩ := h
  exact ⟨hr.lt, hr.owns.lt, hr.ne⟩
theorem RangeQ.of_blocks {w w' : World} {m r g cnt : Nat} {H left : Int → Bool} {q : Int → Nat} (h : RangeQ w m r H left q g cnt) (hb : w'.heap[m]? = w.heap[m]?) (hr : w'.heap[r]? = w.heap[r]?) : RangeQ w' m r H left q g cnt := by
  obtain ⟨n, D, lf, ⟨es, clock, since, seen, c0, h1, F, hs, hD, h2, rest⟩, r⟩ := h
  exact ⟨n, D, lf, ⟨es, clock, since, seen, c0, hb.trans h1, F, hs, hD, hr.trans h2, rest⟩, r⟩
theorem RangeQ.measure {w : World} {m r g cnt : Nat} {H left : Int → Bool} {q : Int → Nat} (h : RangeQ w m r H left q g cnt) : w.rangeLeft m r = cnt := by
  obtain ⟨n, D, lf, hr, _⟩ := h
  exact hr.left_eq
theorem sameKey_int (a b : Int) : (Lit.int .i64 a).sameKey (.int .i64 b) = decide (a = b) := by
  by_cases e : a = b
  · subst e
    rw [WideAt.sameKey_self (a := .int .i64 a) trivial]; simp
  · rw [sameKey_ne (fun g => e (by cases g; rfl))]; simp [e]
theorem int_ne {a b : Int} (h : a ≠ b) : (Lit.int .i64 a) ≠ .int .i64 b := fun g => h (by cases g; rfl)
/-- strike a key -/
def but (f : Int → Bool) (c : Int) : Int → Bool := fun x => f x && decide (x ≠ c)
theorem but_same (f : Int → Bool) (c : Int) : but f c c = false := by simp [but]
theorem but_other (f : Int → Bool) (c x : Int) (h : x ≠ c) : but f c x = f x := by simp [but, h]
theorem but_true {f : Int → Bool} {c x : Int} (h : but f c x = true) : f x = true ∧ x ≠ c := by simpa [but] using h

section
variable {w : World} {ops : Array Oper} {rest : List Oper} {o : Oper} {a : Act} {Q : Exit → Act → World → Prop}

/-- 'range m' -/
theorem wpList_range_Q (hg : o.guard = none) (x : Operand) (t e : TypeId) (hop : o.op = Op.range t x) (ht : Tryd.prog.underlying t = some (.map 3 e)) {m g : Nat} {H : Int → Bool} {q : Int → Nat}
    (hm : a.eval x = .map (some m)) (h : OwnQ w m H q g)
    (hK : ∀ w' cnt, RangeQ w' m w.heap.size H H q g cnt → Below w.heap.size w w' → wpList Tryd.prog ops Q rest (a.put o.dst (.pointer (some ⟨w.heap.size, 0, none⟩))) w') :
    wpList Tryd.prog ops Q (o :: rest) a w := by
  obtain ⟨n, D, hown, hn, h1, h2⟩ := h
  refine wpList_range_own w hg x t hop 3 e keyed ht ptrElem m n D hm hown fun w' hr hgr hs => hK w' _ ⟨n, D, _, hr, hn, h1, h2, h1⟩ ?_
  exact ⟨hgr.os, hgr.tape, hgr.output, hgr.size, fun k hk => hgr.block k hk (by simp)⟩
/-- the step -/
theorem wpList_next_Q (hg : o.guard = none) (it : Operand) (hop : o.op = Op.next it false) {m r g cnt : Nat} {H left : Int → Bool} {q : Int → Nat}
    (hit : a.eval it = .pointer (some ⟨r, 0, none⟩)) (h : RangeQ w m r H left q g cnt)
    (hDone : (∀ c, left c = false) → wpList Tryd.prog ops Q rest (a.put o.dst (.tuple #[.bool false])) w)
    (hMore : ∀ (c : Int) (w' : World) (cnt' : Nat), (Lit.int .i64 c).wf = true → left c = true → H c = true → RangeQ w' m r H (but left c) q g cnt' → cnt' < cnt → Kept [r] w w' →
      (Instr.entry (.pointer (some ⟨r, 0, none⟩))).run Tryd.prog w' = .ok (.tuple #[.int .i64 c, .pointer (some ⟨q c, 0, none⟩)]) w' → wpList Tryd.prog ops Q rest (a.put o.dst (.tuple #[.bool true, .int .i64 c, .pointer (some ⟨q c, 0, none⟩)])) w') :
    wpList Tryd.prog ops Q (o :: rest) a w := by
  obtain ⟨n, D, lf, hr, hn, h1, h2, h3⟩ := h
  refine wpList_next_ranges w hg it hop 3 keyed ptrElem (Value.int .i64) (fun b : Nat => Value.pointer (some ⟨b, 0, none⟩)) (fun key kl hkey => by obtain ⟨x, rfl, _⟩ := Maps.keyOf_int_inv Tryd.underlying3 hkey; exact ⟨x, rfl⟩)
    (fun v y hv => by obtain ⟨c, rfl, _⟩ := ptrElem_inv hv; exact ⟨c, rfl⟩) m r n D lf cnt hit hr (fun _ hl => hDone fun c => by rw [← h3]; exact hl _) ?_
  intro x b kl y w' cnt' hkey hlk hv hat hrg hlt hgr hsz hen
  obtain ⟨x', ex, rfl, hwx⟩ := Maps.keyOf_int_inv Tryd.underlying3 hkey
  cases ex
  have hy : y = (.lit (.int .i64 b), []) := (Option.some.inj (hv.symm.trans (ptrElem_mk b)))
  have hH : H x = true := by rw [← h1]; exact has_true_of_atKey hat
  have hb : b = q x := by
    have := h2 x hH .nil
    rw [hat .nil, hy] at this
    exact lit_nat this
  subst hb
  refine hMore x w' cnt' hwx (by rw [← h3]; exact hlk) hH ⟨n, D, _, hrg, hn, h1, h2, fun c => ?_⟩ hlt ⟨hgr.os, hgr.tape, hgr.output, hgr.size, fun k hk hx => hgr.block k hk (fun e => hx (by cases e; simp))⟩ hen
  show (lf (.int .i64 c) && !(Lit.int .i64 c).sameKey (.int .i64 x)) = but left x c
  rw [h3, sameKey_int]
  simp [but]
/-- 'delete(m, k)' in the round -/
theorem wpList_delete_Q (hg : o.guard = none) (x y : Operand) (t e : TypeId) (hop : o.op = Op.call { callee := Callee.builtin Builtin.delete, args := #[x, y], argTypes := #[t, 3] }) (ht : Tryd.prog.underlying t = some (.map 3 e))
    {m r g cnt : Nat} {H left : Int → Bool} {q : Int → Nat} (hm : a.eval x = .map (some m)) (h : RangeQ w m r H left q g cnt) (c : Int) (hx : a.eval y = .int .i64 c) (hc : (Lit.int .i64 c).wf = true)
    (hK : ∀ w' cnt', RangeQ w' m r (but H c) (but left c) q g cnt' → cnt' ≤ cnt → Kept [m] w w' → wpList Tryd.prog ops Q rest (a.put o.dst (.tuple #[])) w') :
    wpList Tryd.prog ops Q (o :: rest) a w := by
  obtain ⟨n, D, lf, hr, hn, h1, h2, h3⟩ := h
  refine wpList_delete_ranges w hg x y t 3 hop e keyed ht ptrElem m r n D lf cnt hm hr _ _ hx (keyOf_int_mk Tryd.underlying3 hc) fun w' cnt' hrg hle hturn => hK w' cnt' ⟨n, _, _, hrg, hn, fun z => ?_, fun z hz zd => ?_, fun z => ?_⟩ hle ?_
  · by_cases ez : z = c
    · subst ez; rw [but_same]; exact has_del_same
    · rw [but_other _ _ _ ez, has_del_other (int_ne ez)]; exact h1 z
  · obtain ⟨hz1, ez⟩ := but_true hz
    rw [atKey_del_other (int_ne ez)]; exact h2 z hz1 zd
  · show (lf (.int .i64 z) && !(Lit.int .i64 z).sameKey (.int .i64 c)) = but left c z
    rw [h3, sameKey_int]
    simp [but]
  · have hgr := hturn.grown
    exact ⟨hgr.os, hgr.tape, hgr.output, hgr.size, fun k hk hx => hgr.block k hk (fun e => hx (by cases e; simp))⟩
/-- 'm[k] = v' -/
theorem wpList_update_Q (hg : o.guard = none) (x y z : Operand) (t e : TypeId) (hop : o.op = Op.mapUpdate t x y z) (ht : Tryd.prog.underlying t = some (.map 3 e))
    {m g : Nat} {H : Int → Bool} {q : Int → Nat} (hm : a.eval x = .map (some m)) (h : OwnQ w m H q g) (hg1 : g ≤ 1000000) (c : Int) (hy : a.eval y = .int .i64 c) (hc : (Lit.int .i64 c).wf = true) (p : Nat) (hz : a.eval z = .pointer (some ⟨p, 0, none⟩))
    (hK : ∀ w', OwnQ w' m (set1 H c true) (set1 q c p) (g + 1) → Kept [m] w w' → wpList Tryd.prog ops Q rest (a.put o.dst undef) w') :
    wpList Tryd.prog ops Q (o :: rest) a w := by
  obtain ⟨n, D, hown, hn, h1, h2⟩ := h
  have hmap := hown.isMap
  refine wpList_mapUpdate_own w hg x y z t hop 3 e keyed ht ptrElem m n D hm hown (by unfold maxLen; omega) _ _ _ hy hz (keyOf_int_mk Tryd.underlying3 hc) _ [] (ptrElem_mk p) fun w' ho hgr => hK w' ⟨n + 1, _, ho, by omega, fun k => ?_, fun k hk zd => ?_⟩ ⟨hgr.os, hgr.tape, hgr.output, hgr.size, fun k hk hx => hgr.block k hk (fun e => hx (by cases e; simp))⟩
  · by_cases e : k = c
    · subst e; rw [has_put_same hmap (k := .int .i64 k) trivial, set1_same]
    · rw [has_put_other (int_ne e), set1_other _ _ _ _ e]; exact h1 k
  · by_cases e : k = c
    · subst e; rw [atKey_put_same hmap (k := .int .i64 k) trivial, set1_same]
    · rw [atKey_put_other (int_ne e), set1_other _ _ _ _ e]
      rw [set1_other _ _ _ _ e] at hk
      exact h2 k hk zd
end

/-- 'v, ok := m[k]' -/
theorem OwnQ.look {w : World} {m g : Nat} {H : Int → Bool} {q : Int → Nat} (h : OwnQ w m H q g) {t e : TypeId} (ht : Tryd.prog.underlying t = some (.map 3 e)) (hz : (zeroValue e).run Tryd.prog w = .ok (.pointer none) w) (c : Int) (hc : (Lit.int .i64 c).wf = true) :
    (Instr.lookup t (.map (some m)) (.int .i64 c) true).run Tryd.prog w = .ok (.tuple #[if H c then .pointer (some ⟨q c, 0, none⟩) else .pointer none, .bool (H c)]) w := by
  obtain ⟨n, D, ⟨es, clock, hb, F, _, rfl⟩, hn, h1, h2⟩ := h
  rcases Maps.fit_look true keyed ht hz hb F (keyOf_int_mk Tryd.underlying3 hc) with ⟨hrun, _, hat⟩ | ⟨e0, y, _, _, hrun, hRv, hat, _⟩
  · have e : H c = false := by rw [← h1]; exact Maps.has_false_of_atKey hat
    rw [e]; exact hrun
  · have e : H c = true := by rw [← h1]; exact Maps.has_true_of_atKey hat
    obtain ⟨b, hv, rfl⟩ := ptrElem_inv hRv
    have hb : b = q c := lit_nat ((hat .nil).symm.trans (h2 c e .nil))
    rw [e]
    rw [hv, hb] at hrun
    exact hrun
end Go.Proofs.YtaihcceobnfmhaaDoor
