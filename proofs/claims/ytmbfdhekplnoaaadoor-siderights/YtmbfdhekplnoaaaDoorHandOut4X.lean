/-
  THE STARTER TAKES IN.
  THE STARTER'S LOOP.
  THE STARTER'S LOOP.
-/
import Derived.Test.YtmbfdhekplnoaaaDoorHandOutX
namespace Go.Proofs.YtmbfdhekplnoaaaDoor
open Go Go.Conc Go.RowKit Go.ConcR.Gen

section ho
variable {F : Farm} {A : Nat → Value → Value → (Nat → Prop) → World → Prop} {Env : World → Prop} {fv : Value} {lb : Nat} {ds : List Nat} {O : Nat → Prop}
structure HoTake (F : Farm) (Env : World → Prop) (A : Nat → Value → Value → (Nat → Prop) → World → Prop) (lb : Nat) (ds : List Nat) (i : Nat) (s e : Value) (O X : Nat → Prop) (W : World) : Prop where
  f : HoFacts F Env A lb ds O W
  a : A i s e X W
  x : ∀ b, X b → ¬ O b
  lt : ∀ b, X b → b < W.heap.size ∧ b ≠ F.cn ∧ b ≠ F.ga.block
theorem HoTake.rely (K : WkAsk F Env fv A) {i : Nat} {s e : Value} {X : Nat → Prop} {W W1 : World} (h : HoTake F Env A lb ds i s e O X W) (r : Rely (fun b => O b ∨ X b) F.Sh W W1) : HoTake F Env A lb ds i s e O X W1 :=
  ⟨h.f.rely K ⟨r.size, fun b hb q => r.keep b hb (q.imp .inl id), r.tape, r.os, r.output⟩, K.arely i s e X W W1 h.a ⟨r.size, fun b hb q => r.keep b hb (q.imp .inr id), r.tape, r.os, r.output⟩, h.x, fun b q => ⟨Nat.lt_of_lt_of_le (h.lt b q).1 r.size, (h.lt b q).2⟩⟩
structure HoBox (F : Farm) (Env : World → Prop) (A : Nat → Value → Value → (Nat → Prop) → World → Prop) (lb : Nat) (ds : List Nat) (i : Nat) (s e : Value) (O X : Nat → Prop) (N : Nat) (v0 v1 v2 : Value) (W : World) : Prop where
  t : HoTake F Env A lb ds i s e O X W
  box : ∃ ty, W.heap[N]? = some (.cells #[v0, v1, v2] ty (0, 0))
  nO : ¬ O N
  nX : ¬ X N
  nS : ¬ F.Sh N
  nF : N ≠ F.cn ∧ N ≠ F.ga.block
theorem HoBox.cells {i : Nat} {s e : Value} {X : Nat → Prop} {N : Nat} {v0 v1 v2 : Value} {W : World} (h : HoBox F Env A lb ds i s e O X N v0 v1 v2 W) : W.cell? ⟨N, 0, none⟩ = some v0 ∧ W.cell? ⟨N, 1, none⟩ = some v1 ∧ W.cell? ⟨N, 2, none⟩ = some v2 ∧ W.frozen? ⟨N, 0, none⟩ = false ∧ W.frozen? ⟨N, 1, none⟩ = false ∧ W.frozen? ⟨N, 2, none⟩ = false := by
  obtain ⟨ty, hb⟩ := h.box
  simp [World.cell?, World.frozen?, hb]
theorem HoBox.rely (K : WkAsk F Env fv A) {i : Nat} {s e : Value} {X : Nat → Prop} {N : Nat} {v0 v1 v2 : Value} {W W1 : World} (h : HoBox F Env A lb ds i s e O X N v0 v1 v2 W) (r : Rely (fun b => (O b ∨ X b) ∨ b = N) F.Sh W W1) : HoBox F Env A lb ds i s e O X N v0 v1 v2 W1 := by
  refine ⟨h.t.rely K ⟨r.size, fun b hb q => r.keep b hb (q.imp .inl id), r.tape, r.os, r.output⟩, ?_, h.nO, h.nX, h.nS, h.nF⟩
  obtain ⟨ty, hb⟩ := h.box
  exact ⟨ty, (r.keep N (Array.getElem?_eq_some_iff.1 hb).1 (.inl (.inr rfl))).trans hb⟩
theorem HoBox.made (K : WkAsk F Env fv A) {i : Nat} {s e : Value} {X : Nat → Prop} {W : World} (h : HoTake F Env A lb ds i s e O X W) {v0 v1 v2 : Value} {ty : TypeId} : HoBox F Env A lb ds i s e O X W.heap.size v0 v1 v2 (W.alloc (.cells #[v0, v1, v2] ty)) := by
  refine ⟨h.rely K ⟨by simp, fun b hb _ => ?_, rfl, rfl, rfl⟩, ⟨ty, ?_⟩, fun q => ?_, fun q => ?_, fun q => ?_, ?_⟩
  · show (W.heap.push _)[b]? = _
    rw [Array.getElem?_push_lt hb, Array.getElem?_eq_getElem hb]
  · show (W.heap.push _)[W.heap.size]? = _
    exact Array.getElem?_push_size
  · have := h.f.lt _ (.inl q); omega
  · have := (h.lt _ q).1; omega
  · have := h.f.lt _ (.inr q); omega
  · have := h.f.old; omega
theorem guar_set3 {N : Nat} {O' Sh : Nat → Prop} {u0 u1 u2 : Value} {es : Array Event} {w : World} (ho : O' N) (h : ∀ e ∈ es, ∃ a wr, e = ⟨.cell a, wr, false⟩ ∧ O' a.block) : Guar O' O' Sh w (((w.setCell ⟨N, 0, none⟩ u0).setCell ⟨N, 1, none⟩ u1).setCell ⟨N, 2, none⟩ u2) es := by
  have hb : ∀ b, b ≠ N → (((w.setCell ⟨N, 0, none⟩ u0).setCell ⟨N, 1, none⟩ u1).setCell ⟨N, 2, none⟩ u2).heap[b]? = w.heap[b]? := fun b q => by
    rw [RowKit.Below.heap_setCell _ _ _ _ (fun e => q e), RowKit.Below.heap_setCell _ _ _ _ (fun e => q e), RowKit.Below.heap_setCell _ _ _ _ (fun e => q e)]
  have hsz : (((w.setCell ⟨N, 0, none⟩ u0).setCell ⟨N, 1, none⟩ u1).setCell ⟨N, 2, none⟩ u2).heap.size = w.heap.size := by simp [World.setCell]
  refine ⟨by rw [hsz]; exact Nat.le_refl _, fun b _ q => hb b fun e => q (e ▸ ho), fun _ q => q, fun _ q => .inl q, fun b h1 h2 => absurd h2 (by rw [hsz]; exact Nat.not_lt.2 h1), rfl, rfl, rfl, fun e he => ?_⟩
  obtain ⟨a, wr, rfl, ho⟩ := h e he
  exact ⟨rfl, .inl ho⟩
theorem HoBox.put (K : WkAsk F Env fv A) {i : Nat} {s e : Value} {X : Nat → Prop} {N : Nat} {v0 v1 v2 : Value} {W : World} (h : HoBox F Env A lb ds i s e O X N v0 v1 v2 W) (u0 u1 u2 : Value) : HoBox F Env A lb ds i s e O X N u0 u1 u2 (((W.setCell ⟨N, 0, none⟩ u0).setCell ⟨N, 1, none⟩ u1).setCell ⟨N, 2, none⟩ u2) := by
  have hb : ∀ b, b ≠ N → (((W.setCell ⟨N, 0, none⟩ u0).setCell ⟨N, 1, none⟩ u1).setCell ⟨N, 2, none⟩ u2).heap[b]? = W.heap[b]? := fun b q => by
    rw [RowKit.Below.heap_setCell _ _ _ _ (fun e => q e), RowKit.Below.heap_setCell _ _ _ _ (fun e => q e), RowKit.Below.heap_setCell _ _ _ _ (fun e => q e)]
  refine ⟨h.t.rely K ⟨by simp [World.setCell], fun b _ q => hb b fun e => ?_, rfl, rfl, rfl⟩, ?_, h.nO, h.nX, h.nS, h.nF⟩
  · subst e
    exact q.elim (fun z => z.elim h.nO h.nX) h.nS
  · obtain ⟨ty, hb⟩ := h.box
    refine ⟨ty, ?_⟩
    have lt := (Array.getElem?_eq_some_iff.1 hb).1
    simp [World.setCell, Array.getElem?_modify, hb]
theorem guar_set2 {N j : Nat} {O' Sh : Nat → Prop} {u0 u1 : Value} {es : Array Event} {w : World} (ho : O' N) (h : ∀ e ∈ es, ∃ a wr, e = ⟨.cell a, wr, false⟩ ∧ O' a.block) : Guar O' O' Sh w ((w.setCell ⟨N, j, none⟩ u0).setCell ⟨N, j + 1, none⟩ u1) es := by
  have hb : ∀ b, b ≠ N → ((w.setCell ⟨N, j, none⟩ u0).setCell ⟨N, j + 1, none⟩ u1).heap[b]? = w.heap[b]? := fun b q => by
    rw [RowKit.Below.heap_setCell _ _ _ _ (fun e => q e), RowKit.Below.heap_setCell _ _ _ _ (fun e => q e)]
  have hsz : ((w.setCell ⟨N, j, none⟩ u0).setCell ⟨N, j + 1, none⟩ u1).heap.size = w.heap.size := by simp [World.setCell]
  refine ⟨by rw [hsz]; exact Nat.le_refl _, fun b _ q => hb b fun e => q (e ▸ ho), fun _ q => q, fun _ q => .inl q, fun b h1 h2 => absurd h2 (by rw [hsz]; exact Nat.not_lt.2 h1), rfl, rfl, rfl, fun e he => ?_⟩
  obtain ⟨a, wr, rfl, ho⟩ := h e he
  exact ⟨rfl, .inl ho⟩
theorem HoBox.done (K : WkAsk F Env fv A) {i : Nat} {s e : Value} {X : Nat → Prop} {N : Nat} {v0 v1 v2 : Value} {W : World} (h : HoBox F Env A lb ds i s e O X N v0 v1 v2 W) (hi : i < F.M) (hni : i ∉ ds) : HoFacts F Env A lb (i :: ds) (fun b => (O b ∨ X b) ∨ b = N) ((W.setCell ⟨lb, i * 2, none⟩ s).setCell ⟨lb, i * 2 + 1, none⟩ e) := by
  have hb : ∀ b, b ≠ lb → ((W.setCell ⟨lb, i * 2, none⟩ s).setCell ⟨lb, i * 2 + 1, none⟩ e).heap[b]? = W.heap[b]? := fun b q => by
    rw [RowKit.Below.heap_setCell _ _ _ _ (fun e => q e), RowKit.Below.heap_setCell _ _ _ _ (fun e => q e)]
  have hsz : ((W.setCell ⟨lb, i * 2, none⟩ s).setCell ⟨lb, i * 2 + 1, none⟩ e).heap.size = W.heap.size := by simp [World.setCell]
  have ec : ∀ j, j ≠ i * 2 → j ≠ i * 2 + 1 → ((W.setCell ⟨lb, i * 2, none⟩ s).setCell ⟨lb, i * 2 + 1, none⟩ e).cell? ⟨lb, j, none⟩ = W.cell? ⟨lb, j, none⟩ := fun j h1 h2 => by
    rw [World.cell?_setCell_other (h := fun z => h2 (congrArg Addr.off z).symm), World.cell?_setCell_other (h := fun z => h1 (congrArg Addr.off z).symm)]
  have ef : ∀ j, ((W.setCell ⟨lb, i * 2, none⟩ s).setCell ⟨lb, i * 2 + 1, none⟩ e).frozen? ⟨lb, j, none⟩ = W.frozen? ⟨lb, j, none⟩ := fun j => by simp
  obtain ⟨⟨z0, k0⟩, g0⟩ := h.t.f.row (i * 2) (by omega)
  obtain ⟨⟨z1, k1⟩, g1⟩ := h.t.f.row (i * 2 + 1) (by omega)
  have e0 : ((W.setCell ⟨lb, i * 2, none⟩ s).setCell ⟨lb, i * 2 + 1, none⟩ e).cell? ⟨lb, i * 2, none⟩ = some s := by
    rw [World.cell?_setCell_other (h := fun z => by have := congrArg Addr.off z; simp at this)]
    exact World.cell?_setCell_same _ _ _ k0
  have e1 : ((W.setCell ⟨lb, i * 2, none⟩ s).setCell ⟨lb, i * 2 + 1, none⟩ e).cell? ⟨lb, i * 2 + 1, none⟩ = some e :=
    World.cell?_setCell_same _ _ _ ((World.cell?_setCell_other _ _ _ _ (fun z => by have := congrArg Addr.off z; simp at this)).trans k1)
  have hr : ∀ Y : Nat → Prop, (∀ b, Y b → b ≠ lb) → Rely Y F.Sh W ((W.setCell ⟨lb, i * 2, none⟩ s).setCell ⟨lb, i * 2 + 1, none⟩ e) := fun Y hY =>
    ⟨by rw [hsz]; exact Nat.le_refl _, fun b _ q => hb b fun e => q.elim (fun z => hY b z e) (fun z => h.t.f.nsh (e ▸ z)), rfl, rfl, rfl⟩
  refine ⟨K.rely (fun _ => False) W _ (hr _ fun _ z => z.elim) h.t.f.env, fun b q => ?_, fun b q => q.elim (fun q => q.elim (h.t.f.free b) fun q => (h.t.lt b q).2) (fun q => q ▸ h.nF), by rw [hsz]; exact h.t.f.old, .inl (.inl h.t.f.own), h.t.f.nsh, bare_set (bare_set h.t.f.bare _ _) _ _, fun j hj => ?_, fun j hj => ?_⟩
  · rw [hsz]
    rcases q with ((q | q) | q) | q
    · exact h.t.f.lt b (.inl q)
    · exact (h.t.lt b q).1
    · obtain ⟨ty, hx⟩ := h.box
      exact q ▸ (Array.getElem?_eq_some_iff.1 hx).1
    · exact h.t.f.lt b (.inr q)
  · rw [ef]
    refine ⟨?_, (h.t.f.row j hj).2⟩
    by_cases q0 : j = i * 2
    · subst q0; exact ⟨s, e0⟩
    · by_cases q1 : j = i * 2 + 1
      · subst q1; exact ⟨e, e1⟩
      · rw [ec j q0 q1]; exact (h.t.f.row j hj).1
  · rcases List.mem_cons.1 hj with rfl | hj
    · refine ⟨s, e, X, e0, e1, K.arely _ s e X W _ h.t.a (hr X fun b z q => h.t.x b z (q ▸ h.t.f.own)), fun b z => ⟨.inl (.inr z), fun q => h.t.x b z (q ▸ h.t.f.own)⟩⟩
    · obtain ⟨s', e', X', c0, c1, ha, hx⟩ := h.t.f.got j hj
      have hne : j ≠ i := fun q => hni (q ▸ hj)
      exact ⟨s', e', X', (ec _ (by omega) (by omega)).trans c0, (ec _ (by omega) (by omega)).trans c1, K.arely j s' e' X' W _ ha (hr X' fun b z => (hx b z).2), fun b z => ⟨.inl (.inl (hx b z).1), (hx b z).2⟩⟩
set_option maxRecDepth 100000 in
set_option maxHeartbeats 1000000 in
theorem ho_taken (K : WkAsk F Env fv A) (hP : F.P = Tryd.prog) {cs : List Frame} {next taken i : Nat} {c1 s e : Value} {X : Nat → Prop} {x : Array Value} {W : World} (hM : F.M ≤ 1000) (ht : taken < F.M) (hi : i < F.M) (hni : i ∉ ds) (hX : ∀ b, X b → ¬ O b) (hF : HoFacts F Env A lb ds O W) (hA : A i s e X W) (hXlt : ∀ b, X b → b < W.heap.size ∧ b ≠ F.cn ∧ b ≠ F.ga.block) (h22 : x[22]?.getD undef = .tuple #[.int .i64 1, .bool true, .agg #[.int .i64 i, s, e]]) {S : Stp}
    (h : ∀ x O' W, HoFacts F Env A lb (i :: ds) O' W → GoesJ F.P true F.J F.Sh S O' (hoHead (hoT F.M c1 F.cb lb next (taken + 1) x) cs) W) : GoesJ F.P true F.J F.Sh S (fun b => O b ∨ X b) (hoSel (hoT F.M c1 F.cb lb next taken x) cs) W := by
  refine GoesJ.bindJ (S1 := fun O' g W => HoFacts F Env A lb (i :: ds) O' W ∧ ∃ x, g = hoHead (hoT F.M c1 F.cb lb next (taken + 1) x) cs) (fun O' g W _ q => by obtain ⟨hF, x, rfl⟩ := q; exact h x O' W hF) (GoesJ.of (J := F.J) ?_)
  have hw : IntKind.i64.wrap ((taken : Int) + 1) = ((taken + 1 : Nat) : Int) := by rw [IntKind.wrap_i64]; omega
  have hT : HoTake F Env A lb ds i s e O X W := ⟨hF, hA, hX, hXlt⟩
  clear hF hA
  rw [hP]
  unfold hoSel hoT
  simp only [hoSelOps, hoSelC, hoC, hoR, Tryd.f29, Array.getD_eq_getD_getElem?]
  rw [h22]
  refine walks_goes rfl (fun _ hr => ?_)
  replace hT := hT.rely K hr
  clear hr
  refine goes_oper_k rfl rfl (by k_ne) (fun K' hK => ?_)
  go_simp
  refine hK _ _ ⟨_, guar_none (fun e he => by have hm := mem_listed he; simp [go_sem, *] at hm), ?_⟩
  clear hK K'
  refine walks_goes rfl (fun _ hr => ?_)
  replace hT := hT.rely K hr
  clear hr
  refine goes_oper_k rfl rfl (by k_ne) (fun K' hK => ?_)
  go_simp
  refine hK _ _ ⟨_, guar_none (fun e he => by have hm := mem_listed he; simp [go_sem, *] at hm), ?_⟩
  clear hK K'
  refine walks_goes rfl (fun _ hr => ?_)
  replace hT := hT.rely K hr
  clear hr
  refine goes_oper_k rfl rfl (by k_ne) (fun K' hK => ?_)
  go_simp
  refine hK _ _ ⟨_, guar_none (fun e he => by have hm := mem_listed he; simp [go_sem, *] at hm), ?_⟩
  clear hK K'
  refine Walks.idle rfl (fun _ => stepG_region_end) ?_
  refine Walks.idle rfl (fun _ => stepG_block) ?_
  refine Walks.idle rfl (fun _ => stepG_cond (t := false) rfl) ?_
  simp only [Bool.false_eq_true, ↓reduceIte]
  refine Walks.idle rfl (fun _ => stepG_cond (t := true) rfl) ?_
  simp only [if_true]
  refine Walks.idle rfl (fun _ => stepG_seq) ?_
  refine Walks.idle rfl (fun _ => stepG_region) ?_
  simp only [List.size_toArray, List.length_cons, List.length_nil, Nat.reduceAdd, Nat.zero_add, List.range, List.range.loop]
  refine walks_goes rfl (fun _ hr => ?_)
  replace hT := hT.rely K hr
  clear hr
  refine goes_oper_k rfl rfl (by k_ne) (fun K' hK => ?_)
  go_simp
  refine hK _ _ ⟨_, guar_none (fun e he => by have hm := mem_listed he; simp [go_sem, *] at hm), ?_⟩
  clear hK K'
  refine walks_goes rfl (fun W1 hr => ?_)
  replace hT := hT.rely K hr
  clear hr
  refine goes_oper_k rfl rfl (by k_ne) (fun K' hK => ?_)
  go_simp
  refine hK _ _ ⟨_, guar_alloc (fun e he => by have hm := mem_listed he; simp [go_sem, *] at hm), ?_⟩
  clear hK K'
  have hB : HoBox F Env A lb ds i s e O X W1.heap.size (.int .i64 0) (.slice none 0 0) .nilIface (W1.alloc (.cells #[.int .i64 0, .slice none 0 0, .nilIface] 107)) := HoBox.made K hT
  generalize W1.heap.size = N at hB ⊢
  generalize W1.alloc (.cells #[.int .i64 0, .slice none 0 0, .nilIface] 107) = W2 at hB ⊢
  clear hT
  refine walks_goes rfl (fun W3 hr => ?_)
  replace hB := hB.rely K hr
  clear hr
  obtain ⟨k0, k1, k2, g0, g1, g2⟩ := hB.cells
  obtain ⟨o1, o2⟩ := K.one i s e X W3 hB.t.a
  have r1 := fun (w : World) (a : Addr) (m : Go.Mode) => run_store Tryd.prog w a s m o1
  have r2 := fun (w : World) (a : Addr) (m : Go.Mode) => run_store Tryd.prog w a e m o2
  have v1 := fun (w : World) (es : Array Event) (a : Addr) (m : Go.Mode) => events_store Tryd.prog w es a s m o1
  have v2 := fun (w : World) (es : Array Event) (a : Addr) (m : Go.Mode) => events_store Tryd.prog w es a e m o2
  refine goes_oper_k rfl rfl (by k_ne) (fun K' hK => ?_)
  go_simp
  refine hK _ _ ⟨_, guar_set3 (.inr rfl) (fun e he => ?_), ?_⟩
  · have hm := mem_listed he
    simp [go_sem, stored, storedEv, *] at hm
    rcases hm with rfl | rfl | rfl <;> exact ⟨_, _, rfl, .inr rfl⟩
  clear hK K' r1 r2 v1 v2
  replace hB := hB.put K (.int .i64 i) s e
  clear k0 k1 k2 g0 g1 g2
  generalize ((W3.setCell ⟨N, 0, none⟩ (.int .i64 i)).setCell ⟨N, 1, none⟩ s).setCell ⟨N, 2, none⟩ e = W4 at hB ⊢
  refine Walks.idle rfl (fun _ => stepG_region_end) ?_
  refine Walks.idle rfl (fun _ => stepG_seq) ?_
  refine Walks.idle rfl (fun _ => stepG_region) ?_
  simp only [List.size_toArray, List.length_cons, List.length_nil, Nat.reduceAdd, Nat.zero_add, List.range, List.range.loop]
  refine walks_goes rfl (fun W5 hr => ?_)
  replace hB := hB.rely K hr
  clear hr
  obtain ⟨k0, k1, k2, g0, g1, g2⟩ := hB.cells
  refine goes_oper_k rfl rfl (by k_ne) (fun K' hK => ?_)
  go_simp
  refine hK _ _ ⟨_, guar_reads (fun e he => ?_), ?_⟩
  · have hm := mem_listed he
    simp [go_sem, *] at hm
    try (rcases hm with rfl | rfl <;> exact ⟨_, rfl, .inl (.inr rfl)⟩)
    try (subst hm; exact ⟨_, rfl, .inl (.inr rfl)⟩)
  clear hK K' k0 k1 k2 g0 g1 g2
  refine walks_goes rfl (fun W5 hr => ?_)
  replace hB := hB.rely K hr
  clear hr
  obtain ⟨k0, k1, k2, g0, g1, g2⟩ := hB.cells
  refine goes_oper_k rfl rfl (by k_ne) (fun K' hK => ?_)
  go_simp
  refine hK _ _ ⟨_, guar_reads (fun e he => ?_), ?_⟩
  · have hm := mem_listed he
    simp [go_sem, *] at hm
    try (rcases hm with rfl | rfl <;> exact ⟨_, rfl, .inl (.inr rfl)⟩)
    try (subst hm; exact ⟨_, rfl, .inl (.inr rfl)⟩)
  clear hK K' k0 k1 k2 g0 g1 g2
  refine walks_goes rfl (fun W5 hr => ?_)
  replace hB := hB.rely K hr
  clear hr
  obtain ⟨k0, k1, k2, g0, g1, g2⟩ := hB.cells
  refine goes_oper_k rfl rfl (by k_ne) (fun K' hK => ?_)
  go_simp
  refine hK _ _ ⟨_, guar_reads (fun e he => ?_), ?_⟩
  · have hm := mem_listed he
    simp [go_sem, *] at hm
    try (rcases hm with rfl | rfl <;> exact ⟨_, rfl, .inl (.inr rfl)⟩)
    try (subst hm; exact ⟨_, rfl, .inl (.inr rfl)⟩)
  clear hK K' k0 k1 k2 g0 g1 g2
  refine walks_goes rfl (fun W5 hr => ?_)
  replace hB := hB.rely K hr
  clear hr
  obtain ⟨k0, k1, k2, g0, g1, g2⟩ := hB.cells
  refine goes_oper_k rfl rfl (by k_ne) (fun K' hK => ?_)
  go_simp
  refine hK _ _ ⟨_, guar_reads (fun e he => ?_), ?_⟩
  · have hm := mem_listed he
    simp [go_sem, *] at hm
    try (rcases hm with rfl | rfl <;> exact ⟨_, rfl, .inl (.inr rfl)⟩)
    try (subst hm; exact ⟨_, rfl, .inl (.inr rfl)⟩)
  clear hK K' k0 k1 k2 g0 g1 g2
  refine walks_goes rfl (fun W5 hr => ?_)
  replace hB := hB.rely K hr
  clear hr
  obtain ⟨k0, k1, k2, g0, g1, g2⟩ := hB.cells
  refine goes_oper_k rfl rfl (by k_ne) (fun K' hK => ?_)
  go_simp
  refine hK _ _ ⟨_, guar_reads (fun e he => ?_), ?_⟩
  · have hm := mem_listed he
    simp [go_sem, *] at hm
    try (rcases hm with rfl | rfl <;> exact ⟨_, rfl, .inl (.inr rfl)⟩)
    try (subst hm; exact ⟨_, rfl, .inl (.inr rfl)⟩)
  clear hK K' k0 k1 k2 g0 g1 g2
  have hil : ((i : Nat) : Int) < (F.M : Int) := by omega
  have hi0 : ¬ ((i : Nat) : Int) < 0 := by omega
  refine walks_goes rfl (fun W6 hr => ?_)
  replace hB := hB.rely K hr
  clear hr
  refine goes_oper_k rfl rfl (by k_ne) (fun K' hK => ?_)
  go_simp
  refine hK _ _ ⟨_, guar_none (fun e he => by have hm := mem_listed he; simp [go_sem, *] at hm), ?_⟩
  clear hK K'
  have r1 := fun (w : World) (a : Addr) (m : Go.Mode) => run_store Tryd.prog w a s m o1
  have r2 := fun (w : World) (a : Addr) (m : Go.Mode) => run_store Tryd.prog w a e m o2
  have v1 := fun (w : World) (es : Array Event) (a : Addr) (m : Go.Mode) => events_store Tryd.prog w es a s m o1
  have v2 := fun (w : World) (es : Array Event) (a : Addr) (m : Go.Mode) => events_store Tryd.prog w es a e m o2
  refine walks_goes rfl (fun W7 hr => ?_)
  replace hB := hB.rely K hr
  clear hr
  obtain ⟨⟨z0, k0⟩, g0⟩ := hB.t.f.row (i * 2) (by omega)
  obtain ⟨⟨z1, k1⟩, g1⟩ := hB.t.f.row (i * 2 + 1) (by omega)
  refine goes_oper_k rfl rfl (by k_ne) (fun K' hK => ?_)
  go_simp
  refine hK _ _ ⟨_, guar_set2 (N := lb) (.inl (.inl hB.t.f.own)) (fun e he => ?_), ?_⟩
  · have hm := mem_listed he
    simp [go_sem, *] at hm
    rcases hm with rfl | rfl <;> exact ⟨_, _, rfl, .inl (.inl hB.t.f.own)⟩
  clear hK K' r1 r2 v1 v2
  have hD := hB.done K hi hni
  clear hB k0 k1 g0 g1
  generalize (W7.setCell ⟨lb, i * 2, none⟩ s).setCell ⟨lb, i * 2 + 1, none⟩ e = W8 at hD ⊢
  refine Walks.idle rfl (fun _ => stepG_region_end) ?_
  refine Walks.idle rfl (fun _ => stepG_region) ?_
  simp only [List.size_toArray, List.length_cons, List.length_nil, Nat.reduceAdd, Nat.zero_add, List.range, List.range.loop]
  refine walks_goes rfl (fun W1 hr => ?_)
  replace hD := hD.rely K hr
  clear hr
  refine goes_oper_k rfl rfl (by k_ne) (fun K' hK => ?_)
  go_simp
  refine hK _ _ ⟨_, guar_none (fun e he => by have hm := mem_listed he; simp [go_sem, *] at hm), ?_⟩
  clear hK K'
  refine walks_goes rfl (fun W1 hr => ?_)
  replace hD := hD.rely K hr
  clear hr
  refine goes_oper_k rfl rfl (by k_ne) (fun K' hK => ?_)
  go_simp
  refine hK _ _ ⟨_, guar_none (fun e he => by have hm := mem_listed he; simp [go_sem, *] at hm), ?_⟩
  clear hK K'
  refine walks_goes rfl (fun W1 hr => ?_)
  replace hD := hD.rely K hr
  clear hr
  refine goes_oper_k rfl rfl (by k_ne) (fun K' hK => ?_)
  go_simp
  refine hK _ _ ⟨_, guar_none (fun e he => by have hm := mem_listed he; simp [go_sem, *] at hm), ?_⟩
  clear hK K'
  refine Walks.idle rfl (fun _ => stepG_region_end) ?_
  refine Walks.idle rfl (fun _ => stepG_inBlock) ?_
  refine Walks.idle rfl (fun _ => stepG_inBlock) ?_
  refine Walks.idle rfl (fun _ => stepG_inLoop) ?_
  refine Walks.stop fun _ hr => ⟨hD.rely K hr, #[.int .i64 F.M, c1, .chan (some F.cb), x.getD 3 undef, x.getD 4 undef, x.getD 5 undef, .slice none 0 0, .slice (some ⟨lb, 0, none⟩) F.M F.M, .int .i64 next, .int .i64 (taken + 1), .pointer (some ⟨N, 0, none⟩), x.getD 11 undef, x.getD 12 undef, x.getD 13 undef, x.getD 14 undef, x.getD 15 undef, x.getD 16 undef, x.getD 17 undef, x.getD 18 undef, x.getD 19 undef, x.getD 20 undef, x.getD 21 undef, .tuple #[.int .i64 1, .bool true, .agg #[.int .i64 i, s, e]], .int .i64 1, .bool false, .bool true, x.getD 26 undef, x.getD 27 undef, .agg #[.int .i64 i, s, e], .slice (some ⟨lb, 0, none⟩) F.M F.M, .pointer (some ⟨N, 0, none⟩), .int .i64 i, .pointer (some ⟨N, 1, none⟩), .agg #[s, e], .pointer (some ⟨lb, i * 2, none⟩), .int .i64 taken, .int .i64 (taken + 1), x.getD 37 undef], ?_⟩
  simp [hoHead, hoC, hoR, Tryd.f29]
end ho
end Go.Proofs.YtmbfdhekplnoaaaDoor

namespace Go.Proofs.YtmbfdhekplnoaaaDoor
open Go Go.Conc Go.RowKit Go.ConcR.Gen

section ho
variable {F : Farm} {A : Nat → Value → Value → (Nat → Prop) → World → Prop} {Env : World → Prop} {fv : Value} {lb : Nat}
noncomputable def hoMidC : Code := match hoC with
  | .seq _ (.block _ (.seq _ c)) => c
  | _ => .skip
noncomputable def hoMid (T : Array Value) (cs : List Frame) : Goroutine := G ((base 29).at ⟨T, []⟩ [.code hoMidC, .inBlock 1, .inLoop hoC, .inBlock 0, .code hoR]) cs
def hoCases (c1 : Value) (next cb : Nat) (zv : Value) : Array CommCase := #[{ chan := c1, send := some (.int .i64 next), zero := .int .i64 0 }, rcase cb zv]
theorem MSel.here {m next : Nat} {ds : List Nat} {O : Nat → Prop} {fr : Frame} {cs : List Frame} {W : World} {cases : Array CommCase} {sh : CommShape} (hc : ∀ W1, stepG F.P true (G fr cs) W1 = .comm (G fr cs) cases true sh W1 #[]) (h : SelC F (MSel F m) next ds O (G fr cs) cases sh W) : MSel F (m + 1) next ds O (G fr cs) W :=
  ⟨rfl, _, _, _, fun _ => hc _, h⟩
set_option maxRecDepth 100000 in
set_option maxHeartbeats 1000000 in
theorem ho_mid (K : WkAsk F Env fv A) (hP : F.P = Tryd.prog) (hnum : ∀ i : Nat, F.num i = .int .i64 i) (hM : F.M ≤ 1000) {cs : List Frame} {m next : Nat} {ds : List Nat} {c1 : Value} {x : Array Value} {O : Nat → Prop} {W : World}
    (hR : ∀ i v X W, F.R i v X W → ∃ s e, v = .agg #[.int .i64 i, s, e] ∧ A i s e X W ∧ ∀ b, X b → b < W.heap.size ∧ b ≠ F.cn ∧ b ≠ F.ga.block)
    (hlt : ds.length < F.M) (hnx : next ≤ F.M) (hcs : next < F.M → c1 = .chan (some F.cn)) (hcn : ¬ next < F.M → c1 = .chan none) (hF : HoFacts F Env A lb ds O W)
    (hs : next < F.M → ∀ x W, HoFacts F Env A lb ds O W → GoesJ F.P true F.J F.Sh (MSel F m (next + 1) ds) O (hoHead (hoT F.M c1 F.cb lb (next + 1) ds.length x) cs) W)
    (ht : ∀ i x O' W, i < next → i ∉ ds → HoFacts F Env A lb (i :: ds) O' W → GoesJ F.P true F.J F.Sh (MSel F m next (i :: ds)) O' (hoHead (hoT F.M c1 F.cb lb next (ds.length + 1) x) cs) W) :
    GoesJ F.P true F.J F.Sh (MSel F (m + 1) next ds) O (hoMid (hoT F.M c1 F.cb lb next ds.length x) cs) W := by
  refine GoesJ.of ?_
  rw [hP]
  unfold hoMid hoT
  simp only [hoMidC, hoC, hoR, Tryd.f29]
  refine Walks.idle rfl (fun _ => stepG_seq) ?_
  refine Walks.idle rfl (fun _ => stepG_seq) ?_
  refine Walks.idle rfl (fun _ => stepG_seq) ?_
  refine Walks.idle rfl (fun _ => stepG_region) ?_
  simp only [List.size_toArray, List.length_cons, List.length_nil, Nat.zero_add, List.range, List.range.loop]
  refine walks_goes rfl (fun W1 hr => ?_)
  replace hF := hF.rely K hr
  clear hr
  refine goes_oper_k rfl rfl (by k_ne) (fun K' hK => ?_)
  go_simp
  refine hK _ _ ⟨_, guar_none (fun e he => by have hm := mem_listed he; simp [go_sem, *] at hm), ?_⟩
  clear hK K'
  refine Walks.idle rfl (fun _ => stepG_region_end) ?_
  refine Walks.idle rfl (fun _ => stepG_region) ?_
  simp only [List.size_toArray, List.length_cons, List.length_nil, Nat.zero_add, List.range, List.range.loop]
  refine walks_goes rfl (fun W1 hr => ?_)
  replace hF := hF.rely K hr
  clear hr
  refine goes_oper_k rfl rfl (by k_ne) (fun K' hK => ?_)
  go_simp
  refine hK _ _ ⟨_, guar_none (fun e he => by have hm := mem_listed he; simp [go_sem, *] at hm), ?_⟩
  clear hK K'
  refine Walks.idle rfl (fun _ => stepG_region_end) ?_
  refine Walks.idle rfl (fun _ => stepG_region) ?_
  simp only [List.size_toArray, List.length_cons, List.length_nil, Nat.zero_add, List.range, List.range.loop]
  refine walks_goes rfl (fun W1 hr => ?_)
  replace hF := hF.rely K hr
  clear hr
  refine goes_oper_k rfl rfl (by k_ne) (fun K' hK => ?_)
  go_simp
  refine hK _ _ ⟨_, guar_none (fun e he => by have hm := mem_listed he; simp [go_sem, *] at hm), ?_⟩
  clear hK K'
  refine Walks.idle rfl (fun _ => stepG_region_end) ?_
  refine Walks.idle rfl (fun _ => stepG_seq) ?_
  refine Walks.idle rfl (fun _ => stepG_region) ?_
  simp only [List.size_toArray, List.length_cons, List.length_nil, Nat.reduceAdd, Nat.zero_add, List.range, List.range.loop]
  refine Walks.stop fun W1 hr => ?_
  replace hF := hF.rely K hr
  clear hr
  refine MSel.here (cases := hoCases c1 next F.cb (.agg #[.int .i64 0, .slice none 0 0, .nilIface])) (sh := .select) (fun W2 => ?_) ⟨0, 1, ?_, fun hn W2 hr2 => ?_, fun i v X hi hni hX W2 hr2 hRv => ?_⟩
  · rw [hP]
    refine (stepG_comm (cases := hoCases c1 next F.cb (.agg #[.int .i64 0, .slice none 0 0, .nilIface])) (blocking := true) (shape := .select) (w' := W2) rfl rfl (by k_ne) (by simp [go_sem, hoCases, rcase])).trans ?_
    simp [listed, go_sem, seen_none]
  · refine ⟨by decide, by decide, by decide, rfl, ⟨_, rfl⟩, fun h => ⟨.int .i64 0, ?_⟩, fun h => ⟨_, rfl, ?_⟩⟩
    · rw [hnum, hcs h]; rfl
    · show c1 = _
      exact hcn h
  · have hF2 := hF.rely K hr2.r
    rw [finish_G]
    have e := ho_sent (cs := cs) (M := F.M) (next := next) (taken := ds.length) (c1 := c1) (z := .agg #[.int .i64 0, .slice none 0 0, .nilIface]) (x := #[.int .i64 F.M, c1, .chan (some F.cb), x.getD 3 undef, x.getD 4 undef, x.getD 5 undef, .slice none 0 0, .slice (some ⟨lb, 0, none⟩) F.M F.M, .int .i64 next, .int .i64 ds.length, x.getD 10 undef, x.getD 11 undef, x.getD 12 undef, x.getD 13 undef, x.getD 14 undef, x.getD 15 undef, x.getD 16 undef, x.getD 17 undef, x.getD 18 undef, c1, .int .i64 next, .chan (some F.cb), .tuple #[.int .i64 0, .bool false, .agg #[.int .i64 0, .slice none 0 0, .nilIface]], x.getD 23 undef, x.getD 24 undef, x.getD 25 undef, x.getD 26 undef, x.getD 27 undef, x.getD 28 undef, x.getD 29 undef, x.getD 30 undef, x.getD 31 undef, x.getD 32 undef, x.getD 33 undef, x.getD 34 undef, x.getD 35 undef, x.getD 36 undef, x.getD 37 undef]) K hP (by omega) hF2 rfl (fun x W h => hs hn x W h)
    rw [hP] at e ⊢
    refine cast (congrArg (fun g => GoesJ Tryd.prog true F.J F.Sh (MSel F m (next + 1) ds) O g W2) ?_) e
    unfold hoSel
    simp [hoT, hoSelOps, hoSelC, hoC, hoR, Tryd.f29, commResult, hoCases, rcase, Act.put, goInt]
  · have hF2 := hF.rely K hr2.r
    obtain ⟨s, e, rfl, hA, hXlt⟩ := hR i v X W2 hRv
    rw [finish_G]
    have e := ho_taken (cs := cs) (next := next) (taken := ds.length) (c1 := c1) (x := #[.int .i64 F.M, c1, .chan (some F.cb), x.getD 3 undef, x.getD 4 undef, x.getD 5 undef, .slice none 0 0, .slice (some ⟨lb, 0, none⟩) F.M F.M, .int .i64 next, .int .i64 ds.length, x.getD 10 undef, x.getD 11 undef, x.getD 12 undef, x.getD 13 undef, x.getD 14 undef, x.getD 15 undef, x.getD 16 undef, x.getD 17 undef, x.getD 18 undef, c1, .int .i64 next, .chan (some F.cb), .tuple #[.int .i64 1, .bool true, .agg #[.int .i64 i, s, e]], x.getD 23 undef, x.getD 24 undef, x.getD 25 undef, x.getD 26 undef, x.getD 27 undef, x.getD 28 undef, x.getD 29 undef, x.getD 30 undef, x.getD 31 undef, x.getD 32 undef, x.getD 33 undef, x.getD 34 undef, x.getD 35 undef, x.getD 36 undef, x.getD 37 undef]) K hP hM hlt (by omega) hni hX hF2 hA hXlt rfl (fun x O' W h => ht i x O' W hi hni h)
    rw [hP] at e ⊢
    refine cast (congrArg (fun g => GoesJ Tryd.prog true F.J F.Sh (MSel F m next (i :: ds)) (fun b => O b ∨ X b) g W2) ?_) e
    unfold hoSel
    simp [hoT, hoSelOps, hoSelC, hoC, hoR, Tryd.f29, commResult, hoCases, rcase, Act.put, goInt]
end ho
end Go.Proofs.YtmbfdhekplnoaaaDoor

namespace Go.Proofs.YtmbfdhekplnoaaaDoor
open Go Go.Conc Go.RowKit Go.ConcR.Gen

section ho
variable {F : Farm} {A : Nat → Value → Value → (Nat → Prop) → World → Prop} {Env : World → Prop} {fv : Value} {lb : Nat}
set_option maxRecDepth 100000 in
set_option maxHeartbeats 1000000 in
theorem ho_sel (K : WkAsk F Env fv A) (hP : F.P = Tryd.prog) (hnum : ∀ i : Nat, F.num i = .int .i64 i) (hM : F.M ≤ 1000) {cs : List Frame} (hR : ∀ i v X W, F.R i v X W → ∃ s e, v = .agg #[.int .i64 i, s, e] ∧ A i s e X W ∧ ∀ b, X b → b < W.heap.size ∧ b ≠ F.cn ∧ b ≠ F.ga.block)
    (hclose : ∀ ds O W c1 x, ds.length = F.M → ds.Nodup → (∀ i ∈ ds, i < F.M) → HoFacts F Env A lb ds O W → GoesJ F.P true F.J F.Sh (F.Close ds) O (G ((base 29).at ⟨hoT F.M c1 F.cb lb F.M F.M x, []⟩ [.code hoR]) cs) W) :
    ∀ (m next : Nat) (ds : List Nat) (c1 : Value) (x : Array Value) (O : Nat → Prop) (W : World), m = (F.M - next) + (F.M - ds.length) → next ≤ F.M → ds.length ≤ next → ds.Nodup → (∀ i ∈ ds, i < next) → (next < F.M → c1 = .chan (some F.cn)) → HoFacts F Env A lb ds O W →
      GoesJ F.P true F.J F.Sh (MSel F m next ds) O (hoHead (hoT F.M c1 F.cb lb next ds.length x) cs) W := by
  intro m
  induction m with
  | zero =>
    intro next ds c1 x O W hm hnx hdn hnd hdl hc1 hF
    have h1 : next = F.M := by omega
    have h2 : ds.length = F.M := by omega
    have hcmp : ¬ ((F.M : Nat) : Int) < (F.M : Int) := by omega
    show GoesJ F.P true F.J F.Sh (F.Close ds) O _ W
    rw [h1, h2]
    refine GoesJ.bindJ (S1 := fun O' g W => O' = O ∧ HoFacts F Env A lb ds O W ∧ ∃ c1 x, g = G ((base 29).at ⟨hoT F.M c1 F.cb lb F.M F.M x, []⟩ [.code hoR]) cs) (fun O' g W _ q => by obtain ⟨rfl, hF, c1, x, rfl⟩ := q; exact hclose ds _ W c1 x h2 hnd (fun i hi => h1 ▸ hdl i hi) hF) (GoesJ.of (J := F.J) ?_)
    clear hclose hR hm hnx hdn hc1 hdl h1 h2
    rw [hP]
    unfold hoHead hoT
    simp only [hoC, hoR, Tryd.f29]
    refine Walks.idle rfl (fun _ => stepG_seq) ?_
    refine Walks.idle rfl (fun _ => stepG_seq) ?_
    refine Walks.idle rfl (fun _ => stepG_region) ?_
    simp only [List.size_toArray, List.length_cons, List.length_nil, Nat.reduceAdd, Nat.zero_add, List.range, List.range.loop]
    refine walks_goes rfl (fun W1 hr => ?_)
    replace hF := hF.rely K hr
    clear hr
    refine goes_oper_k rfl rfl (by k_ne) (fun K' hK => ?_)
    go_simp
    refine hK _ _ ⟨_, guar_none (fun e he => by have hm := mem_listed he; simp [go_sem, *] at hm), ?_⟩
    clear hK K'
    refine walks_goes rfl (fun W1 hr => ?_)
    replace hF := hF.rely K hr
    clear hr
    refine goes_oper_k rfl rfl (by k_ne) (fun K' hK => ?_)
    go_simp
    refine hK _ _ ⟨_, guar_none (fun e he => by have hm := mem_listed he; simp [go_sem, *] at hm), ?_⟩
    clear hK K'
    refine walks_goes rfl (fun W1 hr => ?_)
    replace hF := hF.rely K hr
    clear hr
    refine goes_oper_k rfl rfl (by k_ne) (fun K' hK => ?_)
    go_simp
    refine hK _ _ ⟨_, guar_none (fun e he => by have hm := mem_listed he; simp [go_sem, *] at hm), ?_⟩
    clear hK K'
    refine Walks.idle rfl (fun _ => stepG_region_end) ?_
    refine Walks.idle rfl (fun _ => stepG_cond (t := false) rfl) ?_
    simp only [Bool.false_eq_true, ↓reduceIte]
    refine Walks.idle rfl (fun _ => stepG_exit rfl) ?_
    refine Walks.stop fun _ hr => ⟨rfl, hF.rely K hr, c1, #[.int .i64 F.M, c1, .chan (some F.cb), x.getD 3 undef, x.getD 4 undef, x.getD 5 undef, .slice none 0 0, .slice (some ⟨lb, 0, none⟩) F.M F.M, .int .i64 F.M, .int .i64 F.M, x.getD 10 undef, x.getD 11 undef, x.getD 12 undef, .int .i64 F.M, .int .i64 F.M, .bool false, x.getD 16 undef, x.getD 17 undef, x.getD 18 undef, x.getD 19 undef, x.getD 20 undef, x.getD 21 undef, x.getD 22 undef, x.getD 23 undef, x.getD 24 undef, x.getD 25 undef, x.getD 26 undef, x.getD 27 undef, x.getD 28 undef, x.getD 29 undef, x.getD 30 undef, x.getD 31 undef, x.getD 32 undef, x.getD 33 undef, x.getD 34 undef, x.getD 35 undef, x.getD 36 undef, x.getD 37 undef], ?_⟩
    simp
  | succ m ih =>
    intro next ds c1 x O W hm hnx hdn hnd hdl hc1 hF
    have hlt : ds.length < F.M := by omega
    have hcmp : ((ds.length : Nat) : Int) < (F.M : Int) := by omega
    refine GoesJ.bindJ (S1 := fun O' g W => O' = O ∧ HoFacts F Env A lb ds O W ∧ ∃ x, g = hoMid (hoT F.M (if next < F.M then .chan (some F.cn) else .chan none) F.cb lb next ds.length x) cs) (fun O' g W _ q => ?_) (GoesJ.of (J := F.J) ?_)
    · obtain ⟨rfl, hF, x, rfl⟩ := q
      refine ho_mid K hP hnum hM hR hlt hnx (fun h => if_pos h) (fun h => if_neg h) hF (fun hn x W hF => ?_) (fun i x O' W hi hni hF => ?_)
      · exact ih (next + 1) ds _ x _ W (by omega) (by omega) (by omega) hnd (fun i hi => Nat.lt_succ_of_lt (hdl i hi)) (fun h => if_pos hn) hF
      · have hlen : (i :: ds).length ≤ next := by
          have := nodup_le next (i :: ds) (List.nodup_cons.2 ⟨hni, hnd⟩) (fun j hj => (List.mem_cons.1 hj).elim (fun q => q ▸ hi) (hdl j))
          exact this
        exact ih next (i :: ds) _ x _ W (by simp only [List.length_cons] at hlen ⊢; omega) hnx hlen (List.nodup_cons.2 ⟨hni, hnd⟩) (fun j hj => (List.mem_cons.1 hj).elim (fun q => q ▸ hi) (hdl j)) (fun h => if_pos h) hF
    rw [hP]
    unfold hoHead hoT
    simp only [hoC, hoR, Tryd.f29]
    refine Walks.idle rfl (fun _ => stepG_seq) ?_
    refine Walks.idle rfl (fun _ => stepG_seq) ?_
    refine Walks.idle rfl (fun _ => stepG_region) ?_
    simp only [List.size_toArray, List.length_cons, List.length_nil, Nat.reduceAdd, Nat.zero_add, List.range, List.range.loop]
    refine walks_goes rfl (fun W1 hr => ?_)
    replace hF := hF.rely K hr
    clear hr
    refine goes_oper_k rfl rfl (by k_ne) (fun K' hK => ?_)
    go_simp
    refine hK _ _ ⟨_, guar_none (fun e he => by have hm := mem_listed he; simp [go_sem, *] at hm), ?_⟩
    clear hK K'
    refine walks_goes rfl (fun W1 hr => ?_)
    replace hF := hF.rely K hr
    clear hr
    refine goes_oper_k rfl rfl (by k_ne) (fun K' hK => ?_)
    go_simp
    refine hK _ _ ⟨_, guar_none (fun e he => by have hm := mem_listed he; simp [go_sem, *] at hm), ?_⟩
    clear hK K'
    refine walks_goes rfl (fun W1 hr => ?_)
    replace hF := hF.rely K hr
    clear hr
    refine goes_oper_k rfl rfl (by k_ne) (fun K' hK => ?_)
    go_simp
    refine hK _ _ ⟨_, guar_none (fun e he => by have hm := mem_listed he; simp [go_sem, *] at hm), ?_⟩
    clear hK K'
    refine Walks.idle rfl (fun _ => stepG_region_end) ?_
    refine Walks.idle rfl (fun _ => stepG_cond (t := true) rfl) ?_
    simp only [if_true]
    refine Walks.idle rfl (fun _ => stepG_skip) ?_
    refine Walks.idle rfl (fun _ => stepG_block) ?_
    refine Walks.idle rfl (fun _ => stepG_seq) ?_
    refine Walks.idle rfl (fun _ => stepG_seq) ?_
    refine Walks.idle rfl (fun _ => stepG_region) ?_
    simp only [List.size_toArray, List.length_cons, List.length_nil, Nat.reduceAdd, Nat.zero_add, List.range, List.range.loop]
    refine walks_goes rfl (fun W1 hr => ?_)
    replace hF := hF.rely K hr
    clear hr
    refine goes_oper_k rfl rfl (by k_ne) (fun K' hK => ?_)
    go_simp
    refine hK _ _ ⟨_, guar_none (fun e he => by have hm := mem_listed he; simp [go_sem, *] at hm), ?_⟩
    clear hK K'
    refine walks_goes rfl (fun W1 hr => ?_)
    replace hF := hF.rely K hr
    clear hr
    refine goes_oper_k rfl rfl (by k_ne) (fun K' hK => ?_)
    go_simp
    refine hK _ _ ⟨_, guar_none (fun e he => by have hm := mem_listed he; simp [go_sem, *] at hm), ?_⟩
    clear hK K'
    by_cases hnM : next = F.M
    · have hne : (((next : Nat) : Int) == (F.M : Int)) = true := by simp; omega
      have hge : ¬ next < F.M := by omega
      clear hnM
      refine walks_goes rfl (fun W1 hr => ?_)
      replace hF := hF.rely K hr
      clear hr
      refine goes_oper_k rfl rfl (by k_ne) (fun K' hK => ?_)
      go_simp
      refine hK _ _ ⟨_, guar_none (fun e he => by have hm := mem_listed he; simp [go_sem, *] at hm), ?_⟩
      clear hK K'
      refine Walks.idle rfl (fun _ => stepG_region_end) ?_
      refine Walks.idle rfl (fun _ => stepG_cond (t := true) rfl) ?_
      simp only [if_true]
      refine Walks.idle rfl (fun _ => stepG_region) ?_
      simp only [List.size_toArray, List.length_cons, List.length_nil, Nat.zero_add, List.range, List.range.loop]
      refine walks_goes rfl (fun W1 hr => ?_)
      replace hF := hF.rely K hr
      clear hr
      refine goes_oper_k rfl rfl (by k_ne) (fun K' hK => ?_)
      go_simp
      refine hK _ _ ⟨_, guar_none (fun e he => by have hm := mem_listed he; simp [go_sem, *] at hm), ?_⟩
      clear hK K'
      refine Walks.idle rfl (fun _ => stepG_region_end) ?_
      refine Walks.stop fun _ hr => ⟨rfl, hF.rely K hr, #[.int .i64 F.M, c1, .chan (some F.cb), x.getD 3 undef, x.getD 4 undef, x.getD 5 undef, .slice none 0 0, .slice (some ⟨lb, 0, none⟩) F.M F.M, .int .i64 next, .int .i64 ds.length, x.getD 10 undef, x.getD 11 undef, x.getD 12 undef, .int .i64 ds.length, .int .i64 F.M, .bool true, .int .i64 next, .int .i64 F.M, .bool true, x.getD 19 undef, x.getD 20 undef, x.getD 21 undef, x.getD 22 undef, x.getD 23 undef, x.getD 24 undef, x.getD 25 undef, x.getD 26 undef, x.getD 27 undef, x.getD 28 undef, x.getD 29 undef, x.getD 30 undef, x.getD 31 undef, x.getD 32 undef, x.getD 33 undef, x.getD 34 undef, x.getD 35 undef, x.getD 36 undef, x.getD 37 undef], ?_⟩
      rw [if_neg hge]
      simp [hoMid, hoMidC, hoC, hoR, Tryd.f29]
    · have hne : (((next : Nat) : Int) == (F.M : Int)) = false := by simp; omega
      have hge : next < F.M := by omega
      clear hnM
      refine walks_goes rfl (fun W1 hr => ?_)
      replace hF := hF.rely K hr
      clear hr
      refine goes_oper_k rfl rfl (by k_ne) (fun K' hK => ?_)
      go_simp
      refine hK _ _ ⟨_, guar_none (fun e he => by have hm := mem_listed he; simp [go_sem, *] at hm), ?_⟩
      clear hK K'
      refine Walks.idle rfl (fun _ => stepG_region_end) ?_
      refine Walks.idle rfl (fun _ => stepG_cond (t := false) rfl) ?_
      simp only [Bool.false_eq_true, ↓reduceIte]
      refine Walks.idle rfl (fun _ => stepG_skip) ?_
      refine Walks.stop fun _ hr => ⟨rfl, hF.rely K hr, #[.int .i64 F.M, c1, .chan (some F.cb), x.getD 3 undef, x.getD 4 undef, x.getD 5 undef, .slice none 0 0, .slice (some ⟨lb, 0, none⟩) F.M F.M, .int .i64 next, .int .i64 ds.length, x.getD 10 undef, x.getD 11 undef, x.getD 12 undef, .int .i64 ds.length, .int .i64 F.M, .bool true, .int .i64 next, .int .i64 F.M, .bool false, x.getD 19 undef, x.getD 20 undef, x.getD 21 undef, x.getD 22 undef, x.getD 23 undef, x.getD 24 undef, x.getD 25 undef, x.getD 26 undef, x.getD 27 undef, x.getD 28 undef, x.getD 29 undef, x.getD 30 undef, x.getD 31 undef, x.getD 32 undef, x.getD 33 undef, x.getD 34 undef, x.getD 35 undef, x.getD 36 undef, x.getD 37 undef], ?_⟩
      rw [if_pos hge, hc1 hge]
      simp [hoMid, hoMidC, hoC, hoR, Tryd.f29]
end ho
end Go.Proofs.YtmbfdhekplnoaaaDoor
