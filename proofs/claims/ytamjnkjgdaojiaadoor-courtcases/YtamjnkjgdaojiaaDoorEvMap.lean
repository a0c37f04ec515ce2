/-
  A map whose keys are evidence (structs of three ints), as a set: looked up, written.
-/
import Derived.Test.YtamjnkjgdaojiaaDoorCourtMath
import Derived.Test.YtamjnkjgdaojiaaDoorKept
import Derived.Maps.OwnSet
import Derived.DeepKeys4
namespace Go.Proofs.YtamjnkjgdaojiaaDoor
open Go.RowKit Go.Maps

theorem Tryd.evLaid : laidOutB Tryd.prog = true := by kernel_rfl
theorem Tryd.evRow : (53 : TypeId) < Tryd.prog.types.size := of_decide_eq_true (by kernel_rfl)
theorem Tryd.evCells : Tryd.prog.cellsOf 53 = 3 := by kernel_rfl
theorem Tryd.evType : Tryd.prog.keyType 53 = true := by kernel_rfl
theorem Tryd.evDeep : Tryd.prog.keyTypeAt 2 53 = true := by kernel_rfl
theorem evKeyed : Keyed Tryd.prog 53 := Keyed.of_law (deep_law_laid Tryd.evLaid (Nat.le_of_ble_eq_true rfl : 2 + 1 ≤ 10000) Tryd.evRow Tryd.evDeep (by rw [Tryd.underlying53]))
/-- evidence as a value -/
abbrev evV (e : Ev) : Value := .agg #[.int .i64 e.1, .int .i64 e.2.1, .int .i64 e.2.2]
/-- .. as a key is told -/
def evLit (e : Ev) : Lit := .string (keyBytes [.int .i64 e.1, .int .i64 e.2.1, .int .i64 e.2.2])
/-- each part of it is an int -/
structure EvWf (e : Ev) : Prop where
  b : (Lit.int .i64 e.1).wf = true
  y : (Lit.int .i64 e.2.1).wf = true
  m : (Lit.int .i64 e.2.2).wf = true
theorem ev_key (e : Ev) (h : EvWf e) : keyOf Tryd.prog 53 (evV e) = some (evLit e) := by
  obtain ⟨n, hn⟩ : ∃ n, Tryd.prog.types.size = n + 1 := by
    have h0 : 0 < Tryd.prog.types.size := Nat.lt_of_le_of_lt (Nat.zero_le _) Tryd.evRow
    generalize Tryd.prog.types.size = z at h0
    exact ⟨z - 1, by omega⟩
  have c1 : Tryd.prog.cellsOf 3 = 1 := by kernel_rfl
  unfold keyOf
  simp only [Tryd.underlying53, Tryd.evType, Value.formed]
  rw [hn]
  simp [Program.keyLits, Tryd.underlying53, Tryd.underlying3, Tryd.evCells, c1, h.b, h.y, h.m, Value.cells, evLit]
theorem evLit_inj {d e : Ev} (hd : EvWf d) (he : EvWf e) (h : evLit d = evLit e) : d = e := by
  have g : evV d = evV e := evKeyed.inj (ev_key d hd) (by rw [h]; exact ev_key e he)
  obtain ⟨a, b, c⟩ := d
  obtain ⟨x, y, z⟩ := e
  simp only [evV, Value.agg.injEq, Array.mk.injEq, List.cons.injEq, Value.int.injEq, true_and, and_true] at g
  obtain ⟨rfl, rfl, rfl⟩ := g
  rfl
/-- a set of evidence -/
def OwnE (w : World) (m : Nat) (H : Ev → Bool) (g : Nat) : Prop :=
  ∃ (n : Nat) (D : DataW Unit), w.ownsMap Tryd.prog 53 unitElem m n D ∧ n ≤ g ∧ ∀ e : Ev, EvWf e → Maps.has D (evLit e) = H e
theorem OwnE.of_block {w w' : World} {m g : Nat} {H : Ev → Bool} (h : OwnE w m H g) (hb : w'.heap[m]? = w.heap[m]?) : OwnE w' m H g := by
  obtain ⟨n, D, ⟨es, clock, hes, F, hs, hD⟩, r⟩ := h
  exact ⟨n, D, ⟨es, clock, hb.trans hes, F, hs, hD⟩, r⟩
theorem OwnE.lt {w : World} {m g : Nat} {H : Ev → Bool} (h : OwnE w m H g) : m < w.heap.size := by
  obtain ⟨n, D, hown, _⟩ := h
  exact hown.lt
theorem OwnE.more {w : World} {m g g' : Nat} {H : Ev → Bool} (h : OwnE w m H g) (hg : g ≤ g') : OwnE w m H g' := by
  obtain ⟨n, D, ho, hn, r⟩ := h
  exact ⟨n, D, ho, Nat.le_trans hn hg, r⟩
theorem OwnE.congr {w : World} {m g : Nat} {H H' : Ev → Bool} (h : OwnE w m H g) (e : ∀ x, EvWf x → H x = H' x) : OwnE w m H' g := by
  obtain ⟨n, D, ho, hn, r⟩ := h
  exact ⟨n, D, ho, hn, fun x hx => (r x hx).trans (e x hx)⟩
theorem OwnE.look {w : World} {m g : Nat} {H : Ev → Bool} (h : OwnE w m H g) (e : Ev) (he : EvWf e) :
    (Instr.lookup 72 (.map (some m)) (evV e) true).run Tryd.prog w = .ok (.tuple #[.agg #[], .bool (H e)]) w := by
  obtain ⟨n, D, ho, _, r⟩ := h
  obtain ⟨v, ps, hrun, hv⟩ := ho.look_ok evKeyed Tryd.underlying72 (z := .agg #[]) (by kernel_rfl) unitElem_mk (ev_key e he)
  obtain ⟨rfl, _⟩ := unitElem_inv hv
  rw [r e he] at hrun
  exact hrun
theorem OwnE.put {w : World} {m n g : Nat} {D d : DataW Unit} {H : Ev → Bool} {e : Ev} (he : EvWf e) (hm : IsMap D) (h : w.ownsMap Tryd.prog 53 unitElem m (n + 1) (D.put (evLit e) d)) (hn : n ≤ g) (r : ∀ e : Ev, EvWf e → Maps.has D (evLit e) = H e) :
    OwnE w m (fun x => decide (x = e) || H x) (g + 1) := by
  refine ⟨n + 1, _, h, by omega, fun x hx => ?_⟩
  by_cases q : x = e
  · subst q
    have q := has_put_same (k := evLit x) hm (show WideAt.IsKeyLit (evLit x) from trivial) d
    rw [q]
    simp
  · rw [has_put_other (fun z => q (evLit_inj hx he z)), r x hx]
    simp [q]
end Go.Proofs.YtamjnkjgdaojiaaDoor
