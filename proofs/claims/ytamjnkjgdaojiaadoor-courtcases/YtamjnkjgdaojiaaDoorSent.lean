/-
  What the listed variables hold: package api's sentinels, each a pointer of its own; package errors' handle of the type error.
-/
import Derived.Test.YtamjnkjgdaojiaaDoorRowLib
import Derived.Test.YtamjnkjgdaojiaaDoorSentV
namespace Go.Proofs.YtamjnkjgdaojiaaDoor
open Go.ChangeShapes Go.WideShapes Go.ChangeAt Go.RowKit

theorem Tryd.own : ownKnob Tryd.prog.godebug = none := by kernel_rfl
theorem Tryd.star : "*" ++ "errors.errorString" = "*errors.errorString" := by decide
theorem Tryd.rowES (u : TypeId) (h : Tryd.prog.typeName? 3 u = some "*errors.errorString") : u = 114 :=
  typeName_ptr_named (nm := "errors.errorString") (by rw [Tryd.star]; kernel_rfl) (by kernel_rfl) (by decide) u (by rw [Tryd.star]; exact h)
theorem Tryd.cellsES : Tryd.prog.cellsOf 135 = 1 := by kernel_rfl
theorem Tryd.cellsStr : Tryd.prog.cellsOf 9 = 1 := by kernel_rfl

/-- a sentinel xs the rows list it -/
abbrev errD (text : List UInt8) : DataW Unit := .iface "*errors.errorString" (.ptr (.agg [.lit (.string text)]))

/-- sentinels laid in memory: each variable's cell, the text behind it, its block's mark; the places that are met -/
def Sents (W : World) : List (String × List UInt8) → List Addr → List MemPlace → Prop
  | [], [], ps => ps = []
  | (n, _) :: r, a :: xs, ps => ∃ g q, Tryd.prog.globalNamed n = some g ∧ W.cell? ⟨g, 0, none⟩ = some (sent a) ∧ (∃ s, W.cell? a = some (.string s)) ∧ (∃ c t, W.heap[a.block]? = some (.cells c t (0, 0))) ∧ Sents W r xs q ∧ ps = MemPlace.row ⟨g, 0, none⟩ 1 ++ MemPlace.row a 1 ++ q
  | _, _, _ => False

set_option maxRecDepth 100000 in
theorem sents_of {W : World} : ∀ (L : List (String × List UInt8)) (ps : List MemPlace),
    (∀ n d, (n, d) ∈ L → ∃ g, Tryd.prog.globalNamed n = some g ∧ (Tryd.prog.globals[g]?).map (·.type) = some 30) →
    DataW.LaidVars Tryd.prog W (L.map fun x => (x.1, errD x.2)) ps →
    (∀ b off, MemPlace.cell b off ∈ ps → (∃ c t, W.heap[b]? = some (.cells c t (0, 0))) ∧ ∀ u v, W.cell? ⟨b, off, none⟩ = some (.iface u v) → Value.okWide Tryd.prog W .any 0 u v) →
    ∃ xs, Sents W L xs ps
  | [], ps, _, h, _ => ⟨[], h⟩
  | (n, d) :: r, ps, hg, h, hrows => by
    obtain ⟨g0, t0, cs0, f0, p0, q0, hg0, ht0, hv0, hd0, hr0, rfl⟩ := h
    obtain ⟨g, hg1, ht1⟩ := hg n d (List.mem_cons_self ..)
    obtain rfl := Option.some.inj (hg1.symm.trans hg0)
    obtain rfl := Option.some.inj (ht1.symm.trans ht0)
    obtain ⟨l0⟩ := cs0
    have ok0 : ∀ u v, l0 = [.iface u v] → Value.okWide Tryd.prog W .any 0 u v := fun u v e => by
      subst e
      exact (hrows g 0 (by simp [MemPlace.row])).2 u v (by simpa using World.var?_cell hg0 hv0 0)
    obtain ⟨a, s, rfl, hc, hs, hz, rfl⟩ := errorString_of_trod Tryd.underlying30 Tryd.rowES Tryd.underlying114 Tryd.underlying135 rfl rfl Tryd.underlying9 Tryd.cellsES Tryd.cellsStr hd0 ok0
    obtain ⟨c, t, hb⟩ := (hrows a.block a.off (by simp [MemPlace.row])).1
    obtain ⟨xs, hS⟩ := sents_of r q0 (fun n d h => hg n d (List.mem_cons_of_mem _ h)) hr0 (fun b off hm => hrows b off (List.mem_append_right _ hm))
    exact ⟨a :: xs, g, q0, hg0, by simpa using World.var?_cell hg0 hv0 0, ⟨s, hc⟩, ⟨c, t, hb⟩, hS, rfl⟩

/-- the addresses are all different -/
theorem sents_mem {W : World} : ∀ (L : List (String × List UInt8)) (xs : List Addr) (ps : List MemPlace), Sents W L xs ps → ∀ a ∈ xs, MemPlace.cell a.block a.off ∈ ps
  | [], [], _, _, _, h => by cases h
  | [], _ :: _, _, h, _, _ => h.elim
  | _ :: _, [], _, h, _, _ => h.elim
  | (n, _) :: r, a :: xs, ps, h, b, hb => by
    obtain ⟨g, q, _, _, _, _, hr, rfl⟩ := h
    rcases List.mem_cons.1 hb with rfl | hb
    · simp [MemPlace.row]
    · exact List.mem_append_right _ (sents_mem r xs q hr b hb)
theorem sents_nodup {W : World} : ∀ (L : List (String × List UInt8)) (xs : List Addr) (ps : List MemPlace), Sents W L xs ps → ps.Nodup → xs.Nodup
  | [], [], _, _, _ => List.nodup_nil
  | [], _ :: _, _, h, _ => h.elim
  | _ :: _, [], _, h, _ => h.elim
  | (n, _) :: r, a :: xs, ps, h, hn => by
    obtain ⟨g, q, _, _, _, _, hr, rfl⟩ := h
    rw [List.nodup_append] at hn
    obtain ⟨_, hq, hd⟩ := hn
    refine List.nodup_cons.2 ⟨fun hm => ?_, sents_nodup r xs q hr hq⟩
    exact hd _ (by simp [MemPlace.row]) _ (sents_mem r xs q hr a hm) rfl

theorem Tryd.gBound : Tryd.prog.globalNamed "bakehouse/api.ErrBound" = some 0 := by kernel_rfl
theorem Tryd.gBoundT : (Tryd.prog.globals[0]?).map (·.type) = some 30 := by kernel_rfl
end Go.Proofs.YtamjnkjgdaojiaaDoor
