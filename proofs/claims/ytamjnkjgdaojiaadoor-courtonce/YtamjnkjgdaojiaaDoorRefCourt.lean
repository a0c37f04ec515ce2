/-
  The document's court (bakehouseref2.Court) as it lies in memory, and by its contracts: evidence is brought.
-/
import Derived.Test.YtamjnkjgdaojiaaDoorCaseRow
import Derived.Test.YtamjnkjgdaojiaaDoorKeptP
import Derived.Test.YtamjnkjgdaojiaaDoorRefIs
import Derived.Deep.AppendLies
import Derived.Deep.RegionLaw
import Derived.Deep.QuietTactic
import Derived.BigQuiet
namespace Go.Proofs.YtamjnkjgdaojiaaDoor
open Go.RowKit

/-- the document's court -/
structure RCtAt (w : World) (cb : Nat) (v : Value) (x : Ct) : Prop where
  c0 : w.cell? ⟨cb, 0, none⟩ = some v
  c1 : w.cell? ⟨cb, 1, none⟩ = some (.int .i64 x.done)
  f0 : w.frozen? ⟨cb, 0, none⟩ = false
  f1 : w.frozen? ⟨cb, 1, none⟩ = false
  own : w.ownsRow 0 61 4 v x.L.length (crow x.L)
  tv : v.ownBlock ≠ some cb
def RCt (F : Nat → Prop) (w : World) (cb : Nat) (x : Ct) : Prop := ∃ v, (∀ k, F k ↔ (k = cb ∨ v.ownBlock = some k)) ∧ RCtAt w cb v x
theorem RCtAt.shape {w : World} {cb : Nat} {v : Value} {x : Ct} (h : RCtAt w cb v x) : ∃ a cap, v = .slice a x.L.length cap := by
  rcases h.own.2 with ⟨e, h0⟩ | ⟨g, cap, cur, e, _⟩
  · exact ⟨none, 0, by rw [e, h0]⟩
  · exact ⟨_, _, e⟩
theorem RCtAt.row {w : World} {cb : Nat} {v : Value} {x : Ct} (h : RCtAt w cb v x) (hl : 0 < x.L.length) : ∃ g cap, v = .slice (some ⟨g, 0, none⟩) x.L.length cap ∧ ∀ i t, x.L[i]? = some t → w.cell? ⟨g, i * 4, none⟩ = some (.int .i64 t.1) ∧ w.cell? ⟨g, i * 4 + 1, none⟩ = some (.int .i64 t.2.1) ∧ w.cell? ⟨g, i * 4 + 2, none⟩ = some (.int .i64 t.2.2.1) ∧ w.cell? ⟨g, i * 4 + 3, none⟩ = some (.int .i64 t.2.2.2) := by
  rcases h.own.2 with ⟨_, h0⟩ | ⟨g, cap, cur, rfl, _⟩
  · omega
  · refine ⟨g, cap, rfl, fun i t ht => ?_⟩
    have hi := (List.getElem?_eq_some_iff.1 ht).1
    obtain ⟨a, b, c, d⟩ := crow_at x.L i t ht
    exact ⟨(h.own.cellAt _ (by omega)).trans a, (h.own.cellAt _ (by omega)).trans b, (h.own.cellAt _ (by omega)).trans c, (h.own.cellAt _ (by omega)).trans d⟩
theorem RCtAt.keptP {w w' : World} {cb : Nat} {v : Value} {x : Ct} {G : Nat → Prop} (h : RCtAt w cb v x) (hK : KeptP G w w') (hc : ¬ G cb) (hv : ∀ g, v.ownBlock = some g → ¬ G g) : RCtAt w' cb v x := by
  refine ⟨hK.old h.c0 hc, hK.old h.c1 hc, ?_, ?_, ?_, h.tv⟩
  · rw [hK.frozen (p := ⟨cb, 0, none⟩) (cell_lt h.c0) hc]; exact h.f0
  · rw [hK.frozen (p := ⟨cb, 1, none⟩) (cell_lt h.c1) hc]; exact h.f1
  · refine ⟨h.own.1, ?_⟩
    rcases h.own.2 with g | ⟨g, cap, cur, rfl, hb, hg, h1, h2, h3, h4⟩
    · exact .inl g
    · refine .inr ⟨g, cap, cur, rfl, hb, ?_, h1, h2, h3, h4⟩
      have hlt : g < w.heap.size := by
        rcases Nat.lt_or_ge g w.heap.size with l | l
        · exact l
        · rw [Array.getElem?_eq_none l] at hg; cases hg
      rw [hK.block g hlt (hv g rfl)]
      exact hg
theorem RCt.keptP {F G : Nat → Prop} {w w' : World} {cb : Nat} {x : Ct} (h : RCt F w cb x) (hK : KeptP G w w') (hF : ∀ k, G k → ¬ F k) : RCt F w' cb x := by
  obtain ⟨v, hf, h⟩ := h
  exact ⟨v, hf, h.keptP hK (fun g => hF _ g ((hf _).2 (.inl rfl))) fun k e g => hF k g ((hf k).2 (.inr e))⟩
theorem RCt.lt {F : Nat → Prop} {w : World} {cb : Nat} {x : Ct} (h : RCt F w cb x) (k : Nat) (hk : F k) : k < w.heap.size := by
  obtain ⟨v, hf, h⟩ := h
  rcases (hf k).1 hk with rfl | e
  · exact cell_lt h.c0
  · exact (h.own.lt k e).2
end Go.Proofs.YtamjnkjgdaojiaaDoor
