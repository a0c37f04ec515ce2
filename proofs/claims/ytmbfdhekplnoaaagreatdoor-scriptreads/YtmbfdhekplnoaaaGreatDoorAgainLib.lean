/-
  An own row in a later world; a string's length.
-/
import Derived.Test.YtmbfdhekplnoaaaGreatDoorTextOwnX
import Derived.Test.YtmbfdhekplnoaaaGreatDoorLineMathX
namespace Go.Proofs.YtmbfdhekplnoaaaGreatDoor
open Go.RowKit

theorem again_len (wd : ByteArray) : wd.toList.length = wd.size := by rw [← bs_size, bs_toList]
theorem again_shape {w : World} {B size n : Nat} {e : TypeId} {v : Value} {xs : List Value} (h : w.ownsRow B e size v n xs) : ∃ a cap, v = .slice a n cap := by
  rcases h.2 with ⟨e, h0⟩ | ⟨g, cap, cur, e, _⟩
  · exact ⟨none, 0, by rw [e, h0]⟩
  · exact ⟨_, _, e⟩
theorem again_below {w w' : World} {B size n : Nat} {e : TypeId} {v : Value} {xs : List Value} (h : w.ownsRow B e size v n xs) (hB : Below w.heap.size w w') : w'.ownsRow B e size v n xs := by
  refine ⟨h.1, ?_⟩
  rcases h.2 with g | ⟨g, cap, cur, rfl, hb, hg, h1, h2, h3, h4⟩
  · exact .inl g
  · refine .inr ⟨g, cap, cur, rfl, hb, ?_, h1, h2, h3, h4⟩
    have hlt : g < w.heap.size := by
      rcases Nat.lt_or_ge g w.heap.size with l | l
      · exact l
      · rw [Array.getElem?_eq_none l] at hg; cases hg
    rw [hB.block g hlt]
    exact hg
theorem again_grown {w x w' : World} {B : Nat} {v : Value} (h : Below B w x) (hs : B ≤ x.heap.size) (hv : ∀ q, v.ownBlock = some q → B ≤ q) (hg : x.grownBy w' v.ownBlock) : Below B w w' :=
  h.trans ⟨hg.os, hg.tape, hg.output, hg.size, fun q hq => hg.block q (by omega) fun e => by have := hv q e.symm; omega⟩
end Go.Proofs.YtmbfdhekplnoaaaGreatDoor
