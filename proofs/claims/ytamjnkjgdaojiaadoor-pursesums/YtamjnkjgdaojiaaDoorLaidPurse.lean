/-
  What a row that lists the purses' errors gives a walk.
-/
import Derived.Test.YtamjnkjgdaojiaaDoorSent
import Derived.Test.YtamjnkjgdaojiaaDoorProgPurse
namespace Go.Proofs.YtamjnkjgdaojiaaDoor
open Go.ChangeShapes Go.WideShapes Go.ChangeAt Go.RowKit

namespace Purses
theorem Tryd.gShort : Tryd.prog.globalNamed "bakehouse/api.ErrShort" = some 1 := by kernel_rfl
theorem Tryd.gShortT : (Tryd.prog.globals[1]?).map (·.type) = some 30 := by kernel_rfl

def twoL : List (String × List UInt8) := [("bakehouse/api.ErrBound", [98, 97, 107, 101, 104, 111, 117, 115, 101, 58, 32, 98, 111, 117, 110, 100]), ("bakehouse/api.ErrShort", [98, 97, 107, 101, 104, 111, 117, 115, 101, 58, 32, 115, 104, 111, 114, 116])]
theorem twoL_globals : ∀ n d, (n, d) ∈ twoL → ∃ g, Tryd.prog.globalNamed n = some g ∧ (Tryd.prog.globals[g]?).map (·.type) = some 30 := by
  intro n d h
  simp only [twoL, List.mem_cons, Prod.mk.injEq, List.not_mem_nil, or_false] at h
  rcases h with ⟨rfl, _⟩ | ⟨rfl, _⟩
  · exact ⟨_, Tryd.gBound, Tryd.gBoundT⟩
  · exact ⟨_, Tryd.gShort, Tryd.gShortT⟩
theorem of_two {W : World} (h : laidMetH Tryd.prog [("bakehouse/api.ErrBound", Rows.laid_bakehouse_api_ErrBound), ("bakehouse/api.ErrShort", Rows.laid_bakehouse_api_ErrShort)] W) : ∃ A, PurLaid W A := by
  have h' : laidMet Tryd.prog (twoL.map fun x => (x.1, errD x.2)) W := h
  obtain ⟨ps, hv, _, hrows⟩ := h'
  obtain ⟨xs, hS⟩ := sents_of twoL ps twoL_globals hv hrows
  match xs, hS with
  | [a1, a5], hS =>
    obtain ⟨g1, _, k1, c1, _, _, hS, _⟩ := hS
    obtain ⟨g5, _, k5, c5, _, _, hS, _⟩ := hS
    obtain rfl := Option.some.inj (Tryd.gBound.symm.trans k1)
    obtain rfl := Option.some.inj (Tryd.gShort.symm.trans k5)
    exact ⟨fun i => if i = 1 then a1 else if i = 5 then a5 else ⟨0, 0, none⟩, c1, c5⟩
  | [], hS => exact hS.elim

end Purses
end Go.Proofs.YtamjnkjgdaojiaaDoor
