/-
  What a row that lists the errors of what is issued gives a walk.
-/
import Derived.Test.YtlhffdmhbplpjabDoorSent
import Derived.Test.YtlhffdmhbplpjabDoorProgIssue
namespace Go.Proofs.YtlhffdmhbplpjabDoor
open Go.ChangeShapes Go.WideShapes Go.ChangeAt Go.RowKit

namespace Isss
theorem Tryd.gShape : Tryd.prog.globalNamed "bakehouse/api.ErrShape" = some 6 := by kernel_rfl
theorem Tryd.gShapeT : (Tryd.prog.globals[6]?).map (·.type) = some 30 := by kernel_rfl

def twoL : List (String × List UInt8) := [("bakehouse/api.ErrBound", [98, 97, 107, 101, 104, 111, 117, 115, 101, 58, 32, 98, 111, 117, 110, 100]), ("bakehouse/api.ErrShape", [98, 97, 107, 101, 104, 111, 117, 115, 101, 58, 32, 115, 104, 97, 112, 101])]
theorem twoL_globals : ∀ n d, (n, d) ∈ twoL → ∃ g, Tryd.prog.globalNamed n = some g ∧ (Tryd.prog.globals[g]?).map (·.type) = some 30 := by
  intro n d h
  simp only [twoL, List.mem_cons, Prod.mk.injEq, List.not_mem_nil, or_false] at h
  rcases h with ⟨rfl, _⟩ | ⟨rfl, _⟩
  · exact ⟨_, Tryd.gBound, Tryd.gBoundT⟩
  · exact ⟨_, Tryd.gShape, Tryd.gShapeT⟩
theorem of_two {W : World} (h : laidMetH Tryd.prog [("bakehouse/api.ErrBound", Rows.laid_bakehouse_api_ErrBound), ("bakehouse/api.ErrShape", Rows.laid_bakehouse_api_ErrShape)] W) : ∃ A, IssLaid W A := by
  have h' : laidMet Tryd.prog (twoL.map fun x => (x.1, errD x.2)) W := h
  obtain ⟨ps, hv, _, hrows⟩ := h'
  obtain ⟨xs, hS⟩ := sents_of twoL ps twoL_globals hv hrows
  match xs, hS with
  | [a1, a2], hS =>
    obtain ⟨g1, _, k1, c1, _, _, hS, _⟩ := hS
    obtain ⟨g2, _, k2, c2, _, _, hS, _⟩ := hS
    obtain rfl := Option.some.inj (Tryd.gBound.symm.trans k1)
    obtain rfl := Option.some.inj (Tryd.gShape.symm.trans k2)
    exact ⟨fun i => if i = 1 then a1 else if i = 2 then a2 else ⟨0, 0, none⟩, c1, c2⟩
  | [], hS => exact hS.elim

end Isss
end Go.Proofs.YtlhffdmhbplpjabDoor
