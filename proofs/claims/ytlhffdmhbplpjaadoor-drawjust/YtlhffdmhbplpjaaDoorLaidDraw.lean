/-
  What a row that lists the draws' errors gives a walk.
-/
import Derived.Test.YtlhffdmhbplpjaaDoorSent
import Derived.Test.YtlhffdmhbplpjaaDoorProgDraw
namespace Go.Proofs.YtlhffdmhbplpjaaDoor
open Go.ChangeShapes Go.WideShapes Go.ChangeAt Go.RowKit

namespace Draws
theorem Tryd.gShape : Tryd.prog.globalNamed "bakehouse/api.ErrShape" = some 2 := by kernel_rfl
theorem Tryd.gShapeT : (Tryd.prog.globals[2]?).map (·.type) = some 25 := by kernel_rfl
theorem Tryd.gNone : Tryd.prog.globalNamed "bakehouse/api.ErrNone" = some 3 := by kernel_rfl
theorem Tryd.gNoneT : (Tryd.prog.globals[3]?).map (·.type) = some 25 := by kernel_rfl

def threeL : List (String × List UInt8) := [("bakehouse/api.ErrBound", [98, 97, 107, 101, 104, 111, 117, 115, 101, 58, 32, 98, 111, 117, 110, 100]), ("bakehouse/api.ErrShape", [98, 97, 107, 101, 104, 111, 117, 115, 101, 58, 32, 115, 104, 97, 112, 101]), ("bakehouse/api.ErrNone", [98, 97, 107, 101, 104, 111, 117, 115, 101, 58, 32, 110, 111, 110, 101])]
theorem threeL_globals : ∀ n d, (n, d) ∈ threeL → ∃ g, Tryd.prog.globalNamed n = some g ∧ (Tryd.prog.globals[g]?).map (·.type) = some 25 := by
  intro n d h
  simp only [threeL, List.mem_cons, Prod.mk.injEq, List.not_mem_nil, or_false] at h
  rcases h with ⟨rfl, _⟩ | ⟨rfl, _⟩ | ⟨rfl, _⟩
  · exact ⟨_, Tryd.gBound, Tryd.gBoundT⟩
  · exact ⟨_, Tryd.gShape, Tryd.gShapeT⟩
  · exact ⟨_, Tryd.gNone, Tryd.gNoneT⟩
theorem of_three {W : World} (h : laidMetH Tryd.prog [("bakehouse/api.ErrBound", Rows.laid_bakehouse_api_ErrBound), ("bakehouse/api.ErrShape", Rows.laid_bakehouse_api_ErrShape), ("bakehouse/api.ErrNone", Rows.laid_bakehouse_api_ErrNone)] W) : ∃ A, DrawLaid W A := by
  have h' : laidMet Tryd.prog (threeL.map fun x => (x.1, errD x.2)) W := h
  obtain ⟨ps, hv, _, hrows⟩ := h'
  obtain ⟨xs, hS⟩ := sents_of threeL ps threeL_globals hv hrows
  match xs, hS with
  | [a1, a2, a3], hS =>
    obtain ⟨g1, _, k1, c1, _, _, hS, _⟩ := hS
    obtain ⟨g2, _, k2, c2, _, _, hS, _⟩ := hS
    obtain ⟨g3, _, k3, c3, _, _, hS, _⟩ := hS
    obtain rfl := Option.some.inj (Tryd.gBound.symm.trans k1)
    obtain rfl := Option.some.inj (Tryd.gShape.symm.trans k2)
    obtain rfl := Option.some.inj (Tryd.gNone.symm.trans k3)
    exact ⟨fun i => if i = 1 then a1 else if i = 2 then a2 else if i = 3 then a3 else ⟨0, 0, none⟩, c1, c2, c3⟩
  | [], hS => exact hS.elim

end Draws
end Go.Proofs.YtlhffdmhbplpjaaDoor
