/-
  What a row that lists the chain's errors but one gives a walk.
-/
import Derived.Test.YtaihcceobnfmhaaDoorSent
import Derived.Test.YtaihcceobnfmhaaDoorProgChainActsX
namespace Go.Proofs.YtaihcceobnfmhaaDoor
open Go.ChangeShapes Go.WideShapes Go.ChangeAt Go.RowKit

namespace Chs
theorem Tryd.gShape : Tryd.prog.globalNamed "bakehouse/api.ErrShape" = some 7 := by kernel_rfl
theorem Tryd.gShapeT : (Tryd.prog.globals[7]?).map (·.type) = some 27 := by kernel_rfl
theorem Tryd.gNone : Tryd.prog.globalNamed "bakehouse/api.ErrNone" = some 4 := by kernel_rfl
theorem Tryd.gNoneT : (Tryd.prog.globals[4]?).map (·.type) = some 27 := by kernel_rfl
theorem Tryd.gExist : Tryd.prog.globalNamed "bakehouse/api.ErrExist" = some 2 := by kernel_rfl
theorem Tryd.gExistT : (Tryd.prog.globals[2]?).map (·.type) = some 27 := by kernel_rfl
theorem Tryd.gShort : Tryd.prog.globalNamed "bakehouse/api.ErrShort" = some 3 := by kernel_rfl
theorem Tryd.gShortT : (Tryd.prog.globals[3]?).map (·.type) = some 27 := by kernel_rfl
theorem Tryd.gSmall : Tryd.prog.globalNamed "bakehouse/api.ErrSmall" = some 6 := by kernel_rfl
theorem Tryd.gSmallT : (Tryd.prog.globals[6]?).map (·.type) = some 27 := by kernel_rfl
theorem Tryd.gGone : Tryd.prog.globalNamed "bakehouse/api.ErrGone" = some 5 := by kernel_rfl
theorem Tryd.gGoneT : (Tryd.prog.globals[5]?).map (·.type) = some 27 := by kernel_rfl
theorem Tryd.gTurn : Tryd.prog.globalNamed "bakehouse/api.ErrTurn" = some 1 := by kernel_rfl
theorem Tryd.gTurnT : (Tryd.prog.globals[1]?).map (·.type) = some 27 := by kernel_rfl

def eightL : List (String × List UInt8) := [("bakehouse/api.ErrBound", [98, 97, 107, 101, 104, 111, 117, 115, 101, 58, 32, 98, 111, 117, 110, 100]), ("bakehouse/api.ErrShape", [98, 97, 107, 101, 104, 111, 117, 115, 101, 58, 32, 115, 104, 97, 112, 101]), ("bakehouse/api.ErrNone", [98, 97, 107, 101, 104, 111, 117, 115, 101, 58, 32, 110, 111, 110, 101]), ("bakehouse/api.ErrExist", [98, 97, 107, 101, 104, 111, 117, 115, 101, 58, 32, 101, 120, 105, 115, 116]), ("bakehouse/api.ErrShort", [98, 97, 107, 101, 104, 111, 117, 115, 101, 58, 32, 115, 104, 111, 114, 116]), ("bakehouse/api.ErrSmall", [98, 97, 107, 101, 104, 111, 117, 115, 101, 58, 32, 115, 109, 97, 108, 108]), ("bakehouse/api.ErrGone", [98, 97, 107, 101, 104, 111, 117, 115, 101, 58, 32, 103, 111, 110, 101]), ("bakehouse/api.ErrTurn", [98, 97, 107, 101, 104, 111, 117, 115, 101, 58, 32, 116, 117, 114, 110])]
theorem eightL_globals : ∀ n d, (n, d) ∈ eightL → ∃ g, Tryd.prog.globalNamed n = some g ∧ (Tryd.prog.globals[g]?).map (·.type) = some 27 := by
  intro n d h
  simp only [eightL, List.mem_cons, Prod.mk.injEq, List.not_mem_nil, or_false] at h
  rcases h with ⟨rfl, _⟩ | ⟨rfl, _⟩ | ⟨rfl, _⟩ | ⟨rfl, _⟩ | ⟨rfl, _⟩ | ⟨rfl, _⟩ | ⟨rfl, _⟩ | ⟨rfl, _⟩
  · exact ⟨_, Tryd.gBound, Tryd.gBoundT⟩
  · exact ⟨_, Tryd.gShape, Tryd.gShapeT⟩
  · exact ⟨_, Tryd.gNone, Tryd.gNoneT⟩
  · exact ⟨_, Tryd.gExist, Tryd.gExistT⟩
  · exact ⟨_, Tryd.gShort, Tryd.gShortT⟩
  · exact ⟨_, Tryd.gSmall, Tryd.gSmallT⟩
  · exact ⟨_, Tryd.gGone, Tryd.gGoneT⟩
  · exact ⟨_, Tryd.gTurn, Tryd.gTurnT⟩
theorem of_eight {W : World} (h : laidMetH Tryd.prog [("bakehouse/api.ErrBound", Rows.laid_bakehouse_api_ErrBound), ("bakehouse/api.ErrShape", Rows.laid_bakehouse_api_ErrShape), ("bakehouse/api.ErrNone", Rows.laid_bakehouse_api_ErrNone), ("bakehouse/api.ErrExist", Rows.laid_bakehouse_api_ErrExist), ("bakehouse/api.ErrShort", Rows.laid_bakehouse_api_ErrShort), ("bakehouse/api.ErrSmall", Rows.laid_bakehouse_api_ErrSmall), ("bakehouse/api.ErrGone", Rows.laid_bakehouse_api_ErrGone), ("bakehouse/api.ErrTurn", Rows.laid_bakehouse_api_ErrTurn)] W) : ∃ A, ChLaid8 W A := by
  have h' : laidMet Tryd.prog (eightL.map fun x => (x.1, errD x.2)) W := h
  obtain ⟨ps, hv, _, hrows⟩ := h'
  obtain ⟨xs, hS⟩ := sents_of eightL ps eightL_globals hv hrows
  match xs, hS with
  | [a1, a2, a3, a4, a5, a6, a7, a8], hS =>
    obtain ⟨g1, _, k1, c1, _, _, hS, _⟩ := hS
    obtain ⟨g2, _, k2, c2, _, _, hS, _⟩ := hS
    obtain ⟨g3, _, k3, c3, _, _, hS, _⟩ := hS
    obtain ⟨g4, _, k4, c4, _, _, hS, _⟩ := hS
    obtain ⟨g5, _, k5, c5, _, _, hS, _⟩ := hS
    obtain ⟨g6, _, k6, c6, _, _, hS, _⟩ := hS
    obtain ⟨g7, _, k7, c7, _, _, hS, _⟩ := hS
    obtain ⟨g8, _, k8, c8, _, _, hS, _⟩ := hS
    obtain rfl := Option.some.inj (Tryd.gBound.symm.trans k1)
    obtain rfl := Option.some.inj (Tryd.gShape.symm.trans k2)
    obtain rfl := Option.some.inj (Tryd.gNone.symm.trans k3)
    obtain rfl := Option.some.inj (Tryd.gExist.symm.trans k4)
    obtain rfl := Option.some.inj (Tryd.gShort.symm.trans k5)
    obtain rfl := Option.some.inj (Tryd.gSmall.symm.trans k6)
    obtain rfl := Option.some.inj (Tryd.gGone.symm.trans k7)
    obtain rfl := Option.some.inj (Tryd.gTurn.symm.trans k8)
    exact ⟨fun i => if i = 1 then a1 else if i = 2 then a2 else if i = 3 then a3 else if i = 4 then a4 else if i = 5 then a5 else if i = 6 then a6 else if i = 7 then a7 else if i = 8 then a8 else ⟨0, 0, none⟩, c1, c2, c3, c4, c5, c6, c7, c8⟩
  | [], hS => exact hS.elim

end Chs
end Go.Proofs.YtaihcceobnfmhaaDoor
