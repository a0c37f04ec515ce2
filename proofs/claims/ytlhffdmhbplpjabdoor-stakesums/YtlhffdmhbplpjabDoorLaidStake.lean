/-
  What a row that lists the stakes' errors gives a walk.
-/
import Derived.Test.YtlhffdmhbplpjabDoorSent
import Derived.Test.YtlhffdmhbplpjabDoorProgStkActs
namespace Go.Proofs.YtlhffdmhbplpjabDoor
open Go.ChangeShapes Go.WideShapes Go.ChangeAt Go.RowKit

namespace Stks
theorem Tryd.gNone : Tryd.prog.globalNamed "bakehouse/api.ErrNone" = some 3 := by kernel_rfl
theorem Tryd.gNoneT : (Tryd.prog.globals[3]?).map (·.type) = some 30 := by kernel_rfl
theorem Tryd.gExist : Tryd.prog.globalNamed "bakehouse/api.ErrExist" = some 2 := by kernel_rfl
theorem Tryd.gExistT : (Tryd.prog.globals[2]?).map (·.type) = some 30 := by kernel_rfl
theorem Tryd.gShort : Tryd.prog.globalNamed "bakehouse/api.ErrShort" = some 1 := by kernel_rfl
theorem Tryd.gShortT : (Tryd.prog.globals[1]?).map (·.type) = some 30 := by kernel_rfl
theorem Tryd.gSmall : Tryd.prog.globalNamed "bakehouse/api.ErrSmall" = some 7 := by kernel_rfl
theorem Tryd.gSmallT : (Tryd.prog.globals[7]?).map (·.type) = some 30 := by kernel_rfl
theorem Tryd.gGone : Tryd.prog.globalNamed "bakehouse/api.ErrGone" = some 8 := by kernel_rfl
theorem Tryd.gGoneT : (Tryd.prog.globals[8]?).map (·.type) = some 30 := by kernel_rfl

def sixL : List (String × List UInt8) := [("bakehouse/api.ErrBound", [98, 97, 107, 101, 104, 111, 117, 115, 101, 58, 32, 98, 111, 117, 110, 100]), ("bakehouse/api.ErrNone", [98, 97, 107, 101, 104, 111, 117, 115, 101, 58, 32, 110, 111, 110, 101]), ("bakehouse/api.ErrExist", [98, 97, 107, 101, 104, 111, 117, 115, 101, 58, 32, 101, 120, 105, 115, 116]), ("bakehouse/api.ErrShort", [98, 97, 107, 101, 104, 111, 117, 115, 101, 58, 32, 115, 104, 111, 114, 116]), ("bakehouse/api.ErrSmall", [98, 97, 107, 101, 104, 111, 117, 115, 101, 58, 32, 115, 109, 97, 108, 108]), ("bakehouse/api.ErrGone", [98, 97, 107, 101, 104, 111, 117, 115, 101, 58, 32, 103, 111, 110, 101])]
theorem sixL_globals : ∀ n d, (n, d) ∈ sixL → ∃ g, Tryd.prog.globalNamed n = some g ∧ (Tryd.prog.globals[g]?).map (·.type) = some 30 := by
  intro n d h
  simp only [sixL, List.mem_cons, Prod.mk.injEq, List.not_mem_nil, or_false] at h
  rcases h with ⟨rfl, _⟩ | ⟨rfl, _⟩ | ⟨rfl, _⟩ | ⟨rfl, _⟩ | ⟨rfl, _⟩ | ⟨rfl, _⟩
  · exact ⟨_, Tryd.gBound, Tryd.gBoundT⟩
  · exact ⟨_, Tryd.gNone, Tryd.gNoneT⟩
  · exact ⟨_, Tryd.gExist, Tryd.gExistT⟩
  · exact ⟨_, Tryd.gShort, Tryd.gShortT⟩
  · exact ⟨_, Tryd.gSmall, Tryd.gSmallT⟩
  · exact ⟨_, Tryd.gGone, Tryd.gGoneT⟩
theorem of_six {W : World} (h : laidMetH Tryd.prog [("bakehouse/api.ErrBound", Rows.laid_bakehouse_api_ErrBound), ("bakehouse/api.ErrNone", Rows.laid_bakehouse_api_ErrNone), ("bakehouse/api.ErrExist", Rows.laid_bakehouse_api_ErrExist), ("bakehouse/api.ErrShort", Rows.laid_bakehouse_api_ErrShort), ("bakehouse/api.ErrSmall", Rows.laid_bakehouse_api_ErrSmall), ("bakehouse/api.ErrGone", Rows.laid_bakehouse_api_ErrGone)] W) : ∃ A, StkLaid W A := by
  have h' : laidMet Tryd.prog (sixL.map fun x => (x.1, errD x.2)) W := h
  obtain ⟨ps, hv, _, hrows⟩ := h'
  obtain ⟨xs, hS⟩ := sents_of sixL ps sixL_globals hv hrows
  match xs, hS with
  | [a1, a3, a4, a5, a6, a7], hS =>
    obtain ⟨g1, _, k1, c1, _, _, hS, _⟩ := hS
    obtain ⟨g3, _, k3, c3, _, _, hS, _⟩ := hS
    obtain ⟨g4, _, k4, c4, _, _, hS, _⟩ := hS
    obtain ⟨g5, _, k5, c5, _, _, hS, _⟩ := hS
    obtain ⟨g6, _, k6, c6, _, _, hS, _⟩ := hS
    obtain ⟨g7, _, k7, c7, _, _, hS, _⟩ := hS
    obtain rfl := Option.some.inj (Tryd.gBound.symm.trans k1)
    obtain rfl := Option.some.inj (Tryd.gNone.symm.trans k3)
    obtain rfl := Option.some.inj (Tryd.gExist.symm.trans k4)
    obtain rfl := Option.some.inj (Tryd.gShort.symm.trans k5)
    obtain rfl := Option.some.inj (Tryd.gSmall.symm.trans k6)
    obtain rfl := Option.some.inj (Tryd.gGone.symm.trans k7)
    exact ⟨fun i => if i = 1 then a1 else if i = 3 then a3 else if i = 4 then a4 else if i = 5 then a5 else if i = 6 then a6 else if i = 7 then a7 else ⟨0, 0, none⟩, c1, c3, c4, c5, c6, c7⟩
  | [], hS => exact hS.elim

end Stks
end Go.Proofs.YtlhffdmhbplpjabDoor
