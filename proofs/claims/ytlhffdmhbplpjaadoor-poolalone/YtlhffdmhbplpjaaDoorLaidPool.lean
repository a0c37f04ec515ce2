/-
  What a row that lists the pools' errors gives a walk.
-/
import Derived.Test.YtlhffdmhbplpjaaDoorSent
import Derived.Test.YtlhffdmhbplpjaaDoorProgPool
namespace Go.Proofs.YtlhffdmhbplpjaaDoor
open Go.ChangeShapes Go.WideShapes Go.ChangeAt Go.RowKit

namespace Pools
theorem Tryd.gNone : Tryd.prog.globalNamed "bakehouse/api.ErrNone" = some 3 := by kernel_rfl
theorem Tryd.gNoneT : (Tryd.prog.globals[3]?).map (·.type) = some 25 := by kernel_rfl
theorem Tryd.gShort : Tryd.prog.globalNamed "bakehouse/api.ErrShort" = some 5 := by kernel_rfl
theorem Tryd.gShortT : (Tryd.prog.globals[5]?).map (·.type) = some 25 := by kernel_rfl
theorem Tryd.gSmall : Tryd.prog.globalNamed "bakehouse/api.ErrSmall" = some 6 := by kernel_rfl
theorem Tryd.gSmallT : (Tryd.prog.globals[6]?).map (·.type) = some 25 := by kernel_rfl
theorem Tryd.gGone : Tryd.prog.globalNamed "bakehouse/api.ErrGone" = some 7 := by kernel_rfl
theorem Tryd.gGoneT : (Tryd.prog.globals[7]?).map (·.type) = some 25 := by kernel_rfl

def fiveL : List (String × List UInt8) := [("bakehouse/api.ErrBound", [98, 97, 107, 101, 104, 111, 117, 115, 101, 58, 32, 98, 111, 117, 110, 100]), ("bakehouse/api.ErrNone", [98, 97, 107, 101, 104, 111, 117, 115, 101, 58, 32, 110, 111, 110, 101]), ("bakehouse/api.ErrShort", [98, 97, 107, 101, 104, 111, 117, 115, 101, 58, 32, 115, 104, 111, 114, 116]), ("bakehouse/api.ErrSmall", [98, 97, 107, 101, 104, 111, 117, 115, 101, 58, 32, 115, 109, 97, 108, 108]), ("bakehouse/api.ErrGone", [98, 97, 107, 101, 104, 111, 117, 115, 101, 58, 32, 103, 111, 110, 101])]
theorem fiveL_globals : ∀ n d, (n, d) ∈ fiveL → ∃ g, Tryd.prog.globalNamed n = some g ∧ (Tryd.prog.globals[g]?).map (·.type) = some 25 := by
  intro n d h
  simp only [fiveL, List.mem_cons, Prod.mk.injEq, List.not_mem_nil, or_false] at h
  rcases h with ⟨rfl, _⟩ | ⟨rfl, _⟩ | ⟨rfl, _⟩ | ⟨rfl, _⟩ | ⟨rfl, _⟩
  · exact ⟨_, Tryd.gBound, Tryd.gBoundT⟩
  · exact ⟨_, Tryd.gNone, Tryd.gNoneT⟩
  · exact ⟨_, Tryd.gShort, Tryd.gShortT⟩
  · exact ⟨_, Tryd.gSmall, Tryd.gSmallT⟩
  · exact ⟨_, Tryd.gGone, Tryd.gGoneT⟩
theorem of_five {W : World} (h : laidMetH Tryd.prog [("bakehouse/api.ErrBound", Rows.laid_bakehouse_api_ErrBound), ("bakehouse/api.ErrNone", Rows.laid_bakehouse_api_ErrNone), ("bakehouse/api.ErrShort", Rows.laid_bakehouse_api_ErrShort), ("bakehouse/api.ErrSmall", Rows.laid_bakehouse_api_ErrSmall), ("bakehouse/api.ErrGone", Rows.laid_bakehouse_api_ErrGone)] W) : ∃ A, PoolLaid W A true := by
  have h' : laidMet Tryd.prog (fiveL.map fun x => (x.1, errD x.2)) W := h
  obtain ⟨ps, hv, _, hrows⟩ := h'
  obtain ⟨xs, hS⟩ := sents_of fiveL ps fiveL_globals hv hrows
  match xs, hS with
  | [a1, a3, a5, a6, a7], hS =>
    obtain ⟨g1, _, k1, c1, _, _, hS, _⟩ := hS
    obtain ⟨g3, _, k3, c3, _, _, hS, _⟩ := hS
    obtain ⟨g5, _, k5, c5, _, _, hS, _⟩ := hS
    obtain ⟨g6, _, k6, c6, _, _, hS, _⟩ := hS
    obtain ⟨g7, _, k7, c7, _, _, hS, _⟩ := hS
    obtain rfl := Option.some.inj (Tryd.gBound.symm.trans k1)
    obtain rfl := Option.some.inj (Tryd.gNone.symm.trans k3)
    obtain rfl := Option.some.inj (Tryd.gShort.symm.trans k5)
    obtain rfl := Option.some.inj (Tryd.gSmall.symm.trans k6)
    obtain rfl := Option.some.inj (Tryd.gGone.symm.trans k7)
    exact ⟨fun i => if i = 1 then a1 else if i = 3 then a3 else if i = 5 then a5 else if i = 6 then a6 else if i = 7 then a7 else ⟨0, 0, none⟩, c1, c3, fun _ => c5, c6, c7⟩
  | [], hS => exact hS.elim

def fourL : List (String × List UInt8) := [("bakehouse/api.ErrBound", [98, 97, 107, 101, 104, 111, 117, 115, 101, 58, 32, 98, 111, 117, 110, 100]), ("bakehouse/api.ErrNone", [98, 97, 107, 101, 104, 111, 117, 115, 101, 58, 32, 110, 111, 110, 101]), ("bakehouse/api.ErrSmall", [98, 97, 107, 101, 104, 111, 117, 115, 101, 58, 32, 115, 109, 97, 108, 108]), ("bakehouse/api.ErrGone", [98, 97, 107, 101, 104, 111, 117, 115, 101, 58, 32, 103, 111, 110, 101])]
theorem fourL_globals : ∀ n d, (n, d) ∈ fourL → ∃ g, Tryd.prog.globalNamed n = some g ∧ (Tryd.prog.globals[g]?).map (·.type) = some 25 := by
  intro n d h
  simp only [fourL, List.mem_cons, Prod.mk.injEq, List.not_mem_nil, or_false] at h
  rcases h with ⟨rfl, _⟩ | ⟨rfl, _⟩ | ⟨rfl, _⟩ | ⟨rfl, _⟩
  · exact ⟨_, Tryd.gBound, Tryd.gBoundT⟩
  · exact ⟨_, Tryd.gNone, Tryd.gNoneT⟩
  · exact ⟨_, Tryd.gSmall, Tryd.gSmallT⟩
  · exact ⟨_, Tryd.gGone, Tryd.gGoneT⟩
theorem of_four {W : World} (h : laidMetH Tryd.prog [("bakehouse/api.ErrBound", Rows.laid_bakehouse_api_ErrBound), ("bakehouse/api.ErrNone", Rows.laid_bakehouse_api_ErrNone), ("bakehouse/api.ErrSmall", Rows.laid_bakehouse_api_ErrSmall), ("bakehouse/api.ErrGone", Rows.laid_bakehouse_api_ErrGone)] W) : ∃ A, PoolLaid W A false := by
  have h' : laidMet Tryd.prog (fourL.map fun x => (x.1, errD x.2)) W := h
  obtain ⟨ps, hv, _, hrows⟩ := h'
  obtain ⟨xs, hS⟩ := sents_of fourL ps fourL_globals hv hrows
  match xs, hS with
  | [a1, a3, a6, a7], hS =>
    obtain ⟨g1, _, k1, c1, _, _, hS, _⟩ := hS
    obtain ⟨g3, _, k3, c3, _, _, hS, _⟩ := hS
    obtain ⟨g6, _, k6, c6, _, _, hS, _⟩ := hS
    obtain ⟨g7, _, k7, c7, _, _, hS, _⟩ := hS
    obtain rfl := Option.some.inj (Tryd.gBound.symm.trans k1)
    obtain rfl := Option.some.inj (Tryd.gNone.symm.trans k3)
    obtain rfl := Option.some.inj (Tryd.gSmall.symm.trans k6)
    obtain rfl := Option.some.inj (Tryd.gGone.symm.trans k7)
    exact ⟨fun i => if i = 1 then a1 else if i = 3 then a3 else if i = 6 then a6 else if i = 7 then a7 else ⟨0, 0, none⟩, c1, c3, (fun e => by cases e), c6, c7⟩
  | [], hS => exact hS.elim

end Pools
end Go.Proofs.YtlhffdmhbplpjaaDoor
