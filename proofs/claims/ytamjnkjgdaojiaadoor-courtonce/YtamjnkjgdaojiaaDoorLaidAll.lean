/-
  What a row that lists package api's ten sentinels and package errors' handle gives a walk.
-/
import Derived.Test.YtamjnkjgdaojiaaDoorSent
import Derived.Test.YtamjnkjgdaojiaaDoorCode
namespace Go.Proofs.YtamjnkjgdaojiaaDoor
open Go.ChangeShapes Go.WideShapes Go.ChangeAt Go.RowKit

theorem Tryd.gText : Tryd.prog.globalNamed "bakehouse/api.ErrText" = some 4 := by kernel_rfl
theorem Tryd.gShape : Tryd.prog.globalNamed "bakehouse/api.ErrShape" = some 5 := by kernel_rfl
theorem Tryd.gNone : Tryd.prog.globalNamed "bakehouse/api.ErrNone" = some 6 := by kernel_rfl
theorem Tryd.gExist : Tryd.prog.globalNamed "bakehouse/api.ErrExist" = some 3 := by kernel_rfl
theorem Tryd.gShort : Tryd.prog.globalNamed "bakehouse/api.ErrShort" = some 1 := by kernel_rfl
theorem Tryd.gSmall : Tryd.prog.globalNamed "bakehouse/api.ErrSmall" = some 7 := by kernel_rfl
theorem Tryd.gGone : Tryd.prog.globalNamed "bakehouse/api.ErrGone" = some 8 := by kernel_rfl
theorem Tryd.gTurn : Tryd.prog.globalNamed "bakehouse/api.ErrTurn" = some 9 := by kernel_rfl
theorem Tryd.gOld : Tryd.prog.globalNamed "bakehouse/api.ErrOld" = some 2 := by kernel_rfl
theorem Tryd.gTextT : (Tryd.prog.globals[4]?).map (·.type) = some 30 := by kernel_rfl
theorem Tryd.gShapeT : (Tryd.prog.globals[5]?).map (·.type) = some 30 := by kernel_rfl
theorem Tryd.gNoneT : (Tryd.prog.globals[6]?).map (·.type) = some 30 := by kernel_rfl
theorem Tryd.gExistT : (Tryd.prog.globals[3]?).map (·.type) = some 30 := by kernel_rfl
theorem Tryd.gShortT : (Tryd.prog.globals[1]?).map (·.type) = some 30 := by kernel_rfl
theorem Tryd.gSmallT : (Tryd.prog.globals[7]?).map (·.type) = some 30 := by kernel_rfl
theorem Tryd.gGoneT : (Tryd.prog.globals[8]?).map (·.type) = some 30 := by kernel_rfl
theorem Tryd.gTurnT : (Tryd.prog.globals[9]?).map (·.type) = some 30 := by kernel_rfl
theorem Tryd.gOldT : (Tryd.prog.globals[2]?).map (·.type) = some 30 := by kernel_rfl
theorem Tryd.gType : Tryd.prog.globalNamed "errors.errorType" = some 10 := by kernel_rfl
theorem Tryd.rt : (Tryd.prog.cutTypes.find? (·.1 == "internal/reflectlite.rtype")).map (·.2) = some 100 := by kernel_rfl
theorem Tryd.oneRow : ((List.range 147).filter fun t => Tryd.prog.rowNamed t [101, 114, 114, 111, 114]) = [30] := by kernel_rfl
theorem Tryd.size : Tryd.prog.types.size = 147 := by kernel_rfl

/-- the list of the rows -/
def laidList : List (String × DataW Unit) := ("errors.errorType", Rows.laid_errors_errorType) :: [("bakehouse/api.ErrText", Rows.laid_bakehouse_api_ErrText), ("bakehouse/api.ErrBound", Rows.laid_bakehouse_api_ErrBound), ("bakehouse/api.ErrShape", Rows.laid_bakehouse_api_ErrShape), ("bakehouse/api.ErrNone", Rows.laid_bakehouse_api_ErrNone), ("bakehouse/api.ErrExist", Rows.laid_bakehouse_api_ErrExist), ("bakehouse/api.ErrShort", Rows.laid_bakehouse_api_ErrShort), ("bakehouse/api.ErrSmall", Rows.laid_bakehouse_api_ErrSmall), ("bakehouse/api.ErrGone", Rows.laid_bakehouse_api_ErrGone), ("bakehouse/api.ErrTurn", Rows.laid_bakehouse_api_ErrTurn), ("bakehouse/api.ErrOld", Rows.laid_bakehouse_api_ErrOld)]
def tenL : List (String × List UInt8) := [("bakehouse/api.ErrText", [98, 97, 107, 101, 104, 111, 117, 115, 101, 58, 32, 116, 101, 120, 116]), ("bakehouse/api.ErrBound", [98, 97, 107, 101, 104, 111, 117, 115, 101, 58, 32, 98, 111, 117, 110, 100]), ("bakehouse/api.ErrShape", [98, 97, 107, 101, 104, 111, 117, 115, 101, 58, 32, 115, 104, 97, 112, 101]), ("bakehouse/api.ErrNone", [98, 97, 107, 101, 104, 111, 117, 115, 101, 58, 32, 110, 111, 110, 101]), ("bakehouse/api.ErrExist", [98, 97, 107, 101, 104, 111, 117, 115, 101, 58, 32, 101, 120, 105, 115, 116]), ("bakehouse/api.ErrShort", [98, 97, 107, 101, 104, 111, 117, 115, 101, 58, 32, 115, 104, 111, 114, 116]), ("bakehouse/api.ErrSmall", [98, 97, 107, 101, 104, 111, 117, 115, 101, 58, 32, 115, 109, 97, 108, 108]), ("bakehouse/api.ErrGone", [98, 97, 107, 101, 104, 111, 117, 115, 101, 58, 32, 103, 111, 110, 101]), ("bakehouse/api.ErrTurn", [98, 97, 107, 101, 104, 111, 117, 115, 101, 58, 32, 116, 117, 114, 110]), ("bakehouse/api.ErrOld", [98, 97, 107, 101, 104, 111, 117, 115, 101, 58, 32, 111, 108, 100])]

theorem tenL_globals : ∀ n d, (n, d) ∈ tenL → ∃ g, Tryd.prog.globalNamed n = some g ∧ (Tryd.prog.globals[g]?).map (·.type) = some 30 := by
  intro n d h
  simp only [tenL, List.mem_cons, Prod.mk.injEq, List.not_mem_nil, or_false] at h
  rcases h with ⟨rfl, _⟩ | ⟨rfl, _⟩ | ⟨rfl, _⟩ | ⟨rfl, _⟩ | ⟨rfl, _⟩ | ⟨rfl, _⟩ | ⟨rfl, _⟩ | ⟨rfl, _⟩ | ⟨rfl, _⟩ | ⟨rfl, _⟩
  · exact ⟨_, Tryd.gText, Tryd.gTextT⟩
  · exact ⟨_, Tryd.gBound, Tryd.gBoundT⟩
  · exact ⟨_, Tryd.gShape, Tryd.gShapeT⟩
  · exact ⟨_, Tryd.gNone, Tryd.gNoneT⟩
  · exact ⟨_, Tryd.gExist, Tryd.gExistT⟩
  · exact ⟨_, Tryd.gShort, Tryd.gShortT⟩
  · exact ⟨_, Tryd.gSmall, Tryd.gSmallT⟩
  · exact ⟨_, Tryd.gGone, Tryd.gGoneT⟩
  · exact ⟨_, Tryd.gTurn, Tryd.gTurnT⟩
  · exact ⟨_, Tryd.gOld, Tryd.gOldT⟩

theorem of_laid_bare {W : World} (h : laidMetH Tryd.prog laidList W) : ∃ A : Nat → Addr, Laid W A ∧ ∀ i, i < 10 → Bare W (A i) := by
  have h' : laidMet Tryd.prog (tenL.map fun x => (x.1, errD x.2)) W ∧ handlesMet Tryd.prog [("errors.errorType", Rows.laid_errors_errorType)] W := h
  obtain ⟨⟨ps, hv, hnd, hrows⟩, hh⟩ := h'
  obtain ⟨xs, hS⟩ := sents_of tenL ps tenL_globals hv hrows
  have hN := sents_nodup tenL xs ps hS hnd
  obtain ⟨name, u, ty, e1, e2, e3, e4, e5⟩ := hh _ (List.mem_singleton.2 rfl)
  have en : name = [101, 114, 114, 111, 114] := (Option.some.inj e1).symm
  subst en
  obtain rfl := Option.some.inj (Tryd.rt.symm.trans e2)
  have hm : ty ∈ (List.range 147).filter fun t => Tryd.prog.rowNamed t [101, 114, 114, 111, 114] := List.mem_filter.2 ⟨List.mem_range.2 (by rw [← Tryd.size]; exact e3), e4⟩
  rw [Tryd.oneRow] at hm
  obtain rfl := List.mem_singleton.1 hm
  have hk : typeHandle Tryd.prog 30 = .pointer (some ⟨11, 30, none⟩) := by kernel_rfl
  rw [hk] at e5
  have hc : W.cell? ⟨10, 0, none⟩ = some hErr := by simpa using World.var?_cell Tryd.gType e5 0
  match xs, hS, hN with
  | [a0, a1, a2, a3, a4, a5, a6, a7, a8, a9], hS, hN =>
    obtain ⟨g0, _, k0, c0, _, q0, hS, _⟩ := hS
    obtain ⟨g1, _, k1, c1, _, q1, hS, _⟩ := hS
    obtain ⟨g2, _, k2, c2, _, q2, hS, _⟩ := hS
    obtain ⟨g3, _, k3, c3, _, q3, hS, _⟩ := hS
    obtain ⟨g4, _, k4, c4, _, q4, hS, _⟩ := hS
    obtain ⟨g5, _, k5, c5, _, q5, hS, _⟩ := hS
    obtain ⟨g6, _, k6, c6, _, q6, hS, _⟩ := hS
    obtain ⟨g7, _, k7, c7, _, q7, hS, _⟩ := hS
    obtain ⟨g8, _, k8, c8, _, q8, hS, _⟩ := hS
    obtain ⟨g9, _, k9, c9, _, q9, hS, _⟩ := hS
    obtain rfl := Option.some.inj (Tryd.gText.symm.trans k0)
    obtain rfl := Option.some.inj (Tryd.gBound.symm.trans k1)
    obtain rfl := Option.some.inj (Tryd.gShape.symm.trans k2)
    obtain rfl := Option.some.inj (Tryd.gNone.symm.trans k3)
    obtain rfl := Option.some.inj (Tryd.gExist.symm.trans k4)
    obtain rfl := Option.some.inj (Tryd.gShort.symm.trans k5)
    obtain rfl := Option.some.inj (Tryd.gSmall.symm.trans k6)
    obtain rfl := Option.some.inj (Tryd.gGone.symm.trans k7)
    obtain rfl := Option.some.inj (Tryd.gTurn.symm.trans k8)
    obtain rfl := Option.some.inj (Tryd.gOld.symm.trans k9)
    have bare : ∀ i, i < 10 → Bare W ([a0, a1, a2, a3, a4, a5, a6, a7, a8, a9].getD i ⟨0, 0, none⟩) := fun i hi => by
      match i, hi with
      | 0, _ => exact q0
      | 1, _ => exact q1
      | 2, _ => exact q2
      | 3, _ => exact q3
      | 4, _ => exact q4
      | 5, _ => exact q5
      | 6, _ => exact q6
      | 7, _ => exact q7
      | 8, _ => exact q8
      | 9, _ => exact q9
    refine ⟨fun i => [a0, a1, a2, a3, a4, a5, a6, a7, a8, a9].getD i ⟨0, 0, none⟩, ⟨c0, c1, c2, c3, c4, c5, c6, c7, c8, c9, hc, fun i hi => (bare i hi).plain, fun i j hi _ => .inl (bare i hi), ?_⟩, bare⟩
    · intro i j hi hj hij e
      have hi' : i < [a0, a1, a2, a3, a4, a5, a6, a7, a8, a9].length := hi
      have hj' : j < [a0, a1, a2, a3, a4, a5, a6, a7, a8, a9].length := hj
      rw [List.getD_eq_getElem?_getD, List.getD_eq_getElem?_getD, List.getElem?_eq_getElem hi', List.getElem?_eq_getElem hj', Option.getD_some, Option.getD_some] at e
      rcases Nat.lt_or_gt_of_ne hij with hl | hl
      · exact List.pairwise_iff_getElem.1 hN i j hi' hj' hl e
      · exact List.pairwise_iff_getElem.1 hN j i hj' hi' hl e.symm
  | [], hS, _ => exact hS.elim
theorem of_laid {W : World} (h : laidMetH Tryd.prog laidList W) : ∃ A : Nat → Addr, Laid W A := (of_laid_bare h).imp fun _ h => h.1
end Go.Proofs.YtamjnkjgdaojiaaDoor
