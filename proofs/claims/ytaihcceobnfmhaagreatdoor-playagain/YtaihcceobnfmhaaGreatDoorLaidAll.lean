/-
  What a row that lists package api's ten sentinels and package errors' handle gives a walk.
-/
import Derived.Test.YtaihcceobnfmhaaGreatDoorSentX
import Derived.Test.YtaihcceobnfmhaaGreatDoorErrTellsX
namespace Go.Proofs.YtaihcceobnfmhaaGreatDoor
open Go.ChangeShapes Go.WideShapes Go.ChangeAt Go.RowKit

theorem Tryz.gText : Tryz.prog.globalNamed "bakehouse/api.ErrText" = some 2 := by kernel_rfl
theorem Tryz.gShape : Tryz.prog.globalNamed "bakehouse/api.ErrShape" = some 3 := by kernel_rfl
theorem Tryz.gNone : Tryz.prog.globalNamed "bakehouse/api.ErrNone" = some 4 := by kernel_rfl
theorem Tryz.gExist : Tryz.prog.globalNamed "bakehouse/api.ErrExist" = some 5 := by kernel_rfl
theorem Tryz.gShort : Tryz.prog.globalNamed "bakehouse/api.ErrShort" = some 6 := by kernel_rfl
theorem Tryz.gSmall : Tryz.prog.globalNamed "bakehouse/api.ErrSmall" = some 7 := by kernel_rfl
theorem Tryz.gGone : Tryz.prog.globalNamed "bakehouse/api.ErrGone" = some 8 := by kernel_rfl
theorem Tryz.gTurn : Tryz.prog.globalNamed "bakehouse/api.ErrTurn" = some 1 := by kernel_rfl
theorem Tryz.gOld : Tryz.prog.globalNamed "bakehouse/api.ErrOld" = some 9 := by kernel_rfl
theorem Tryz.gTextT : (Tryz.prog.globals[2]?).map (·.type) = some 27 := by kernel_rfl
theorem Tryz.gShapeT : (Tryz.prog.globals[3]?).map (·.type) = some 27 := by kernel_rfl
theorem Tryz.gNoneT : (Tryz.prog.globals[4]?).map (·.type) = some 27 := by kernel_rfl
theorem Tryz.gExistT : (Tryz.prog.globals[5]?).map (·.type) = some 27 := by kernel_rfl
theorem Tryz.gShortT : (Tryz.prog.globals[6]?).map (·.type) = some 27 := by kernel_rfl
theorem Tryz.gSmallT : (Tryz.prog.globals[7]?).map (·.type) = some 27 := by kernel_rfl
theorem Tryz.gGoneT : (Tryz.prog.globals[8]?).map (·.type) = some 27 := by kernel_rfl
theorem Tryz.gTurnT : (Tryz.prog.globals[1]?).map (·.type) = some 27 := by kernel_rfl
theorem Tryz.gOldT : (Tryz.prog.globals[9]?).map (·.type) = some 27 := by kernel_rfl
theorem Tryz.gType : Tryz.prog.globalNamed "errors.errorType" = some 10 := by kernel_rfl
theorem Tryz.rt : (Tryz.prog.cutTypes.find? (·.1 == "internal/reflectlite.rtype")).map (·.2) = some 224 := by kernel_rfl
theorem Tryz.oneRow : ((List.range 276).filter fun t => Tryz.prog.rowNamed t [101, 114, 114, 111, 114]) = [27] := by kernel_rfl
theorem Tryz.size : Tryz.prog.types.size = 276 := by kernel_rfl

/-- the list of the rows -/
def laidList : List (String × DataW Unit) := ("errors.errorType", Rows.laid_errors_errorType) :: [("bakehouse/api.ErrText", Rows.laid_bakehouse_api_ErrText), ("bakehouse/api.ErrBound", Rows.laid_bakehouse_api_ErrBound), ("bakehouse/api.ErrShape", Rows.laid_bakehouse_api_ErrShape), ("bakehouse/api.ErrNone", Rows.laid_bakehouse_api_ErrNone), ("bakehouse/api.ErrExist", Rows.laid_bakehouse_api_ErrExist), ("bakehouse/api.ErrShort", Rows.laid_bakehouse_api_ErrShort), ("bakehouse/api.ErrSmall", Rows.laid_bakehouse_api_ErrSmall), ("bakehouse/api.ErrGone", Rows.laid_bakehouse_api_ErrGone), ("bakehouse/api.ErrTurn", Rows.laid_bakehouse_api_ErrTurn), ("bakehouse/api.ErrOld", Rows.laid_bakehouse_api_ErrOld)]
def tenL : List (String × List UInt8) := [("bakehouse/api.ErrText", [98, 97, 107, 101, 104, 111, 117, 115, 101, 58, 32, 116, 101, 120, 116]), ("bakehouse/api.ErrBound", [98, 97, 107, 101, 104, 111, 117, 115, 101, 58, 32, 98, 111, 117, 110, 100]), ("bakehouse/api.ErrShape", [98, 97, 107, 101, 104, 111, 117, 115, 101, 58, 32, 115, 104, 97, 112, 101]), ("bakehouse/api.ErrNone", [98, 97, 107, 101, 104, 111, 117, 115, 101, 58, 32, 110, 111, 110, 101]), ("bakehouse/api.ErrExist", [98, 97, 107, 101, 104, 111, 117, 115, 101, 58, 32, 101, 120, 105, 115, 116]), ("bakehouse/api.ErrShort", [98, 97, 107, 101, 104, 111, 117, 115, 101, 58, 32, 115, 104, 111, 114, 116]), ("bakehouse/api.ErrSmall", [98, 97, 107, 101, 104, 111, 117, 115, 101, 58, 32, 115, 109, 97, 108, 108]), ("bakehouse/api.ErrGone", [98, 97, 107, 101, 104, 111, 117, 115, 101, 58, 32, 103, 111, 110, 101]), ("bakehouse/api.ErrTurn", [98, 97, 107, 101, 104, 111, 117, 115, 101, 58, 32, 116, 117, 114, 110]), ("bakehouse/api.ErrOld", [98, 97, 107, 101, 104, 111, 117, 115, 101, 58, 32, 111, 108, 100])]

theorem tenL_globals : ∀ n d, (n, d) ∈ tenL → ∃ g, Tryz.prog.globalNamed n = some g ∧ (Tryz.prog.globals[g]?).map (·.type) = some 27 := by
  intro n d h
  simp only [tenL, List.mem_cons, Prod.mk.injEq, List.not_mem_nil, or_false] at h
  rcases h with ⟨rfl, _⟩ | ⟨rfl, _⟩ | ⟨rfl, _⟩ | ⟨rfl, _⟩ | ⟨rfl, _⟩ | ⟨rfl, _⟩ | ⟨rfl, _⟩ | ⟨rfl, _⟩ | ⟨rfl, _⟩ | ⟨rfl, _⟩
  · exact ⟨_, Tryz.gText, Tryz.gTextT⟩
  · exact ⟨_, Tryz.gBound, Tryz.gBoundT⟩
  · exact ⟨_, Tryz.gShape, Tryz.gShapeT⟩
  · exact ⟨_, Tryz.gNone, Tryz.gNoneT⟩
  · exact ⟨_, Tryz.gExist, Tryz.gExistT⟩
  · exact ⟨_, Tryz.gShort, Tryz.gShortT⟩
  · exact ⟨_, Tryz.gSmall, Tryz.gSmallT⟩
  · exact ⟨_, Tryz.gGone, Tryz.gGoneT⟩
  · exact ⟨_, Tryz.gTurn, Tryz.gTurnT⟩
  · exact ⟨_, Tryz.gOld, Tryz.gOldT⟩

theorem of_laid_bare {W : World} (h : laidMetH Tryz.prog laidList W) : ∃ A : Nat → Addr, Laid W A ∧ ∀ i, i < 10 → Bare W (A i) := by
  have h' : laidMet Tryz.prog (tenL.map fun x => (x.1, errD x.2)) W ∧ handlesMet Tryz.prog [("errors.errorType", Rows.laid_errors_errorType)] W := h
  obtain ⟨⟨ps, hv, hnd, hrows⟩, hh⟩ := h'
  obtain ⟨xs, hS⟩ := sents_of tenL ps tenL_globals hv hrows
  have hN := sents_nodup tenL xs ps hS hnd
  obtain ⟨name, u, ty, e1, e2, e3, e4, e5⟩ := hh _ (List.mem_singleton.2 rfl)
  have en : name = [101, 114, 114, 111, 114] := (Option.some.inj e1).symm
  subst en
  obtain rfl := Option.some.inj (Tryz.rt.symm.trans e2)
  have hm : ty ∈ (List.range 276).filter fun t => Tryz.prog.rowNamed t [101, 114, 114, 111, 114] := List.mem_filter.2 ⟨List.mem_range.2 (by rw [← Tryz.size]; exact e3), e4⟩
  rw [Tryz.oneRow] at hm
  obtain rfl := List.mem_singleton.1 hm
  have hk : typeHandle Tryz.prog 27 = .pointer (some ⟨13, 27, none⟩) := by kernel_rfl
  rw [hk] at e5
  have hc : W.cell? ⟨10, 0, none⟩ = some hErr := by simpa using World.var?_cell Tryz.gType e5 0
  match xs, hS, hN with
  | [a0, a1, a2, a3, a4, a5, a6, a7, a8, a9], hS, hN =>
    obtain ⟨g0, _, k0, c0, _, q0, hS, _⟩ := hS
    obtain ⟨g1, _, k1, c1, _, q1, hS, _⟩ := hS
    obtain ⟨g2, _, k2, c2, _, q2, hS, _⟩ := hS
    obtain ⟨g3, _, k3, c3, _, q3, hS, _⟩ := hS
    obtain ⟨g4, _, k4, c4, _, q4, hS, _⟩ := hS
    obtain ⟨g5, _, k5, c5, _, q5, hS, _⟩ := hS
    obtain ⟨g6, _, k6, c6, _, q6, hS, _⟩ := hS
    obtain ⟨g7, _, k7, c7, _, q7, hS, _⟩ := hS
    obtain ⟨g8, _, k8, c8, _, q8, hS, _⟩ := hS
    obtain ⟨g9, _, k9, c9, _, q9, hS, _⟩ := hS
    obtain rfl := Option.some.inj (Tryz.gText.symm.trans k0)
    obtain rfl := Option.some.inj (Tryz.gBound.symm.trans k1)
    obtain rfl := Option.some.inj (Tryz.gShape.symm.trans k2)
    obtain rfl := Option.some.inj (Tryz.gNone.symm.trans k3)
    obtain rfl := Option.some.inj (Tryz.gExist.symm.trans k4)
    obtain rfl := Option.some.inj (Tryz.gShort.symm.trans k5)
    obtain rfl := Option.some.inj (Tryz.gSmall.symm.trans k6)
    obtain rfl := Option.some.inj (Tryz.gGone.symm.trans k7)
    obtain rfl := Option.some.inj (Tryz.gTurn.symm.trans k8)
    obtain rfl := Option.some.inj (Tryz.gOld.symm.trans k9)
    have bare : ∀ i, i < 10 → Bare W ([a0, a1, a2, a3, a4, a5, a6, a7, a8, a9].getD i ⟨0, 0, none⟩) := fun i hi => by
      match i, hi with
      | 0, _ => exact q0
      | 1, _ => exact q1
      | 2, _ => exact q2
      | 3, _ => exact q3
      | 4, _ => exact q4
      | 5, _ => exact q5
      | 6, _ => exact q6
      | 7, _ => exact q7
      | 8, _ => exact q8
      | 9, _ => exact q9
    refine ⟨fun i => [a0, a1, a2, a3, a4, a5, a6, a7, a8, a9].getD i ⟨0, 0, none⟩, ⟨c0, c1, c2, c3, c4, c5, c6, c7, c8, c9, hc, fun i hi => (bare i hi).plain, fun i j hi _ => .inl (bare i hi), ?_⟩, bare⟩
    · intro i j hi hj hij e
      have hi' : i < [a0, a1, a2, a3, a4, a5, a6, a7, a8, a9].length := hi
      have hj' : j < [a0, a1, a2, a3, a4, a5, a6, a7, a8, a9].length := hj
      rw [List.getD_eq_getElem?_getD, List.getD_eq_getElem?_getD, List.getElem?_eq_getElem hi', List.getElem?_eq_getElem hj', Option.getD_some, Option.getD_some] at e
      rcases Nat.lt_or_gt_of_ne hij with hl | hl
      · exact List.pairwise_iff_getElem.1 hN i j hi' hj' hl e
      · exact List.pairwise_iff_getElem.1 hN j i hj' hi' hl e.symm
  | [], hS, _ => exact hS.elim
theorem of_laid {W : World} (h : laidMetH Tryz.prog laidList W) : ∃ A : Nat → Addr, Laid W A := (of_laid_bare h).imp fun _ h => h.1
end Go.Proofs.YtaihcceobnfmhaaGreatDoor
