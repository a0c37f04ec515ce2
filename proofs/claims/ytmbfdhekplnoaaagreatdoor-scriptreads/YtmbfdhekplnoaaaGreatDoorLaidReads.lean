/-
  What a row that lists package api's ten errors and package errors' handle gives a walk on scripts.
-/
import Derived.Test.YtmbfdhekplnoaaaGreatDoorLaidAll
import Derived.Test.YtmbfdhekplnoaaaGreatDoorLaidScript
namespace Go.Proofs.YtmbfdhekplnoaaaGreatDoor
open Go.ChangeShapes Go.WideShapes Go.ChangeAt Go.RowKit

theorem sent_inj {w : World} {b : Nat} {x y : Addr} (h : w.cell? ⟨b, 0, none⟩ = some (sent x)) (g : w.cell? ⟨b, 0, none⟩ = some (sent y)) : x = y := by
  rw [h] at g
  injection g with g
  injection g with _ g
  injection g with g
  injection g
theorem Scs.of_all {W : World} (h : laidMetH Tryz.prog [("math/bits.deBruijn32tab", Rows.laid_math_bits_deBruijn32tab), ("math/bits.deBruijn64tab", Rows.laid_math_bits_deBruijn64tab), ("internal/strconv.uint64pow10", Rows.laid_internal_strconv_uint64pow10), ("unicode/utf8.acceptRanges", Rows.laid_unicode_utf8_acceptRanges), ("errors.errorType", Rows.laid_errors_errorType), ("bakehouse/api.ErrText", Rows.laid_bakehouse_api_ErrText), ("bakehouse/api.ErrBound", Rows.laid_bakehouse_api_ErrBound), ("bakehouse/api.ErrShape", Rows.laid_bakehouse_api_ErrShape), ("bakehouse/api.ErrNone", Rows.laid_bakehouse_api_ErrNone), ("bakehouse/api.ErrExist", Rows.laid_bakehouse_api_ErrExist), ("bakehouse/api.ErrShort", Rows.laid_bakehouse_api_ErrShort), ("bakehouse/api.ErrSmall", Rows.laid_bakehouse_api_ErrSmall), ("bakehouse/api.ErrGone", Rows.laid_bakehouse_api_ErrGone), ("bakehouse/api.ErrTurn", Rows.laid_bakehouse_api_ErrTurn), ("bakehouse/api.ErrOld", Rows.laid_bakehouse_api_ErrOld), ("unicode/utf8.first", Rows.laid_unicode_utf8_first)] W) : ∃ A, Laid W A ∧ ScLaid W A := by
  have h' : laidMet Tryz.prog ([("math/bits.deBruijn32tab", Rows.laid_math_bits_deBruijn32tab), ("math/bits.deBruijn64tab", Rows.laid_math_bits_deBruijn64tab), ("internal/strconv.uint64pow10", Rows.laid_internal_strconv_uint64pow10), ("unicode/utf8.acceptRanges", Rows.laid_unicode_utf8_acceptRanges), ("bakehouse/api.ErrText", Rows.laid_bakehouse_api_ErrText), ("bakehouse/api.ErrBound", Rows.laid_bakehouse_api_ErrBound), ("bakehouse/api.ErrShape", Rows.laid_bakehouse_api_ErrShape), ("bakehouse/api.ErrNone", Rows.laid_bakehouse_api_ErrNone), ("bakehouse/api.ErrExist", Rows.laid_bakehouse_api_ErrExist), ("bakehouse/api.ErrShort", Rows.laid_bakehouse_api_ErrShort), ("bakehouse/api.ErrSmall", Rows.laid_bakehouse_api_ErrSmall), ("bakehouse/api.ErrGone", Rows.laid_bakehouse_api_ErrGone), ("bakehouse/api.ErrTurn", Rows.laid_bakehouse_api_ErrTurn), ("bakehouse/api.ErrOld", Rows.laid_bakehouse_api_ErrOld), ("unicode/utf8.first", Rows.laid_unicode_utf8_first)]) W ∧ handlesMet Tryz.prog [("errors.errorType", Rows.laid_errors_errorType)] W := h
  obtain ⟨hT, h2⟩ := Scs.of_tables Rows.laid_math_bits_deBruijn32tab Rows.laid_math_bits_deBruijn64tab Rows.laid_unicode_utf8_acceptRanges Rows.laid_unicode_utf8_first h'.1
  have h3 : laidMetH Tryz.prog laidList W := ⟨h2, h'.2⟩
  obtain ⟨A, hA⟩ := of_laid h3
  obtain ⟨B, hB⟩ := Scs.of_texts hT h2
  have e0 : A 0 = B 0 := sent_inj hA.v0 hB.v0
  have e1 : A 1 = B 1 := sent_inj hA.v1 hB.v1
  have e2 : A 2 = B 2 := sent_inj hA.v2 hB.v2
  have e3 : A 3 = B 3 := sent_inj hA.v3 hB.v3
  have e4 : A 4 = B 4 := sent_inj hA.v4 hB.v4
  have e5 : A 5 = B 5 := sent_inj hA.v5 hB.v5
  have e6 : A 6 = B 6 := sent_inj hA.v6 hB.v6
  have e7 : A 7 = B 7 := sent_inj hA.v7 hB.v7
  have e8 : A 8 = B 8 := sent_inj hA.v8 hB.v8
  have e9 : A 9 = B 9 := sent_inj hA.v9 hB.v9
  refine ⟨A, hA, hA.v0, hA.v1, hA.v2, hA.v3, hA.v4, hA.v5, hA.v6, hA.v7, hA.v8, hA.v9, fun i hi => ?_, hT⟩
  have x := hB.t i hi
  match i, hi with
  | 0, _ => rw [e0]; exact x
  | 1, _ => rw [e1]; exact x
  | 2, _ => rw [e2]; exact x
  | 3, _ => rw [e3]; exact x
  | 4, _ => rw [e4]; exact x
  | 5, _ => rw [e5]; exact x
  | 6, _ => rw [e6]; exact x
  | 7, _ => rw [e7]; exact x
  | 8, _ => rw [e8]; exact x
  | 9, _ => rw [e9]; exact x
end Go.Proofs.YtmbfdhekplnoaaaGreatDoor
