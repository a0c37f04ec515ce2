/-
  What the listed variables hold: package api's sentinels, each a pointer of its own; package errors' handle of the type error.
-/
import Derived.Test.YtmbfdhekplnoaaaGreatDoorIssueMathX
import Derived.Test.YtmbfdhekplnoaaaGreatDoorProgPurseActsX
namespace Go.Proofs.YtmbfdhekplnoaaaGreatDoor
open Go.ChangeShapes Go.WideShapes Go.ChangeAt Go.RowKit

theorem Tryz.own : ownKnob Tryz.prog.godebug = none := by kernel_rfl
theorem Tryz.star : "*" ++ "errors.errorString" = "*errors.errorString" := by decide
theorem Tryz.rowES (u : TypeId) (h : Tryz.prog.typeName? 3 u = some "*errors.errorString") : u = 366 :=
  typeName_ptr_named (nm := "errors.errorString") (by rw [Tryz.star]; kernel_rfl) (by kernel_rfl) (by decide) u (by rw [Tryz.star]; exact h)
theorem Tryz.cellsES : Tryz.prog.cellsOf 385 = 1 := by kernel_rfl
theorem Tryz.cellsStr : Tryz.prog.cellsOf 9 = 1 := by kernel_rfl

abbrev errD (text : List UInt8) : DataW Unit := .iface "*errors.errorString" (.ptr (.agg [.lit (.string text)]))

theorem Tryz.gBound : Tryz.prog.globalNamed "bakehouse/api.ErrBound" = some 0 := by kernel_rfl
theorem Tryz.gBoundT : (Tryz.prog.globals[0]?).map (·.type) = some 26 := by kernel_rfl
end Go.Proofs.YtmbfdhekplnoaaaGreatDoor
