/-
  errors.As of this program by its contracts: its target a variable of type *api.Fault; the error a sentinel (false) or a fault (true, and the variable is set). Go's own text is walked; the model's entries for internal/reflectlite by closed facts.
-/
import Derived.Test.YtmbfdhekplnoaaaGreatDoorErrs
namespace Go.Proofs.YtmbfdhekplnoaaaGreatDoor
open Go.RowKit Go.Extern.Stop Go.Stop Go.Extern

/-! errors.As, its target a variable of type *api.Fault: the model's entries for internal/reflectlite at this dump's numbers -/
end Go.Proofs.YtmbfdhekplnoaaaGreatDoor
