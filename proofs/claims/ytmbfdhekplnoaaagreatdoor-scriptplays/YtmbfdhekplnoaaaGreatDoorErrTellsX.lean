/-
  plain.Code of this program by its contracts: nil, a sentinel, a fault with a sentinel in it, another error.
  What Code tells of an error, by its number.
-/
import Derived.Test.YtmbfdhekplnoaaaGreatDoorErrsAs
import Derived.Test.YtmbfdhekplnoaaaGreatDoorProgPurseActsX
namespace Go.Proofs.YtmbfdhekplnoaaaGreatDoor
open Go.RowKit

abbrev ten (A : Nat → Addr) : Array Value := #[sent (A 0), sent (A 1), sent (A 2), sent (A 3), sent (A 4), sent (A 5), sent (A 6), sent (A 7), sent (A 8), sent (A 9)]
/-! at the errors that there are -/
/-! the laws' own two helpers -/
end Go.Proofs.YtmbfdhekplnoaaaGreatDoor

namespace Go.Proofs.YtmbfdhekplnoaaaGreatDoor
open Go.RowKit

end Go.Proofs.YtmbfdhekplnoaaaGreatDoor
