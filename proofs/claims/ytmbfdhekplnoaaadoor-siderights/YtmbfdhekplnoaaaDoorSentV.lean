/-
  A sentinel's value.
-/
import Derived.Test.YtmbfdhekplnoaaaDoorU64InX
namespace Go.Proofs.YtmbfdhekplnoaaaDoor

abbrev sent (a : Addr) : Value := .iface 165 (.pointer (some a))
end Go.Proofs.YtmbfdhekplnoaaaDoor
