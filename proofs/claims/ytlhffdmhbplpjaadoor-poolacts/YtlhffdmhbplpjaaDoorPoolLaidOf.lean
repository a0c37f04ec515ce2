/-
  All errors laid: those of a pool.
-/
import Derived.Test.YtlhffdmhbplpjaaDoorProgPool
import Derived.Test.YtlhffdmhbplpjaaDoorErrTells
namespace Go.Proofs.YtlhffdmhbplpjaaDoor
open Go.RowKit

theorem Laid.pool {w : World} {A : Nat → Addr} (h : Laid w A) : PoolLaid w A true := ⟨h.v1, h.v3, fun _ => h.v5, h.v6, h.v7⟩
end Go.Proofs.YtlhffdmhbplpjaaDoor
