/-
  The rows, and what the library has for them.
-/
import Derived.Test.YtamjnkjgdaojiaaDoorRows
import Derived.Test.YtamjnkjgdaojiaaDoorBase
import Derived.ChangeSame
import Derived.ChangeVars
import Derived.JoinedOf
import Derived.RowKit
import Derived.RowKitTokens
import Derived.LaidLaws
import Derived.LaidHandle
import Derived.Stop.Joined
import Derived.Stop.LaidErr
import Derived.ProofKit
import Derived.LaidMore
import Derived.OpenShut
import Derived.Carry
