/-
  NARROWER THAN 'FOR EVERY INPUT', by the rows' own cells (each row's printed sentence says how): PurseSums: laid · PurseActs: laid · StakeSums: laid · StakeWaits: laid · RightBakers: laid · RightOnly: laid · IssueRates: laid · IssueFalls: laid · CourtCases: laid · CourtOnce: laid.
  DERIVED. THE GIVEN ROWS OF THIS SEAT. 10 by the template 'for every input the law returns true; each argument reads behind the call as it read before'; 0 by the template 'total and deterministic' (their statements: YtlhffdmhbplpjabDoorTotals.lean).
  GIVEN WITH THE SEED: the statements are not yours to turn. If you find one false, say at which input.
  Laid BY PROGRAM, IN A SANDBOX (cutbox-rows.mjs): the forced cells as the released guide's own fill.sh prints them over the translation 775cd120122049b0… (all of the seat's roots in one cut). By AI agents, Wed Nov 11 2026. No macro, syntax, notation, axiom, sorry.
-/
import Derived.Test.YtlhffdmhbplpjabDoorChecked
import GoSem.Claim
import GoSem.ClaimJoined
import GoSem.ClaimMapViews
import Derived.JoinedTies
import Derived.KernelRfl
namespace Go.Proofs.YtlhffdmhbplpjabDoor
/- THE CELL 'sum', in the pinned program and in every row, IS THE sha256 OF THE DUMP (.gsa) THAT YtlhffdmhbplpjabDoorProg.lean LOADS. Nothing in Lean hashes anything: it is a label: what it is worth is what the hold of that sum in a sandbox is worth. -/
noncomputable def Tryd.pinned : Pinned := { name := "ytlhffdmhbplpjabdoor", sum := "775cd120122049b0d95e634a5cfa589b4858774201faf5c84c1de6bccb8faf69", checked := Tryd.checked }
namespace Rows
def none {H : Type} : Left H := { results := [], args := [] }

/- WHAT THE LISTED PACKAGE-LEVEL VARIABLES READ AS WHEN THE CALL BEGINS. Each datum BY PROGRAM (the guide's laid-datum.mjs) off the statement by which the dump's own 'gosem.cut.vars' lays the variable. In a bare row this is a premise. The card (YtlhffdmhbplpjabDoorCards.lean) ties it to the program's text. -/
def laid_bakehouse_api_ErrBound {H : Type} : DataW H := .iface "*errors.errorString" (.ptr (.agg [.lit (.string [98, 97, 107, 101, 104, 111, 117, 115, 101, 58, 32, 98, 111, 117, 110, 100])]))
def laid_bakehouse_api_ErrShort {H : Type} : DataW H := .iface "*errors.errorString" (.ptr (.agg [.lit (.string [98, 97, 107, 101, 104, 111, 117, 115, 101, 58, 32, 115, 104, 111, 114, 116])]))
def laid_errors_errorType {H : Type} : DataW H := .iface "internal/reflectlite.rtype" (.agg [.ptr (.lit (.string [101, 114, 114, 111, 114]))])
def laid_bakehouse_api_ErrText {H : Type} : DataW H := .iface "*errors.errorString" (.ptr (.agg [.lit (.string [98, 97, 107, 101, 104, 111, 117, 115, 101, 58, 32, 116, 101, 120, 116])]))
def laid_bakehouse_api_ErrShape {H : Type} : DataW H := .iface "*errors.errorString" (.ptr (.agg [.lit (.string [98, 97, 107, 101, 104, 111, 117, 115, 101, 58, 32, 115, 104, 97, 112, 101])]))
def laid_bakehouse_api_ErrNone {H : Type} : DataW H := .iface "*errors.errorString" (.ptr (.agg [.lit (.string [98, 97, 107, 101, 104, 111, 117, 115, 101, 58, 32, 110, 111, 110, 101])]))
def laid_bakehouse_api_ErrExist {H : Type} : DataW H := .iface "*errors.errorString" (.ptr (.agg [.lit (.string [98, 97, 107, 101, 104, 111, 117, 115, 101, 58, 32, 101, 120, 105, 115, 116])]))
def laid_bakehouse_api_ErrSmall {H : Type} : DataW H := .iface "*errors.errorString" (.ptr (.agg [.lit (.string [98, 97, 107, 101, 104, 111, 117, 115, 101, 58, 32, 115, 109, 97, 108, 108])]))
def laid_bakehouse_api_ErrGone {H : Type} : DataW H := .iface "*errors.errorString" (.ptr (.agg [.lit (.string [98, 97, 107, 101, 104, 111, 117, 115, 101, 58, 32, 103, 111, 110, 101])]))
def laid_bakehouse_api_ErrTurn {H : Type} : DataW H := .iface "*errors.errorString" (.ptr (.agg [.lit (.string [98, 97, 107, 101, 104, 111, 117, 115, 101, 58, 32, 116, 117, 114, 110])]))
def laid_bakehouse_api_ErrOld {H : Type} : DataW H := .iface "*errors.errorString" (.ptr (.agg [.lit (.string [98, 97, 107, 101, 104, 111, 117, 115, 101, 58, 32, 111, 108, 100])]))

/-- 'bakehouselaw1.PurseSums': WHATEVER THE INPUT: true; the input reads as it did. -/
def purseSumsSpec : ChangeSpec := { name := "purseSums", fn := fun _ => fun
  | [d1, d2] => { results := [.lit (.bool true)], args := [d1, d2] }
  | _ => none }
def purseSumsRow : OpenClaim := { program := "ytlhffdmhbplpjabdoor", sum := "775cd120122049b0d95e634a5cfa589b4858774201faf5c84c1de6bccb8faf69", func := "bakehouse/bakehouselaw1.PurseSums", spec := "purseSums", named := ["bakehouse/api.ErrBound", "bakehouse/api.ErrShort"], plainKeys := false, apart := false, laid := [("bakehouse/api.ErrBound", laid_bakehouse_api_ErrBound), ("bakehouse/api.ErrShort", laid_bakehouse_api_ErrShort)] }
def PurseSumsSaid : Prop := purseSumsRow.holds Tryd.pinned (OpenSpec.ofChange purseSumsSpec)

/-- ITS FALSE NEIGHBOUR: 'it returns false'. Refute it at one input. -/
def purseSumsWrong : ChangeSpec := { name := "purseSums", fn := fun _ => fun
  | [d1, d2] => { results := [.lit (.bool false)], args := [d1, d2] }
  | _ => none }
def PurseSumsWrongFalsely : Prop := purseSumsRow.holds Tryd.pinned (OpenSpec.ofChange purseSumsWrong)

/-- 'bakehouselaw1.PurseActs': WHATEVER THE INPUT: true; the input reads as it did. -/
def purseActsSpec : ChangeSpec := { name := "purseActs", fn := fun _ => fun
  | [d1, d2] => { results := [.lit (.bool true)], args := [d1, d2] }
  | _ => none }
def purseActsRow : OpenClaim := { program := "ytlhffdmhbplpjabdoor", sum := "775cd120122049b0d95e634a5cfa589b4858774201faf5c84c1de6bccb8faf69", func := "bakehouse/bakehouselaw1.PurseActs", spec := "purseActs", inPlace := ["internal/reflectlite.ValueOf", "(internal/reflectlite.Value).Type", "(internal/reflectlite.Value).IsNil", "internal/reflectlite.TypeOf", "(internal/reflectlite.Value).Elem", "(internal/reflectlite.Value).Set"], unfollowed := true, recurses := true, named := ["bakehouse/api.ErrBound", "bakehouse/api.ErrShort", "bakehouse/api.ErrText", "bakehouse/api.ErrShape", "bakehouse/api.ErrNone", "bakehouse/api.ErrExist", "bakehouse/api.ErrSmall", "bakehouse/api.ErrGone", "bakehouse/api.ErrTurn", "bakehouse/api.ErrOld", "errors.errorType"], plainKeys := false, apart := false, laid := [("errors.errorType", laid_errors_errorType), ("bakehouse/api.ErrText", laid_bakehouse_api_ErrText), ("bakehouse/api.ErrBound", laid_bakehouse_api_ErrBound), ("bakehouse/api.ErrShape", laid_bakehouse_api_ErrShape), ("bakehouse/api.ErrNone", laid_bakehouse_api_ErrNone), ("bakehouse/api.ErrExist", laid_bakehouse_api_ErrExist), ("bakehouse/api.ErrShort", laid_bakehouse_api_ErrShort), ("bakehouse/api.ErrSmall", laid_bakehouse_api_ErrSmall), ("bakehouse/api.ErrGone", laid_bakehouse_api_ErrGone), ("bakehouse/api.ErrTurn", laid_bakehouse_api_ErrTurn), ("bakehouse/api.ErrOld", laid_bakehouse_api_ErrOld)] }
def PurseActsSaid : Prop := purseActsRow.holds Tryd.pinned (OpenSpec.ofChange purseActsSpec)

/-- ITS FALSE NEIGHBOUR: 'it returns false'. Refute it at one input. -/
def purseActsWrong : ChangeSpec := { name := "purseActs", fn := fun _ => fun
  | [d1, d2] => { results := [.lit (.bool false)], args := [d1, d2] }
  | _ => none }
def PurseActsWrongFalsely : Prop := purseActsRow.holds Tryd.pinned (OpenSpec.ofChange purseActsWrong)

/-- 'bakehouselaw2.StakeSums': WHATEVER THE INPUT: true; the input reads as it did. -/
def stakeSumsSpec : ChangeSpec := { name := "stakeSums", fn := fun _ => fun
  | [d] => { results := [.lit (.bool true)], args := [d] }
  | _ => none }
def stakeSumsRow : OpenClaim := { program := "ytlhffdmhbplpjabdoor", sum := "775cd120122049b0d95e634a5cfa589b4858774201faf5c84c1de6bccb8faf69", func := "bakehouse/bakehouselaw2.StakeSums", spec := "stakeSums", inPlace := ["maps.clone"], named := ["bakehouse/api.ErrBound", "bakehouse/api.ErrExist", "bakehouse/api.ErrNone", "bakehouse/api.ErrGone", "bakehouse/api.ErrSmall", "math/bits.divideError", "math/bits.overflowError", "bakehouse/api.ErrShort"], plainKeys := false, apart := false, laid := [("bakehouse/api.ErrBound", laid_bakehouse_api_ErrBound), ("bakehouse/api.ErrNone", laid_bakehouse_api_ErrNone), ("bakehouse/api.ErrExist", laid_bakehouse_api_ErrExist), ("bakehouse/api.ErrShort", laid_bakehouse_api_ErrShort), ("bakehouse/api.ErrSmall", laid_bakehouse_api_ErrSmall), ("bakehouse/api.ErrGone", laid_bakehouse_api_ErrGone)] }
def StakeSumsSaid : Prop := stakeSumsRow.holds Tryd.pinned (OpenSpec.ofChange stakeSumsSpec)

/-- ITS FALSE NEIGHBOUR: 'it returns false'. Refute it at one input. -/
def stakeSumsWrong : ChangeSpec := { name := "stakeSums", fn := fun _ => fun
  | [d] => { results := [.lit (.bool false)], args := [d] }
  | _ => none }
def StakeSumsWrongFalsely : Prop := stakeSumsRow.holds Tryd.pinned (OpenSpec.ofChange stakeSumsWrong)

/-- 'bakehouselaw2.StakeWaits': WHATEVER THE INPUT: true; the input reads as it did. -/
def stakeWaitsSpec : ChangeSpec := { name := "stakeWaits", fn := fun _ => fun
  | [d1, d2, d3, d4, d5] => { results := [.lit (.bool true)], args := [d1, d2, d3, d4, d5] }
  | _ => none }
def stakeWaitsRow : OpenClaim := { program := "ytlhffdmhbplpjabdoor", sum := "775cd120122049b0d95e634a5cfa589b4858774201faf5c84c1de6bccb8faf69", func := "bakehouse/bakehouselaw2.StakeWaits", spec := "stakeWaits", inPlace := ["maps.clone", "internal/reflectlite.ValueOf", "(internal/reflectlite.Value).Type", "(internal/reflectlite.Value).IsNil", "internal/reflectlite.TypeOf", "(internal/reflectlite.Value).Elem", "(internal/reflectlite.Value).Set"], unfollowed := true, recurses := true, named := ["bakehouse/api.ErrBound", "bakehouse/api.ErrExist", "bakehouse/api.ErrNone", "bakehouse/api.ErrGone", "bakehouse/api.ErrSmall", "math/bits.divideError", "math/bits.overflowError", "bakehouse/api.ErrShort", "bakehouse/api.ErrText", "bakehouse/api.ErrShape", "bakehouse/api.ErrTurn", "bakehouse/api.ErrOld", "errors.errorType"], plainKeys := false, apart := false, laid := [("errors.errorType", laid_errors_errorType), ("bakehouse/api.ErrText", laid_bakehouse_api_ErrText), ("bakehouse/api.ErrBound", laid_bakehouse_api_ErrBound), ("bakehouse/api.ErrShape", laid_bakehouse_api_ErrShape), ("bakehouse/api.ErrNone", laid_bakehouse_api_ErrNone), ("bakehouse/api.ErrExist", laid_bakehouse_api_ErrExist), ("bakehouse/api.ErrShort", laid_bakehouse_api_ErrShort), ("bakehouse/api.ErrSmall", laid_bakehouse_api_ErrSmall), ("bakehouse/api.ErrGone", laid_bakehouse_api_ErrGone), ("bakehouse/api.ErrTurn", laid_bakehouse_api_ErrTurn), ("bakehouse/api.ErrOld", laid_bakehouse_api_ErrOld)] }
def StakeWaitsSaid : Prop := stakeWaitsRow.holds Tryd.pinned (OpenSpec.ofChange stakeWaitsSpec)

/-- ITS FALSE NEIGHBOUR: 'it returns false'. Refute it at one input. -/
def stakeWaitsWrong : ChangeSpec := { name := "stakeWaits", fn := fun _ => fun
  | [d1, d2, d3, d4, d5] => { results := [.lit (.bool false)], args := [d1, d2, d3, d4, d5] }
  | _ => none }
def StakeWaitsWrongFalsely : Prop := stakeWaitsRow.holds Tryd.pinned (OpenSpec.ofChange stakeWaitsWrong)

/-- 'bakehouselaw2.RightBakers': WHATEVER THE INPUT: true; the input reads as it did. -/
def rightBakersSpec : ChangeSpec := { name := "rightBakers", fn := fun _ => fun
  | [d1, d2, d3, d4, d5] => { results := [.lit (.bool true)], args := [d1, d2, d3, d4, d5] }
  | _ => none }
def rightBakersRow : OpenClaim := { program := "ytlhffdmhbplpjabdoor", sum := "775cd120122049b0d95e634a5cfa589b4858774201faf5c84c1de6bccb8faf69", func := "bakehouse/bakehouselaw2.RightBakers", spec := "rightBakers", inPlace := ["internal/reflectlite.ValueOf", "(internal/reflectlite.Value).Type", "(internal/reflectlite.Value).IsNil", "internal/reflectlite.TypeOf", "(internal/reflectlite.Value).Elem", "(internal/reflectlite.Value).Set"], unfollowed := true, recurses := true, named := ["bakehouse/api.ErrBound", "bakehouse/api.ErrShape", "bakehouse/api.ErrNone", "bakehouse/api.ErrText", "bakehouse/api.ErrExist", "bakehouse/api.ErrShort", "bakehouse/api.ErrSmall", "bakehouse/api.ErrGone", "bakehouse/api.ErrTurn", "bakehouse/api.ErrOld", "errors.errorType"], plainKeys := false, apart := false, laid := [("errors.errorType", laid_errors_errorType), ("bakehouse/api.ErrText", laid_bakehouse_api_ErrText), ("bakehouse/api.ErrBound", laid_bakehouse_api_ErrBound), ("bakehouse/api.ErrShape", laid_bakehouse_api_ErrShape), ("bakehouse/api.ErrNone", laid_bakehouse_api_ErrNone), ("bakehouse/api.ErrExist", laid_bakehouse_api_ErrExist), ("bakehouse/api.ErrShort", laid_bakehouse_api_ErrShort), ("bakehouse/api.ErrSmall", laid_bakehouse_api_ErrSmall), ("bakehouse/api.ErrGone", laid_bakehouse_api_ErrGone), ("bakehouse/api.ErrTurn", laid_bakehouse_api_ErrTurn), ("bakehouse/api.ErrOld", laid_bakehouse_api_ErrOld)] }
def RightBakersSaid : Prop := rightBakersRow.holds Tryd.pinned (OpenSpec.ofChange rightBakersSpec)

/-- ITS FALSE NEIGHBOUR: 'it returns false'. Refute it at one input. -/
def rightBakersWrong : ChangeSpec := { name := "rightBakers", fn := fun _ => fun
  | [d1, d2, d3, d4, d5] => { results := [.lit (.bool false)], args := [d1, d2, d3, d4, d5] }
  | _ => none }
def RightBakersWrongFalsely : Prop := rightBakersRow.holds Tryd.pinned (OpenSpec.ofChange rightBakersWrong)

/-- 'bakehouselaw2.RightOnly': WHATEVER THE INPUT: true; the input reads as it did. -/
def rightOnlySpec : ChangeSpec := { name := "rightOnly", fn := fun _ => fun
  | [d1, d2, d3, d4, d5, d6] => { results := [.lit (.bool true)], args := [d1, d2, d3, d4, d5, d6] }
  | _ => none }
def rightOnlyRow : OpenClaim := { program := "ytlhffdmhbplpjabdoor", sum := "775cd120122049b0d95e634a5cfa589b4858774201faf5c84c1de6bccb8faf69", func := "bakehouse/bakehouselaw2.RightOnly", spec := "rightOnly", unfollowed := true, recurses := true, named := ["bakehouse/api.ErrBound", "bakehouse/api.ErrShape", "bakehouse/api.ErrNone"], plainKeys := false, apart := false, laid := [("bakehouse/api.ErrBound", laid_bakehouse_api_ErrBound), ("bakehouse/api.ErrShape", laid_bakehouse_api_ErrShape), ("bakehouse/api.ErrNone", laid_bakehouse_api_ErrNone)] }
def RightOnlySaid : Prop := rightOnlyRow.holds Tryd.pinned (OpenSpec.ofChange rightOnlySpec)

/-- ITS FALSE NEIGHBOUR: 'it returns false'. Refute it at one input. -/
def rightOnlyWrong : ChangeSpec := { name := "rightOnly", fn := fun _ => fun
  | [d1, d2, d3, d4, d5, d6] => { results := [.lit (.bool false)], args := [d1, d2, d3, d4, d5, d6] }
  | _ => none }
def RightOnlyWrongFalsely : Prop := rightOnlyRow.holds Tryd.pinned (OpenSpec.ofChange rightOnlyWrong)

/-- 'bakehouselaw2.IssueRates': WHATEVER THE INPUT: true; the input reads as it did. -/
def issueRatesSpec : ChangeSpec := { name := "issueRates", fn := fun _ => fun
  | [d1, d2, d3, d4, d5] => { results := [.lit (.bool true)], args := [d1, d2, d3, d4, d5] }
  | _ => none }
def issueRatesRow : OpenClaim := { program := "ytlhffdmhbplpjabdoor", sum := "775cd120122049b0d95e634a5cfa589b4858774201faf5c84c1de6bccb8faf69", func := "bakehouse/bakehouselaw2.IssueRates", spec := "issueRates", inPlace := ["internal/reflectlite.ValueOf", "(internal/reflectlite.Value).Type", "(internal/reflectlite.Value).IsNil", "internal/reflectlite.TypeOf", "(internal/reflectlite.Value).Elem", "(internal/reflectlite.Value).Set"], unfollowed := true, recurses := true, named := ["bakehouse/api.ErrBound", "math/bits.divideError", "math/bits.overflowError", "bakehouse/api.ErrShape", "bakehouse/api.ErrText", "bakehouse/api.ErrNone", "bakehouse/api.ErrExist", "bakehouse/api.ErrShort", "bakehouse/api.ErrSmall", "bakehouse/api.ErrGone", "bakehouse/api.ErrTurn", "bakehouse/api.ErrOld", "errors.errorType"], plainKeys := false, apart := false, laid := [("errors.errorType", laid_errors_errorType), ("bakehouse/api.ErrText", laid_bakehouse_api_ErrText), ("bakehouse/api.ErrBound", laid_bakehouse_api_ErrBound), ("bakehouse/api.ErrShape", laid_bakehouse_api_ErrShape), ("bakehouse/api.ErrNone", laid_bakehouse_api_ErrNone), ("bakehouse/api.ErrExist", laid_bakehouse_api_ErrExist), ("bakehouse/api.ErrShort", laid_bakehouse_api_ErrShort), ("bakehouse/api.ErrSmall", laid_bakehouse_api_ErrSmall), ("bakehouse/api.ErrGone", laid_bakehouse_api_ErrGone), ("bakehouse/api.ErrTurn", laid_bakehouse_api_ErrTurn), ("bakehouse/api.ErrOld", laid_bakehouse_api_ErrOld)] }
def IssueRatesSaid : Prop := issueRatesRow.holds Tryd.pinned (OpenSpec.ofChange issueRatesSpec)

/-- ITS FALSE NEIGHBOUR: 'it returns false'. Refute it at one input. -/
def issueRatesWrong : ChangeSpec := { name := "issueRates", fn := fun _ => fun
  | [d1, d2, d3, d4, d5] => { results := [.lit (.bool false)], args := [d1, d2, d3, d4, d5] }
  | _ => none }
def IssueRatesWrongFalsely : Prop := issueRatesRow.holds Tryd.pinned (OpenSpec.ofChange issueRatesWrong)

/-- 'bakehouselaw2.IssueFalls': WHATEVER THE INPUT: true; the input reads as it did. -/
def issueFallsSpec : ChangeSpec := { name := "issueFalls", fn := fun _ => fun
  | [d1, d2, d3, d4] => { results := [.lit (.bool true)], args := [d1, d2, d3, d4] }
  | _ => none }
def issueFallsRow : OpenClaim := { program := "ytlhffdmhbplpjabdoor", sum := "775cd120122049b0d95e634a5cfa589b4858774201faf5c84c1de6bccb8faf69", func := "bakehouse/bakehouselaw2.IssueFalls", spec := "issueFalls", named := ["bakehouse/api.ErrBound", "math/bits.divideError", "math/bits.overflowError", "bakehouse/api.ErrShape"], plainKeys := false, apart := false, laid := [("bakehouse/api.ErrBound", laid_bakehouse_api_ErrBound), ("bakehouse/api.ErrShape", laid_bakehouse_api_ErrShape)] }
def IssueFallsSaid : Prop := issueFallsRow.holds Tryd.pinned (OpenSpec.ofChange issueFallsSpec)

/-- ITS FALSE NEIGHBOUR: 'it returns false'. Refute it at one input. -/
def issueFallsWrong : ChangeSpec := { name := "issueFalls", fn := fun _ => fun
  | [d1, d2, d3, d4] => { results := [.lit (.bool false)], args := [d1, d2, d3, d4] }
  | _ => none }
def IssueFallsWrongFalsely : Prop := issueFallsRow.holds Tryd.pinned (OpenSpec.ofChange issueFallsWrong)

/-- 'bakehouselaw2.CourtCases': WHATEVER THE INPUT: true; the input reads as it did. -/
def courtCasesSpec : ChangeSpec := { name := "courtCases", fn := fun _ => fun
  | [d1, d2] => { results := [.lit (.bool true)], args := [d1, d2] }
  | _ => none }
def courtCasesRow : OpenClaim := { program := "ytlhffdmhbplpjabdoor", sum := "775cd120122049b0d95e634a5cfa589b4858774201faf5c84c1de6bccb8faf69", func := "bakehouse/bakehouselaw2.CourtCases", spec := "courtCases", inPlace := ["internal/reflectlite.ValueOf", "(internal/reflectlite.Value).Type", "(internal/reflectlite.Value).IsNil", "internal/reflectlite.TypeOf", "(internal/reflectlite.Value).Elem", "(internal/reflectlite.Value).Set"], unfollowed := true, recurses := true, named := ["bakehouse/api.ErrBound", "bakehouse/api.ErrOld", "bakehouse/api.ErrExist", "bakehouse/api.ErrText", "bakehouse/api.ErrShape", "bakehouse/api.ErrNone", "bakehouse/api.ErrShort", "bakehouse/api.ErrSmall", "bakehouse/api.ErrGone", "bakehouse/api.ErrTurn", "errors.errorType"], plainKeys := false, apart := false, laid := [("errors.errorType", laid_errors_errorType), ("bakehouse/api.ErrText", laid_bakehouse_api_ErrText), ("bakehouse/api.ErrBound", laid_bakehouse_api_ErrBound), ("bakehouse/api.ErrShape", laid_bakehouse_api_ErrShape), ("bakehouse/api.ErrNone", laid_bakehouse_api_ErrNone), ("bakehouse/api.ErrExist", laid_bakehouse_api_ErrExist), ("bakehouse/api.ErrShort", laid_bakehouse_api_ErrShort), ("bakehouse/api.ErrSmall", laid_bakehouse_api_ErrSmall), ("bakehouse/api.ErrGone", laid_bakehouse_api_ErrGone), ("bakehouse/api.ErrTurn", laid_bakehouse_api_ErrTurn), ("bakehouse/api.ErrOld", laid_bakehouse_api_ErrOld)] }
def CourtCasesSaid : Prop := courtCasesRow.holds Tryd.pinned (OpenSpec.ofChange courtCasesSpec)

/-- ITS FALSE NEIGHBOUR: 'it returns false'. Refute it at one input. -/
def courtCasesWrong : ChangeSpec := { name := "courtCases", fn := fun _ => fun
  | [d1, d2] => { results := [.lit (.bool false)], args := [d1, d2] }
  | _ => none }
def CourtCasesWrongFalsely : Prop := courtCasesRow.holds Tryd.pinned (OpenSpec.ofChange courtCasesWrong)

/-- 'bakehouselaw2.CourtOnce': WHATEVER THE INPUT: true; the input reads as it did. -/
def courtOnceSpec : ChangeSpec := { name := "courtOnce", fn := fun _ => fun
  | [d] => { results := [.lit (.bool true)], args := [d] }
  | _ => none }
def courtOnceRow : OpenClaim := { program := "ytlhffdmhbplpjabdoor", sum := "775cd120122049b0d95e634a5cfa589b4858774201faf5c84c1de6bccb8faf69", func := "bakehouse/bakehouselaw2.CourtOnce", spec := "courtOnce", inPlace := ["internal/reflectlite.ValueOf", "(internal/reflectlite.Value).Type", "(internal/reflectlite.Value).IsNil", "internal/reflectlite.TypeOf", "(internal/reflectlite.Value).Elem", "(internal/reflectlite.Value).Set"], unfollowed := true, recurses := true, named := ["bakehouse/api.ErrBound", "bakehouse/api.ErrOld", "bakehouse/api.ErrExist", "bakehouse/api.ErrText", "bakehouse/api.ErrShape", "bakehouse/api.ErrNone", "bakehouse/api.ErrShort", "bakehouse/api.ErrSmall", "bakehouse/api.ErrGone", "bakehouse/api.ErrTurn", "errors.errorType"], plainKeys := false, apart := false, laid := [("errors.errorType", laid_errors_errorType), ("bakehouse/api.ErrText", laid_bakehouse_api_ErrText), ("bakehouse/api.ErrBound", laid_bakehouse_api_ErrBound), ("bakehouse/api.ErrShape", laid_bakehouse_api_ErrShape), ("bakehouse/api.ErrNone", laid_bakehouse_api_ErrNone), ("bakehouse/api.ErrExist", laid_bakehouse_api_ErrExist), ("bakehouse/api.ErrShort", laid_bakehouse_api_ErrShort), ("bakehouse/api.ErrSmall", laid_bakehouse_api_ErrSmall), ("bakehouse/api.ErrGone", laid_bakehouse_api_ErrGone), ("bakehouse/api.ErrTurn", laid_bakehouse_api_ErrTurn), ("bakehouse/api.ErrOld", laid_bakehouse_api_ErrOld)] }
def CourtOnceSaid : Prop := courtOnceRow.holds Tryd.pinned (OpenSpec.ofChange courtOnceSpec)

/-- ITS FALSE NEIGHBOUR: 'it returns false'. Refute it at one input. -/
def courtOnceWrong : ChangeSpec := { name := "courtOnce", fn := fun _ => fun
  | [d] => { results := [.lit (.bool false)], args := [d] }
  | _ => none }
def CourtOnceWrongFalsely : Prop := courtOnceRow.holds Tryd.pinned (OpenSpec.ofChange courtOnceWrong)

/- THE SECOND FORM. 'bulk': how many values and letters a reading holds, each counted each time it is reached (what is shared counts as often as it is met; a slice's spare places count too). A statement '..UptoSaid' is the law's where the arguments, and the package variables that the reading takes, are together of bulk at most 1048576: NARROWER than '..Said'. Prove '..Said' where nothing that the law and all that it calls make is longer than what came in: it says more and counts as full. Else prove '..UptoSaid'. A law counts once. -/
mutual
def uptoBulk {H : Type} : DataW H → Nat
  | .lit (.string bytes) => bytes.length + 1
  | .lit _ => 1
  | .nil => 1
  | .ptr d => uptoBulk d + 1
  | .slice elems spare => uptoBulkAll elems + uptoBulkAll spare + 1
  | .agg parts => uptoBulkAll parts + 1
  | .iface _ d => uptoBulk d + 1
  | .map entries => uptoBulkEntries entries + 1
  | .held _ => 1
def uptoBulkAll {H : Type} : List (DataW H) → Nat
  | [] => 0
  | d :: r => uptoBulk d + uptoBulkAll r
def uptoBulkEntries {H : Type} : List (Lit × DataW H) → Nat
  | [] => 0
  | x :: r => uptoBulkEntry x + uptoBulkEntries r
def uptoBulkEntry {H : Type} : Lit × DataW H → Nat
  | (.string bytes, d) => bytes.length + uptoBulk d + 1
  | (_, d) => uptoBulk d + 1
 end
def uptoSmall : (H : Type) → List (DataW H) → Bool := fun _ ds => decide (uptoBulkAll ds ≤ 1048576)
def OpenSpec.upto (s : _root_.Go.ChangeSpec) : _root_.Go.OpenSpec := { _root_.Go.OpenSpec.ofChange s with cond := some uptoSmall }

/-- 'bakehouselaw1.PurseSums', WHERE WHAT IT READS IS OF BULK AT MOST 1048576: true; the input reads as it did. -/
def purseSumsUptoRow : OpenClaim := { program := "ytlhffdmhbplpjabdoor", sum := "775cd120122049b0d95e634a5cfa589b4858774201faf5c84c1de6bccb8faf69", func := "bakehouse/bakehouselaw1.PurseSums", spec := "purseSums", named := ["bakehouse/api.ErrBound", "bakehouse/api.ErrShort"], plainKeys := false, apart := false, laid := [("bakehouse/api.ErrBound", laid_bakehouse_api_ErrBound), ("bakehouse/api.ErrShort", laid_bakehouse_api_ErrShort)], narrowed := true }
def PurseSumsUptoSaid : Prop := purseSumsUptoRow.holds Tryd.pinned (OpenSpec.upto purseSumsSpec)

/-- 'bakehouselaw1.PurseActs', WHERE WHAT IT READS IS OF BULK AT MOST 1048576: true; the input reads as it did. -/
def purseActsUptoRow : OpenClaim := { program := "ytlhffdmhbplpjabdoor", sum := "775cd120122049b0d95e634a5cfa589b4858774201faf5c84c1de6bccb8faf69", func := "bakehouse/bakehouselaw1.PurseActs", spec := "purseActs", inPlace := ["internal/reflectlite.ValueOf", "(internal/reflectlite.Value).Type", "(internal/reflectlite.Value).IsNil", "internal/reflectlite.TypeOf", "(internal/reflectlite.Value).Elem", "(internal/reflectlite.Value).Set"], unfollowed := true, recurses := true, named := ["bakehouse/api.ErrBound", "bakehouse/api.ErrShort", "bakehouse/api.ErrText", "bakehouse/api.ErrShape", "bakehouse/api.ErrNone", "bakehouse/api.ErrExist", "bakehouse/api.ErrSmall", "bakehouse/api.ErrGone", "bakehouse/api.ErrTurn", "bakehouse/api.ErrOld", "errors.errorType"], plainKeys := false, apart := false, laid := [("errors.errorType", laid_errors_errorType), ("bakehouse/api.ErrText", laid_bakehouse_api_ErrText), ("bakehouse/api.ErrBound", laid_bakehouse_api_ErrBound), ("bakehouse/api.ErrShape", laid_bakehouse_api_ErrShape), ("bakehouse/api.ErrNone", laid_bakehouse_api_ErrNone), ("bakehouse/api.ErrExist", laid_bakehouse_api_ErrExist), ("bakehouse/api.ErrShort", laid_bakehouse_api_ErrShort), ("bakehouse/api.ErrSmall", laid_bakehouse_api_ErrSmall), ("bakehouse/api.ErrGone", laid_bakehouse_api_ErrGone), ("bakehouse/api.ErrTurn", laid_bakehouse_api_ErrTurn), ("bakehouse/api.ErrOld", laid_bakehouse_api_ErrOld)], narrowed := true }
def PurseActsUptoSaid : Prop := purseActsUptoRow.holds Tryd.pinned (OpenSpec.upto purseActsSpec)

/-- 'bakehouselaw2.StakeSums', WHERE WHAT IT READS IS OF BULK AT MOST 1048576: true; the input reads as it did. -/
def stakeSumsUptoRow : OpenClaim := { program := "ytlhffdmhbplpjabdoor", sum := "775cd120122049b0d95e634a5cfa589b4858774201faf5c84c1de6bccb8faf69", func := "bakehouse/bakehouselaw2.StakeSums", spec := "stakeSums", inPlace := ["maps.clone"], named := ["bakehouse/api.ErrBound", "bakehouse/api.ErrExist", "bakehouse/api.ErrNone", "bakehouse/api.ErrGone", "bakehouse/api.ErrSmall", "math/bits.divideError", "math/bits.overflowError", "bakehouse/api.ErrShort"], plainKeys := false, apart := false, laid := [("bakehouse/api.ErrBound", laid_bakehouse_api_ErrBound), ("bakehouse/api.ErrNone", laid_bakehouse_api_ErrNone), ("bakehouse/api.ErrExist", laid_bakehouse_api_ErrExist), ("bakehouse/api.ErrShort", laid_bakehouse_api_ErrShort), ("bakehouse/api.ErrSmall", laid_bakehouse_api_ErrSmall), ("bakehouse/api.ErrGone", laid_bakehouse_api_ErrGone)], narrowed := true }
def StakeSumsUptoSaid : Prop := stakeSumsUptoRow.holds Tryd.pinned (OpenSpec.upto stakeSumsSpec)

/-- 'bakehouselaw2.StakeWaits', WHERE WHAT IT READS IS OF BULK AT MOST 1048576: true; the input reads as it did. -/
def stakeWaitsUptoRow : OpenClaim := { program := "ytlhffdmhbplpjabdoor", sum := "775cd120122049b0d95e634a5cfa589b4858774201faf5c84c1de6bccb8faf69", func := "bakehouse/bakehouselaw2.StakeWaits", spec := "stakeWaits", inPlace := ["maps.clone", "internal/reflectlite.ValueOf", "(internal/reflectlite.Value).Type", "(internal/reflectlite.Value).IsNil", "internal/reflectlite.TypeOf", "(internal/reflectlite.Value).Elem", "(internal/reflectlite.Value).Set"], unfollowed := true, recurses := true, named := ["bakehouse/api.ErrBound", "bakehouse/api.ErrExist", "bakehouse/api.ErrNone", "bakehouse/api.ErrGone", "bakehouse/api.ErrSmall", "math/bits.divideError", "math/bits.overflowError", "bakehouse/api.ErrShort", "bakehouse/api.ErrText", "bakehouse/api.ErrShape", "bakehouse/api.ErrTurn", "bakehouse/api.ErrOld", "errors.errorType"], plainKeys := false, apart := false, laid := [("errors.errorType", laid_errors_errorType), ("bakehouse/api.ErrText", laid_bakehouse_api_ErrText), ("bakehouse/api.ErrBound", laid_bakehouse_api_ErrBound), ("bakehouse/api.ErrShape", laid_bakehouse_api_ErrShape), ("bakehouse/api.ErrNone", laid_bakehouse_api_ErrNone), ("bakehouse/api.ErrExist", laid_bakehouse_api_ErrExist), ("bakehouse/api.ErrShort", laid_bakehouse_api_ErrShort), ("bakehouse/api.ErrSmall", laid_bakehouse_api_ErrSmall), ("bakehouse/api.ErrGone", laid_bakehouse_api_ErrGone), ("bakehouse/api.ErrTurn", laid_bakehouse_api_ErrTurn), ("bakehouse/api.ErrOld", laid_bakehouse_api_ErrOld)], narrowed := true }
def StakeWaitsUptoSaid : Prop := stakeWaitsUptoRow.holds Tryd.pinned (OpenSpec.upto stakeWaitsSpec)

/-- 'bakehouselaw2.RightBakers', WHERE WHAT IT READS IS OF BULK AT MOST 1048576: true; the input reads as it did. -/
def rightBakersUptoRow : OpenClaim := { program := "ytlhffdmhbplpjabdoor", sum := "775cd120122049b0d95e634a5cfa589b4858774201faf5c84c1de6bccb8faf69", func := "bakehouse/bakehouselaw2.RightBakers", spec := "rightBakers", inPlace := ["internal/reflectlite.ValueOf", "(internal/reflectlite.Value).Type", "(internal/reflectlite.Value).IsNil", "internal/reflectlite.TypeOf", "(internal/reflectlite.Value).Elem", "(internal/reflectlite.Value).Set"], unfollowed := true, recurses := true, named := ["bakehouse/api.ErrBound", "bakehouse/api.ErrShape", "bakehouse/api.ErrNone", "bakehouse/api.ErrText", "bakehouse/api.ErrExist", "bakehouse/api.ErrShort", "bakehouse/api.ErrSmall", "bakehouse/api.ErrGone", "bakehouse/api.ErrTurn", "bakehouse/api.ErrOld", "errors.errorType"], plainKeys := false, apart := false, laid := [("errors.errorType", laid_errors_errorType), ("bakehouse/api.ErrText", laid_bakehouse_api_ErrText), ("bakehouse/api.ErrBound", laid_bakehouse_api_ErrBound), ("bakehouse/api.ErrShape", laid_bakehouse_api_ErrShape), ("bakehouse/api.ErrNone", laid_bakehouse_api_ErrNone), ("bakehouse/api.ErrExist", laid_bakehouse_api_ErrExist), ("bakehouse/api.ErrShort", laid_bakehouse_api_ErrShort), ("bakehouse/api.ErrSmall", laid_bakehouse_api_ErrSmall), ("bakehouse/api.ErrGone", laid_bakehouse_api_ErrGone), ("bakehouse/api.ErrTurn", laid_bakehouse_api_ErrTurn), ("bakehouse/api.ErrOld", laid_bakehouse_api_ErrOld)], narrowed := true }
def RightBakersUptoSaid : Prop := rightBakersUptoRow.holds Tryd.pinned (OpenSpec.upto rightBakersSpec)

/-- 'bakehouselaw2.RightOnly', WHERE WHAT IT READS IS OF BULK AT MOST 1048576: true; the input reads as it did. -/
def rightOnlyUptoRow : OpenClaim := { program := "ytlhffdmhbplpjabdoor", sum := "775cd120122049b0d95e634a5cfa589b4858774201faf5c84c1de6bccb8faf69", func := "bakehouse/bakehouselaw2.RightOnly", spec := "rightOnly", unfollowed := true, recurses := true, named := ["bakehouse/api.ErrBound", "bakehouse/api.ErrShape", "bakehouse/api.ErrNone"], plainKeys := false, apart := false, laid := [("bakehouse/api.ErrBound", laid_bakehouse_api_ErrBound), ("bakehouse/api.ErrShape", laid_bakehouse_api_ErrShape), ("bakehouse/api.ErrNone", laid_bakehouse_api_ErrNone)], narrowed := true }
def RightOnlyUptoSaid : Prop := rightOnlyUptoRow.holds Tryd.pinned (OpenSpec.upto rightOnlySpec)

/-- 'bakehouselaw2.IssueRates', WHERE WHAT IT READS IS OF BULK AT MOST 1048576: true; the input reads as it did. -/
def issueRatesUptoRow : OpenClaim := { program := "ytlhffdmhbplpjabdoor", sum := "775cd120122049b0d95e634a5cfa589b4858774201faf5c84c1de6bccb8faf69", func := "bakehouse/bakehouselaw2.IssueRates", spec := "issueRates", inPlace := ["internal/reflectlite.ValueOf", "(internal/reflectlite.Value).Type", "(internal/reflectlite.Value).IsNil", "internal/reflectlite.TypeOf", "(internal/reflectlite.Value).Elem", "(internal/reflectlite.Value).Set"], unfollowed := true, recurses := true, named := ["bakehouse/api.ErrBound", "math/bits.divideError", "math/bits.overflowError", "bakehouse/api.ErrShape", "bakehouse/api.ErrText", "bakehouse/api.ErrNone", "bakehouse/api.ErrExist", "bakehouse/api.ErrShort", "bakehouse/api.ErrSmall", "bakehouse/api.ErrGone", "bakehouse/api.ErrTurn", "bakehouse/api.ErrOld", "errors.errorType"], plainKeys := false, apart := false, laid := [("errors.errorType", laid_errors_errorType), ("bakehouse/api.ErrText", laid_bakehouse_api_ErrText), ("bakehouse/api.ErrBound", laid_bakehouse_api_ErrBound), ("bakehouse/api.ErrShape", laid_bakehouse_api_ErrShape), ("bakehouse/api.ErrNone", laid_bakehouse_api_ErrNone), ("bakehouse/api.ErrExist", laid_bakehouse_api_ErrExist), ("bakehouse/api.ErrShort", laid_bakehouse_api_ErrShort), ("bakehouse/api.ErrSmall", laid_bakehouse_api_ErrSmall), ("bakehouse/api.ErrGone", laid_bakehouse_api_ErrGone), ("bakehouse/api.ErrTurn", laid_bakehouse_api_ErrTurn), ("bakehouse/api.ErrOld", laid_bakehouse_api_ErrOld)], narrowed := true }
def IssueRatesUptoSaid : Prop := issueRatesUptoRow.holds Tryd.pinned (OpenSpec.upto issueRatesSpec)

/-- 'bakehouselaw2.IssueFalls', WHERE WHAT IT READS IS OF BULK AT MOST 1048576: true; the input reads as it did. -/
def issueFallsUptoRow : OpenClaim := { program := "ytlhffdmhbplpjabdoor", sum := "775cd120122049b0d95e634a5cfa589b4858774201faf5c84c1de6bccb8faf69", func := "bakehouse/bakehouselaw2.IssueFalls", spec := "issueFalls", named := ["bakehouse/api.ErrBound", "math/bits.divideError", "math/bits.overflowError", "bakehouse/api.ErrShape"], plainKeys := false, apart := false, laid := [("bakehouse/api.ErrBound", laid_bakehouse_api_ErrBound), ("bakehouse/api.ErrShape", laid_bakehouse_api_ErrShape)], narrowed := true }
def IssueFallsUptoSaid : Prop := issueFallsUptoRow.holds Tryd.pinned (OpenSpec.upto issueFallsSpec)

/-- 'bakehouselaw2.CourtCases', WHERE WHAT IT READS IS OF BULK AT MOST 1048576: true; the input reads as it did. -/
def courtCasesUptoRow : OpenClaim := { program := "ytlhffdmhbplpjabdoor", sum := "775cd120122049b0d95e634a5cfa589b4858774201faf5c84c1de6bccb8faf69", func := "bakehouse/bakehouselaw2.CourtCases", spec := "courtCases", inPlace := ["internal/reflectlite.ValueOf", "(internal/reflectlite.Value).Type", "(internal/reflectlite.Value).IsNil", "internal/reflectlite.TypeOf", "(internal/reflectlite.Value).Elem", "(internal/reflectlite.Value).Set"], unfollowed := true, recurses := true, named := ["bakehouse/api.ErrBound", "bakehouse/api.ErrOld", "bakehouse/api.ErrExist", "bakehouse/api.ErrText", "bakehouse/api.ErrShape", "bakehouse/api.ErrNone", "bakehouse/api.ErrShort", "bakehouse/api.ErrSmall", "bakehouse/api.ErrGone", "bakehouse/api.ErrTurn", "errors.errorType"], plainKeys := false, apart := false, laid := [("errors.errorType", laid_errors_errorType), ("bakehouse/api.ErrText", laid_bakehouse_api_ErrText), ("bakehouse/api.ErrBound", laid_bakehouse_api_ErrBound), ("bakehouse/api.ErrShape", laid_bakehouse_api_ErrShape), ("bakehouse/api.ErrNone", laid_bakehouse_api_ErrNone), ("bakehouse/api.ErrExist", laid_bakehouse_api_ErrExist), ("bakehouse/api.ErrShort", laid_bakehouse_api_ErrShort), ("bakehouse/api.ErrSmall", laid_bakehouse_api_ErrSmall), ("bakehouse/api.ErrGone", laid_bakehouse_api_ErrGone), ("bakehouse/api.ErrTurn", laid_bakehouse_api_ErrTurn), ("bakehouse/api.ErrOld", laid_bakehouse_api_ErrOld)], narrowed := true }
def CourtCasesUptoSaid : Prop := courtCasesUptoRow.holds Tryd.pinned (OpenSpec.upto courtCasesSpec)

/-- 'bakehouselaw2.CourtOnce', WHERE WHAT IT READS IS OF BULK AT MOST 1048576: true; the input reads as it did. -/
def courtOnceUptoRow : OpenClaim := { program := "ytlhffdmhbplpjabdoor", sum := "775cd120122049b0d95e634a5cfa589b4858774201faf5c84c1de6bccb8faf69", func := "bakehouse/bakehouselaw2.CourtOnce", spec := "courtOnce", inPlace := ["internal/reflectlite.ValueOf", "(internal/reflectlite.Value).Type", "(internal/reflectlite.Value).IsNil", "internal/reflectlite.TypeOf", "(internal/reflectlite.Value).Elem", "(internal/reflectlite.Value).Set"], unfollowed := true, recurses := true, named := ["bakehouse/api.ErrBound", "bakehouse/api.ErrOld", "bakehouse/api.ErrExist", "bakehouse/api.ErrText", "bakehouse/api.ErrShape", "bakehouse/api.ErrNone", "bakehouse/api.ErrShort", "bakehouse/api.ErrSmall", "bakehouse/api.ErrGone", "bakehouse/api.ErrTurn", "errors.errorType"], plainKeys := false, apart := false, laid := [("errors.errorType", laid_errors_errorType), ("bakehouse/api.ErrText", laid_bakehouse_api_ErrText), ("bakehouse/api.ErrBound", laid_bakehouse_api_ErrBound), ("bakehouse/api.ErrShape", laid_bakehouse_api_ErrShape), ("bakehouse/api.ErrNone", laid_bakehouse_api_ErrNone), ("bakehouse/api.ErrExist", laid_bakehouse_api_ErrExist), ("bakehouse/api.ErrShort", laid_bakehouse_api_ErrShort), ("bakehouse/api.ErrSmall", laid_bakehouse_api_ErrSmall), ("bakehouse/api.ErrGone", laid_bakehouse_api_ErrGone), ("bakehouse/api.ErrTurn", laid_bakehouse_api_ErrTurn), ("bakehouse/api.ErrOld", laid_bakehouse_api_ErrOld)], narrowed := true }
def CourtOnceUptoSaid : Prop := courtOnceUptoRow.holds Tryd.pinned (OpenSpec.upto courtOnceSpec)

end Rows
end Go.Proofs.YtlhffdmhbplpjabDoor
