/-
  DERIVED. GIVEN WITH THE SEED: THE CARDS: each row of YtaihcceobnfmhaaDoorRows.lean that lists a variable, with what it lists TIED to the program's text (the seventh form; the later family's looks); each row that meets fmt, with fmt's text TOLD by the authors' own Lean function (tested against real Go, not proved from fmt's source: count such statements apart). THE CARD IS WHAT COUNTS. Prove the row's statement (the work); the ties are given (YtaihcceobnfmhaaDoorTie.lean); close each card by the builder's one call (the guide's Derived/Test/ToyasCard.lean, 'card_holds'). Laid BY PROGRAM, IN A SANDBOX (cutbox-door.mjs). By AI agents, Wed Nov 11 2026. No macro, syntax, notation, axiom, sorry.
-/
import Derived.Test.YtaihcceobnfmhaaDoorRows
import GoSem.ClaimSeven
namespace Go.Proofs.YtaihcceobnfmhaaDoor
namespace Rows

/-- THE TIED CARD OF 'bakehouselaw3.ChainLater'. -/
def chainLaterCard : Claim7 := { stood := { row := chainLaterRow, standIns := [], harness := (true, "832f6ca386498e8bedee18bb681d920d876a9ee76b01cf1ef57c381ad29d10a3"), looks := false }, kinds := [], alts := [], laidByText := true, laidKinds := [.sentinel, .sentinel, .sentinel, .sentinel, .sentinel, .sentinel, .sentinel, .sentinel], laidTests := true, laidLooks := .later }
def ChainLaterCardSaid : Prop := Claim7.holds Tryd.pinned (.plain (OpenSpec.ofChange chainLaterSpec)) chainLaterCard

/-- THE SECOND FORM's CARD OF 'bakehouselaw3.ChainLater'. -/
def chainLaterUptoCard : Claim7 := { stood := { row := chainLaterUptoRow, standIns := [], harness := (true, "832f6ca386498e8bedee18bb681d920d876a9ee76b01cf1ef57c381ad29d10a3"), looks := false }, kinds := [], alts := [], laidByText := true, laidKinds := [.sentinel, .sentinel, .sentinel, .sentinel, .sentinel, .sentinel, .sentinel, .sentinel], laidTests := true, laidLooks := .later }
def ChainLaterUptoCardSaid : Prop := Claim7.holds Tryd.pinned (.plain (OpenSpec.upto chainLaterSpec)) chainLaterUptoCard
end Rows
end Go.Proofs.YtaihcceobnfmhaaDoor
