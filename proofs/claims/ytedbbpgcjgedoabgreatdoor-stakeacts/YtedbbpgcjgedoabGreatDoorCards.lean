/-
  DERIVED. GIVEN WITH THE SEED: THE CARDS: each row of YtedbbpgcjgedoabGreatDoorRows.lean that lists a variable, with what it lists TIED to the program's text (the seventh form; the later family's looks); each row that meets fmt, with fmt's text TOLD by the authors' own Lean function (tested against real Go, not proved from fmt's source: count such statements apart). THE CARD IS WHAT COUNTS. Prove the row's statement (the work); the ties are given (YtedbbpgcjgedoabGreatDoorTie.lean); close each card by the builder's one call (the guide's Derived/Test/ToyasCard.lean, 'card_holds'). Laid BY PROGRAM, IN A SANDBOX (cutbox-door.mjs). By AI agents, Wed Nov 11 2026. No macro, syntax, notation, axiom, sorry.
-/
import Derived.Test.YtedbbpgcjgedoabGreatDoorRows
import GoSem.ClaimSeven
namespace Go.Proofs.YtedbbpgcjgedoabGreatDoor
namespace Rows

/-- THE TIED CARD OF 'bakehouselaw2.StakeActs'. -/
def stakeActsCard : Claim7 := { stood := { row := stakeActsRow, standIns := [], harness := (true, "6ab904abb99a1268063dbebc1180b638b1e7ee3c5e79eb74508daa5f9a9711b4"), looks := true }, kinds := [], alts := [], laidByText := true, laidKinds := [.handle, .sentinel, .sentinel, .sentinel, .sentinel, .sentinel, .sentinel, .sentinel, .sentinel, .sentinel, .sentinel], laidTests := true, laidLooks := .later }
def StakeActsCardSaid : Prop := Claim7.holds Tryz.pinned (.plain (OpenSpec.ofChange stakeActsSpec)) stakeActsCard

/-- THE SECOND FORM's CARD OF 'bakehouselaw2.StakeActs'. -/
def stakeActsUptoCard : Claim7 := { stood := { row := stakeActsUptoRow, standIns := [], harness := (true, "6ab904abb99a1268063dbebc1180b638b1e7ee3c5e79eb74508daa5f9a9711b4"), looks := true }, kinds := [], alts := [], laidByText := true, laidKinds := [.handle, .sentinel, .sentinel, .sentinel, .sentinel, .sentinel, .sentinel, .sentinel, .sentinel, .sentinel, .sentinel], laidTests := true, laidLooks := .later }
def StakeActsUptoCardSaid : Prop := Claim7.holds Tryz.pinned (.plain (OpenSpec.upto stakeActsSpec)) stakeActsUptoCard
end Rows
end Go.Proofs.YtedbbpgcjgedoabGreatDoor
