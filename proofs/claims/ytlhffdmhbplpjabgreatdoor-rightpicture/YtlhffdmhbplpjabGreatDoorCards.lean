/-
  DERIVED. GIVEN WITH THE SEED: THE CARDS: each row of YtlhffdmhbplpjabGreatDoorRows.lean that lists a variable, with what it lists TIED to the program's text (the seventh form; the later family's looks); each row that meets fmt, with fmt's text TOLD by the authors' own Lean function (tested against real Go, not proved from fmt's source: count such statements apart). THE CARD IS WHAT COUNTS. Prove the row's statement (the work); the ties are given (YtlhffdmhbplpjabGreatDoorTie.lean); close each card by the builder's one call (the guide's Derived/Test/ToyasCard.lean, 'card_holds'). Laid BY PROGRAM, IN A SANDBOX (cutbox-door.mjs). By AI agents, Wed Nov 11 2026. No macro, syntax, notation, axiom, sorry.
-/
import Derived.Test.YtlhffdmhbplpjabGreatDoorRows
import GoSem.ClaimSeven
namespace Go.Proofs.YtlhffdmhbplpjabGreatDoor
namespace Rows

/-- THE TIED CARD OF 'bakehouselaw2.StakeActs'. -/
def stakeActsCard : Claim7 := { stood := { row := stakeActsRow, standIns := [], harness := (true, "517f735e091e5370bdc6015cea85732df74cd5cc34604bbf888943e97c1ca4f3"), looks := true }, kinds := [], alts := [], laidByText := true, laidKinds := [.handle, .sentinel, .sentinel, .sentinel, .sentinel, .sentinel, .sentinel, .sentinel, .sentinel, .sentinel, .sentinel], laidTests := true, laidLooks := .later }
def StakeActsCardSaid : Prop := Claim7.holds Tryz.pinned (.plain (OpenSpec.ofChange stakeActsSpec)) stakeActsCard

/-- THE TIED CARD OF 'bakehouselaw2.RightPicture'. -/
def rightPictureCard : Claim7 := { stood := { row := rightPictureRow, standIns := [], harness := (true, "517f735e091e5370bdc6015cea85732df74cd5cc34604bbf888943e97c1ca4f3"), looks := true }, kinds := [], alts := [], laidByText := true, laidKinds := [.handle, .sentinel, .sentinel, .sentinel, .sentinel, .sentinel, .sentinel, .sentinel, .sentinel, .sentinel, .sentinel], laidTests := true, laidLooks := .later }
def RightPictureCardSaid : Prop := Claim7.holds Tryz.pinned (.plain (OpenSpec.ofChange rightPictureSpec)) rightPictureCard

/-- THE SECOND FORM's CARD OF 'bakehouselaw2.StakeActs'. -/
def stakeActsUptoCard : Claim7 := { stood := { row := stakeActsUptoRow, standIns := [], harness := (true, "517f735e091e5370bdc6015cea85732df74cd5cc34604bbf888943e97c1ca4f3"), looks := true }, kinds := [], alts := [], laidByText := true, laidKinds := [.handle, .sentinel, .sentinel, .sentinel, .sentinel, .sentinel, .sentinel, .sentinel, .sentinel, .sentinel, .sentinel], laidTests := true, laidLooks := .later }
def StakeActsUptoCardSaid : Prop := Claim7.holds Tryz.pinned (.plain (OpenSpec.upto stakeActsSpec)) stakeActsUptoCard

/-- THE SECOND FORM's CARD OF 'bakehouselaw2.RightPicture'. -/
def rightPictureUptoCard : Claim7 := { stood := { row := rightPictureUptoRow, standIns := [], harness := (true, "517f735e091e5370bdc6015cea85732df74cd5cc34604bbf888943e97c1ca4f3"), looks := true }, kinds := [], alts := [], laidByText := true, laidKinds := [.handle, .sentinel, .sentinel, .sentinel, .sentinel, .sentinel, .sentinel, .sentinel, .sentinel, .sentinel, .sentinel], laidTests := true, laidLooks := .later }
def RightPictureUptoCardSaid : Prop := Claim7.holds Tryz.pinned (.plain (OpenSpec.upto rightPictureSpec)) rightPictureUptoCard
end Rows
end Go.Proofs.YtlhffdmhbplpjabGreatDoor
