/-
  DERIVED. GIVEN WITH THE SEED: THE CARDS: each row of YthfcpffdglabhabDoorRows.lean that lists a variable, with what it lists TIED to the program's text (the seventh form; the later family's looks); each row that meets fmt, with fmt's text TOLD by the authors' own Lean function (tested against real Go, not proved from fmt's source: count such statements apart). THE CARD IS WHAT COUNTS. Prove the row's statement (the work); the ties are given (YthfcpffdglabhabDoorTie.lean); close each card by the builder's one call (the guide's Derived/Test/ToyasCard.lean, 'card_holds'). Laid BY PROGRAM, IN A SANDBOX (cutbox-door.mjs). By AI agents, Wed Nov 11 2026. No macro, syntax, notation, axiom, sorry.
-/
import Derived.Test.YthfcpffdglabhabDoorRows
import GoSem.ClaimSeven
namespace Go.Proofs.YthfcpffdglabhabDoor
namespace Rows

/-- THE TIED CARD OF 'bakehouselaw1.PurseSums'. -/
def purseSumsCard : Claim7 := { stood := { row := purseSumsRow, standIns := [], harness := (true, "d3bcaf228aab1193ea17ef0e09f8b871b068e5eab9a6b4763f1bfd1a0530da94"), looks := true }, kinds := [], alts := [], laidByText := true, laidKinds := [.sentinel, .sentinel], laidTests := true, laidLooks := .later }
def PurseSumsCardSaid : Prop := Claim7.holds Tryd.pinned (.plain (OpenSpec.ofChange purseSumsSpec)) purseSumsCard

/-- THE TIED CARD OF 'bakehouselaw1.PurseActs'. -/
def purseActsCard : Claim7 := { stood := { row := purseActsRow, standIns := [], harness := (true, "d3bcaf228aab1193ea17ef0e09f8b871b068e5eab9a6b4763f1bfd1a0530da94"), looks := true }, kinds := [], alts := [], laidByText := true, laidKinds := [.handle, .sentinel, .sentinel, .sentinel, .sentinel, .sentinel, .sentinel, .sentinel, .sentinel, .sentinel, .sentinel], laidTests := true, laidLooks := .later }
def PurseActsCardSaid : Prop := Claim7.holds Tryd.pinned (.plain (OpenSpec.ofChange purseActsSpec)) purseActsCard

/-- THE SECOND FORM's CARD OF 'bakehouselaw1.PurseSums'. -/
def purseSumsUptoCard : Claim7 := { stood := { row := purseSumsUptoRow, standIns := [], harness := (true, "d3bcaf228aab1193ea17ef0e09f8b871b068e5eab9a6b4763f1bfd1a0530da94"), looks := true }, kinds := [], alts := [], laidByText := true, laidKinds := [.sentinel, .sentinel], laidTests := true, laidLooks := .later }
def PurseSumsUptoCardSaid : Prop := Claim7.holds Tryd.pinned (.plain (OpenSpec.upto purseSumsSpec)) purseSumsUptoCard

/-- THE SECOND FORM's CARD OF 'bakehouselaw1.PurseActs'. -/
def purseActsUptoCard : Claim7 := { stood := { row := purseActsUptoRow, standIns := [], harness := (true, "d3bcaf228aab1193ea17ef0e09f8b871b068e5eab9a6b4763f1bfd1a0530da94"), looks := true }, kinds := [], alts := [], laidByText := true, laidKinds := [.handle, .sentinel, .sentinel, .sentinel, .sentinel, .sentinel, .sentinel, .sentinel, .sentinel, .sentinel, .sentinel], laidTests := true, laidLooks := .later }
def PurseActsUptoCardSaid : Prop := Claim7.holds Tryd.pinned (.plain (OpenSpec.upto purseActsSpec)) purseActsUptoCard
end Rows
end Go.Proofs.YthfcpffdglabhabDoor
