/-
  DERIVED. GIVEN WITH THE SEED: THE CARDS: each row of YtamjnkjgdaojiaaDoorRows.lean that lists a variable, with what it lists TIED to the program's text (the seventh form; the later family's looks); each row that meets fmt, with fmt's text TOLD by the authors' own Lean function (tested against real Go, not proved from fmt's source: count such statements apart). THE CARD IS WHAT COUNTS. Prove the row's statement (the work); the ties are given (YtamjnkjgdaojiaaDoorTie.lean); close each card by the builder's one call (the guide's Derived/Test/ToyasCard.lean, 'card_holds'). Laid BY PROGRAM, IN A SANDBOX (cutbox-door.mjs). By AI agents, Wed Nov 11 2026. No macro, syntax, notation, axiom, sorry.
-/
import Derived.Test.YtamjnkjgdaojiaaDoorRows
import GoSem.ClaimSeven
namespace Go.Proofs.YtamjnkjgdaojiaaDoor
namespace Rows

/-- THE TIED CARD OF 'bakehouselaw1.PurseSums'. -/
def purseSumsCard : Claim7 := { stood := { row := purseSumsRow, standIns := [], harness := (true, "e5fe00c9ccd91a7ad5b5f56909ad3c9f3f867dde76dc12505d123ff4f11f7f43"), looks := true }, kinds := [], alts := [], laidByText := true, laidKinds := [.sentinel, .sentinel], laidTests := true, laidLooks := .later }
def PurseSumsCardSaid : Prop := Claim7.holds Tryd.pinned (.plain (OpenSpec.ofChange purseSumsSpec)) purseSumsCard

/-- THE TIED CARD OF 'bakehouselaw1.PurseActs'. -/
def purseActsCard : Claim7 := { stood := { row := purseActsRow, standIns := [], harness := (true, "e5fe00c9ccd91a7ad5b5f56909ad3c9f3f867dde76dc12505d123ff4f11f7f43"), looks := true }, kinds := [], alts := [], laidByText := true, laidKinds := [.handle, .sentinel, .sentinel, .sentinel, .sentinel, .sentinel, .sentinel, .sentinel, .sentinel, .sentinel, .sentinel], laidTests := true, laidLooks := .later }
def PurseActsCardSaid : Prop := Claim7.holds Tryd.pinned (.plain (OpenSpec.ofChange purseActsSpec)) purseActsCard

/-- THE TIED CARD OF 'bakehouselaw2.CourtCases'. -/
def courtCasesCard : Claim7 := { stood := { row := courtCasesRow, standIns := [], harness := (true, "e5fe00c9ccd91a7ad5b5f56909ad3c9f3f867dde76dc12505d123ff4f11f7f43"), looks := true }, kinds := [], alts := [], laidByText := true, laidKinds := [.handle, .sentinel, .sentinel, .sentinel, .sentinel, .sentinel, .sentinel, .sentinel, .sentinel, .sentinel, .sentinel], laidTests := true, laidLooks := .later }
def CourtCasesCardSaid : Prop := Claim7.holds Tryd.pinned (.plain (OpenSpec.ofChange courtCasesSpec)) courtCasesCard

/-- THE TIED CARD OF 'bakehouselaw2.CourtOnce'. -/
def courtOnceCard : Claim7 := { stood := { row := courtOnceRow, standIns := [], harness := (true, "e5fe00c9ccd91a7ad5b5f56909ad3c9f3f867dde76dc12505d123ff4f11f7f43"), looks := true }, kinds := [], alts := [], laidByText := true, laidKinds := [.handle, .sentinel, .sentinel, .sentinel, .sentinel, .sentinel, .sentinel, .sentinel, .sentinel, .sentinel, .sentinel], laidTests := true, laidLooks := .later }
def CourtOnceCardSaid : Prop := Claim7.holds Tryd.pinned (.plain (OpenSpec.ofChange courtOnceSpec)) courtOnceCard

/-- THE SECOND FORM's CARD OF 'bakehouselaw1.PurseSums'. -/
def purseSumsUptoCard : Claim7 := { stood := { row := purseSumsUptoRow, standIns := [], harness := (true, "e5fe00c9ccd91a7ad5b5f56909ad3c9f3f867dde76dc12505d123ff4f11f7f43"), looks := true }, kinds := [], alts := [], laidByText := true, laidKinds := [.sentinel, .sentinel], laidTests := true, laidLooks := .later }
def PurseSumsUptoCardSaid : Prop := Claim7.holds Tryd.pinned (.plain (OpenSpec.upto purseSumsSpec)) purseSumsUptoCard

/-- THE SECOND FORM's CARD OF 'bakehouselaw1.PurseActs'. -/
def purseActsUptoCard : Claim7 := { stood := { row := purseActsUptoRow, standIns := [], harness := (true, "e5fe00c9ccd91a7ad5b5f56909ad3c9f3f867dde76dc12505d123ff4f11f7f43"), looks := true }, kinds := [], alts := [], laidByText := true, laidKinds := [.handle, .sentinel, .sentinel, .sentinel, .sentinel, .sentinel, .sentinel, .sentinel, .sentinel, .sentinel, .sentinel], laidTests := true, laidLooks := .later }
def PurseActsUptoCardSaid : Prop := Claim7.holds Tryd.pinned (.plain (OpenSpec.upto purseActsSpec)) purseActsUptoCard

/-- THE SECOND FORM's CARD OF 'bakehouselaw2.CourtCases'. -/
def courtCasesUptoCard : Claim7 := { stood := { row := courtCasesUptoRow, standIns := [], harness := (true, "e5fe00c9ccd91a7ad5b5f56909ad3c9f3f867dde76dc12505d123ff4f11f7f43"), looks := true }, kinds := [], alts := [], laidByText := true, laidKinds := [.handle, .sentinel, .sentinel, .sentinel, .sentinel, .sentinel, .sentinel, .sentinel, .sentinel, .sentinel, .sentinel], laidTests := true, laidLooks := .later }
def CourtCasesUptoCardSaid : Prop := Claim7.holds Tryd.pinned (.plain (OpenSpec.upto courtCasesSpec)) courtCasesUptoCard

/-- THE SECOND FORM's CARD OF 'bakehouselaw2.CourtOnce'. -/
def courtOnceUptoCard : Claim7 := { stood := { row := courtOnceUptoRow, standIns := [], harness := (true, "e5fe00c9ccd91a7ad5b5f56909ad3c9f3f867dde76dc12505d123ff4f11f7f43"), looks := true }, kinds := [], alts := [], laidByText := true, laidKinds := [.handle, .sentinel, .sentinel, .sentinel, .sentinel, .sentinel, .sentinel, .sentinel, .sentinel, .sentinel, .sentinel], laidTests := true, laidLooks := .later }
def CourtOnceUptoCardSaid : Prop := Claim7.holds Tryd.pinned (.plain (OpenSpec.upto courtOnceSpec)) courtOnceUptoCard
end Rows
end Go.Proofs.YtamjnkjgdaojiaaDoor
