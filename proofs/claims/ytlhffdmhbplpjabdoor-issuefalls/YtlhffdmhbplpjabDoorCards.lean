/-
  DERIVED. GIVEN WITH THE SEED: THE CARDS: each row of YtlhffdmhbplpjabDoorRows.lean that lists a variable, with what it lists TIED to the program's text (the seventh form; the later family's looks); each row that meets fmt, with fmt's text TOLD by the authors' own Lean function (tested against real Go, not proved from fmt's source: count such statements apart). THE CARD IS WHAT COUNTS. Prove the row's statement (the work); the ties are given (YtlhffdmhbplpjabDoorTie.lean); close each card by the builder's one call (the guide's Derived/Test/ToyasCard.lean, 'card_holds'). Laid BY PROGRAM, IN A SANDBOX (cutbox-door.mjs). By AI agents, Wed Nov 11 2026. No macro, syntax, notation, axiom, sorry.
-/
import Derived.Test.YtlhffdmhbplpjabDoorRows
import GoSem.ClaimSeven
namespace Go.Proofs.YtlhffdmhbplpjabDoor
namespace Rows

/-- THE TIED CARD OF 'bakehouselaw1.PurseSums'. -/
def purseSumsCard : Claim7 := { stood := { row := purseSumsRow, standIns := [], harness := (true, "8a67f02d653c6dd86b74310e4f76de6eff6e6389c7172a4b632dcda1480b037a"), looks := true }, kinds := [], alts := [], laidByText := true, laidKinds := [.sentinel, .sentinel], laidTests := true, laidLooks := .later }
def PurseSumsCardSaid : Prop := Claim7.holds Tryd.pinned (.plain (OpenSpec.ofChange purseSumsSpec)) purseSumsCard

/-- THE TIED CARD OF 'bakehouselaw1.PurseActs'. -/
def purseActsCard : Claim7 := { stood := { row := purseActsRow, standIns := [], harness := (true, "8a67f02d653c6dd86b74310e4f76de6eff6e6389c7172a4b632dcda1480b037a"), looks := true }, kinds := [], alts := [], laidByText := true, laidKinds := [.handle, .sentinel, .sentinel, .sentinel, .sentinel, .sentinel, .sentinel, .sentinel, .sentinel, .sentinel, .sentinel], laidTests := true, laidLooks := .later }
def PurseActsCardSaid : Prop := Claim7.holds Tryd.pinned (.plain (OpenSpec.ofChange purseActsSpec)) purseActsCard

/-- THE TIED CARD OF 'bakehouselaw2.StakeSums'. -/
def stakeSumsCard : Claim7 := { stood := { row := stakeSumsRow, standIns := [], harness := (true, "8a67f02d653c6dd86b74310e4f76de6eff6e6389c7172a4b632dcda1480b037a"), looks := true }, kinds := [], alts := [], laidByText := true, laidKinds := [.sentinel, .sentinel, .sentinel, .sentinel, .sentinel, .sentinel], laidTests := true, laidLooks := .later }
def StakeSumsCardSaid : Prop := Claim7.holds Tryd.pinned (.plain (OpenSpec.ofChange stakeSumsSpec)) stakeSumsCard

/-- THE TIED CARD OF 'bakehouselaw2.StakeWaits'. -/
def stakeWaitsCard : Claim7 := { stood := { row := stakeWaitsRow, standIns := [], harness := (true, "8a67f02d653c6dd86b74310e4f76de6eff6e6389c7172a4b632dcda1480b037a"), looks := true }, kinds := [], alts := [], laidByText := true, laidKinds := [.handle, .sentinel, .sentinel, .sentinel, .sentinel, .sentinel, .sentinel, .sentinel, .sentinel, .sentinel, .sentinel], laidTests := true, laidLooks := .later }
def StakeWaitsCardSaid : Prop := Claim7.holds Tryd.pinned (.plain (OpenSpec.ofChange stakeWaitsSpec)) stakeWaitsCard

/-- THE TIED CARD OF 'bakehouselaw2.RightBakers'. -/
def rightBakersCard : Claim7 := { stood := { row := rightBakersRow, standIns := [], harness := (true, "8a67f02d653c6dd86b74310e4f76de6eff6e6389c7172a4b632dcda1480b037a"), looks := true }, kinds := [], alts := [], laidByText := true, laidKinds := [.handle, .sentinel, .sentinel, .sentinel, .sentinel, .sentinel, .sentinel, .sentinel, .sentinel, .sentinel, .sentinel], laidTests := true, laidLooks := .later }
def RightBakersCardSaid : Prop := Claim7.holds Tryd.pinned (.plain (OpenSpec.ofChange rightBakersSpec)) rightBakersCard

/-- THE TIED CARD OF 'bakehouselaw2.RightOnly'. -/
def rightOnlyCard : Claim7 := { stood := { row := rightOnlyRow, standIns := [], harness := (true, "8a67f02d653c6dd86b74310e4f76de6eff6e6389c7172a4b632dcda1480b037a"), looks := true }, kinds := [], alts := [], laidByText := true, laidKinds := [.sentinel, .sentinel, .sentinel], laidTests := true, laidLooks := .later }
def RightOnlyCardSaid : Prop := Claim7.holds Tryd.pinned (.plain (OpenSpec.ofChange rightOnlySpec)) rightOnlyCard

/-- THE TIED CARD OF 'bakehouselaw2.IssueRates'. -/
def issueRatesCard : Claim7 := { stood := { row := issueRatesRow, standIns := [], harness := (true, "8a67f02d653c6dd86b74310e4f76de6eff6e6389c7172a4b632dcda1480b037a"), looks := true }, kinds := [], alts := [], laidByText := true, laidKinds := [.handle, .sentinel, .sentinel, .sentinel, .sentinel, .sentinel, .sentinel, .sentinel, .sentinel, .sentinel, .sentinel], laidTests := true, laidLooks := .later }
def IssueRatesCardSaid : Prop := Claim7.holds Tryd.pinned (.plain (OpenSpec.ofChange issueRatesSpec)) issueRatesCard

/-- THE TIED CARD OF 'bakehouselaw2.IssueFalls'. -/
def issueFallsCard : Claim7 := { stood := { row := issueFallsRow, standIns := [], harness := (true, "8a67f02d653c6dd86b74310e4f76de6eff6e6389c7172a4b632dcda1480b037a"), looks := true }, kinds := [], alts := [], laidByText := true, laidKinds := [.sentinel, .sentinel], laidTests := true, laidLooks := .later }
def IssueFallsCardSaid : Prop := Claim7.holds Tryd.pinned (.plain (OpenSpec.ofChange issueFallsSpec)) issueFallsCard

/-- THE TIED CARD OF 'bakehouselaw2.CourtCases'. -/
def courtCasesCard : Claim7 := { stood := { row := courtCasesRow, standIns := [], harness := (true, "8a67f02d653c6dd86b74310e4f76de6eff6e6389c7172a4b632dcda1480b037a"), looks := true }, kinds := [], alts := [], laidByText := true, laidKinds := [.handle, .sentinel, .sentinel, .sentinel, .sentinel, .sentinel, .sentinel, .sentinel, .sentinel, .sentinel, .sentinel], laidTests := true, laidLooks := .later }
def CourtCasesCardSaid : Prop := Claim7.holds Tryd.pinned (.plain (OpenSpec.ofChange courtCasesSpec)) courtCasesCard

/-- THE TIED CARD OF 'bakehouselaw2.CourtOnce'. -/
def courtOnceCard : Claim7 := { stood := { row := courtOnceRow, standIns := [], harness := (true, "8a67f02d653c6dd86b74310e4f76de6eff6e6389c7172a4b632dcda1480b037a"), looks := true }, kinds := [], alts := [], laidByText := true, laidKinds := [.handle, .sentinel, .sentinel, .sentinel, .sentinel, .sentinel, .sentinel, .sentinel, .sentinel, .sentinel, .sentinel], laidTests := true, laidLooks := .later }
def CourtOnceCardSaid : Prop := Claim7.holds Tryd.pinned (.plain (OpenSpec.ofChange courtOnceSpec)) courtOnceCard

/-- THE SECOND FORM's CARD OF 'bakehouselaw1.PurseSums'. -/
def purseSumsUptoCard : Claim7 := { stood := { row := purseSumsUptoRow, standIns := [], harness := (true, "8a67f02d653c6dd86b74310e4f76de6eff6e6389c7172a4b632dcda1480b037a"), looks := true }, kinds := [], alts := [], laidByText := true, laidKinds := [.sentinel, .sentinel], laidTests := true, laidLooks := .later }
def PurseSumsUptoCardSaid : Prop := Claim7.holds Tryd.pinned (.plain (OpenSpec.upto purseSumsSpec)) purseSumsUptoCard

/-- THE SECOND FORM's CARD OF 'bakehouselaw1.PurseActs'. -/
def purseActsUptoCard : Claim7 := { stood := { row := purseActsUptoRow, standIns := [], harness := (true, "8a67f02d653c6dd86b74310e4f76de6eff6e6389c7172a4b632dcda1480b037a"), looks := true }, kinds := [], alts := [], laidByText := true, laidKinds := [.handle, .sentinel, .sentinel, .sentinel, .sentinel, .sentinel, .sentinel, .sentinel, .sentinel, .sentinel, .sentinel], laidTests := true, laidLooks := .later }
def PurseActsUptoCardSaid : Prop := Claim7.holds Tryd.pinned (.plain (OpenSpec.upto purseActsSpec)) purseActsUptoCard

/-- THE SECOND FORM's CARD OF 'bakehouselaw2.StakeSums'. -/
def stakeSumsUptoCard : Claim7 := { stood := { row := stakeSumsUptoRow, standIns := [], harness := (true, "8a67f02d653c6dd86b74310e4f76de6eff6e6389c7172a4b632dcda1480b037a"), looks := true }, kinds := [], alts := [], laidByText := true, laidKinds := [.sentinel, .sentinel, .sentinel, .sentinel, .sentinel, .sentinel], laidTests := true, laidLooks := .later }
def StakeSumsUptoCardSaid : Prop := Claim7.holds Tryd.pinned (.plain (OpenSpec.upto stakeSumsSpec)) stakeSumsUptoCard

/-- THE SECOND FORM's CARD OF 'bakehouselaw2.StakeWaits'. -/
def stakeWaitsUptoCard : Claim7 := { stood := { row := stakeWaitsUptoRow, standIns := [], harness := (true, "8a67f02d653c6dd86b74310e4f76de6eff6e6389c7172a4b632dcda1480b037a"), looks := true }, kinds := [], alts := [], laidByText := true, laidKinds := [.handle, .sentinel, .sentinel, .sentinel, .sentinel, .sentinel, .sentinel, .sentinel, .sentinel, .sentinel, .sentinel], laidTests := true, laidLooks := .later }
def StakeWaitsUptoCardSaid : Prop := Claim7.holds Tryd.pinned (.plain (OpenSpec.upto stakeWaitsSpec)) stakeWaitsUptoCard

/-- THE SECOND FORM's CARD OF 'bakehouselaw2.RightBakers'. -/
def rightBakersUptoCard : Claim7 := { stood := { row := rightBakersUptoRow, standIns := [], harness := (true, "8a67f02d653c6dd86b74310e4f76de6eff6e6389c7172a4b632dcda1480b037a"), looks := true }, kinds := [], alts := [], laidByText := true, laidKinds := [.handle, .sentinel, .sentinel, .sentinel, .sentinel, .sentinel, .sentinel, .sentinel, .sentinel, .sentinel, .sentinel], laidTests := true, laidLooks := .later }
def RightBakersUptoCardSaid : Prop := Claim7.holds Tryd.pinned (.plain (OpenSpec.upto rightBakersSpec)) rightBakersUptoCard

/-- THE SECOND FORM's CARD OF 'bakehouselaw2.RightOnly'. -/
def rightOnlyUptoCard : Claim7 := { stood := { row := rightOnlyUptoRow, standIns := [], harness := (true, "8a67f02d653c6dd86b74310e4f76de6eff6e6389c7172a4b632dcda1480b037a"), looks := true }, kinds := [], alts := [], laidByText := true, laidKinds := [.sentinel, .sentinel, .sentinel], laidTests := true, laidLooks := .later }
def RightOnlyUptoCardSaid : Prop := Claim7.holds Tryd.pinned (.plain (OpenSpec.upto rightOnlySpec)) rightOnlyUptoCard

/-- THE SECOND FORM's CARD OF 'bakehouselaw2.IssueRates'. -/
def issueRatesUptoCard : Claim7 := { stood := { row := issueRatesUptoRow, standIns := [], harness := (true, "8a67f02d653c6dd86b74310e4f76de6eff6e6389c7172a4b632dcda1480b037a"), looks := true }, kinds := [], alts := [], laidByText := true, laidKinds := [.handle, .sentinel, .sentinel, .sentinel, .sentinel, .sentinel, .sentinel, .sentinel, .sentinel, .sentinel, .sentinel], laidTests := true, laidLooks := .later }
def IssueRatesUptoCardSaid : Prop := Claim7.holds Tryd.pinned (.plain (OpenSpec.upto issueRatesSpec)) issueRatesUptoCard

/-- THE SECOND FORM's CARD OF 'bakehouselaw2.IssueFalls'. -/
def issueFallsUptoCard : Claim7 := { stood := { row := issueFallsUptoRow, standIns := [], harness := (true, "8a67f02d653c6dd86b74310e4f76de6eff6e6389c7172a4b632dcda1480b037a"), looks := true }, kinds := [], alts := [], laidByText := true, laidKinds := [.sentinel, .sentinel], laidTests := true, laidLooks := .later }
def IssueFallsUptoCardSaid : Prop := Claim7.holds Tryd.pinned (.plain (OpenSpec.upto issueFallsSpec)) issueFallsUptoCard

/-- THE SECOND FORM's CARD OF 'bakehouselaw2.CourtCases'. -/
def courtCasesUptoCard : Claim7 := { stood := { row := courtCasesUptoRow, standIns := [], harness := (true, "8a67f02d653c6dd86b74310e4f76de6eff6e6389c7172a4b632dcda1480b037a"), looks := true }, kinds := [], alts := [], laidByText := true, laidKinds := [.handle, .sentinel, .sentinel, .sentinel, .sentinel, .sentinel, .sentinel, .sentinel, .sentinel, .sentinel, .sentinel], laidTests := true, laidLooks := .later }
def CourtCasesUptoCardSaid : Prop := Claim7.holds Tryd.pinned (.plain (OpenSpec.upto courtCasesSpec)) courtCasesUptoCard

/-- THE SECOND FORM's CARD OF 'bakehouselaw2.CourtOnce'. -/
def courtOnceUptoCard : Claim7 := { stood := { row := courtOnceUptoRow, standIns := [], harness := (true, "8a67f02d653c6dd86b74310e4f76de6eff6e6389c7172a4b632dcda1480b037a"), looks := true }, kinds := [], alts := [], laidByText := true, laidKinds := [.handle, .sentinel, .sentinel, .sentinel, .sentinel, .sentinel, .sentinel, .sentinel, .sentinel, .sentinel, .sentinel], laidTests := true, laidLooks := .later }
def CourtOnceUptoCardSaid : Prop := Claim7.holds Tryd.pinned (.plain (OpenSpec.upto courtOnceSpec)) courtOnceUptoCard
end Rows
end Go.Proofs.YtlhffdmhbplpjabDoor
