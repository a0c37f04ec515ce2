/-
  DERIVED. GIVEN WITH THE SEED: THE CARDS: each row of YtlhffdmhbplpjaaDoorRows.lean that lists a variable, with what it lists TIED to the program's text (the seventh form; the later family's looks); each row that meets fmt, with fmt's text TOLD by the authors' own Lean function (tested against real Go, not proved from fmt's source: count such statements apart). THE CARD IS WHAT COUNTS. Prove the row's statement (the work); the ties are given (YtlhffdmhbplpjaaDoorTie.lean); close each card by the builder's one call (the guide's Derived/Test/ToyasCard.lean, 'card_holds'). Laid BY PROGRAM, IN A SANDBOX (cutbox-door.mjs). By AI agents, Wed Nov 11 2026. No macro, syntax, notation, axiom, sorry.
-/
import Derived.Test.YtlhffdmhbplpjaaDoorRows
import GoSem.ClaimSeven
namespace Go.Proofs.YtlhffdmhbplpjaaDoor
namespace Rows

/-- THE TIED CARD OF 'bakehouselaw1.Names'. -/
def namesCard : Claim7 := { stood := { row := namesRow, standIns := [], harness := (true, "cb022c6ee80ad6753b8019ece4045c063e5835c0d16cfdb8f77140cdf63f0eee"), looks := true }, kinds := [], alts := [], laidByText := true, laidKinds := [.handle, .sentinel, .sentinel, .sentinel, .sentinel, .sentinel, .sentinel, .sentinel, .sentinel, .sentinel, .sentinel], laidTests := true, laidLooks := .later }
def NamesCardSaid : Prop := Claim7.holds Tryd.pinned (.plain (OpenSpec.ofChange namesSpec)) namesCard

/-- THE TIED CARD OF 'bakehouselaw1.PartBack'. -/
def partBackCard : Claim7 := { stood := { row := partBackRow, standIns := [], harness := (true, "cb022c6ee80ad6753b8019ece4045c063e5835c0d16cfdb8f77140cdf63f0eee"), looks := true }, kinds := [], alts := [], laidByText := true, laidKinds := [.sentinel], laidTests := true, laidLooks := .later }
def PartBackCardSaid : Prop := Claim7.holds Tryd.pinned (.plain (OpenSpec.ofChange partBackSpec)) partBackCard

/-- THE TIED CARD OF 'bakehouselaw1.PartBends'. -/
def partBendsCard : Claim7 := { stood := { row := partBendsRow, standIns := [], harness := (true, "cb022c6ee80ad6753b8019ece4045c063e5835c0d16cfdb8f77140cdf63f0eee"), looks := true }, kinds := [], alts := [], laidByText := true, laidKinds := [.handle, .sentinel, .sentinel, .sentinel, .sentinel, .sentinel, .sentinel, .sentinel, .sentinel, .sentinel, .sentinel], laidTests := true, laidLooks := .later }
def PartBendsCardSaid : Prop := Claim7.holds Tryd.pinned (.plain (OpenSpec.ofChange partBendsSpec)) partBendsCard

/-- THE TIED CARD OF 'bakehouselaw1.PartBetween'. -/
def partBetweenCard : Claim7 := { stood := { row := partBetweenRow, standIns := [], harness := (true, "cb022c6ee80ad6753b8019ece4045c063e5835c0d16cfdb8f77140cdf63f0eee"), looks := true }, kinds := [], alts := [], laidByText := true, laidKinds := [.sentinel, .sentinel], laidTests := true, laidLooks := .later }
def PartBetweenCardSaid : Prop := Claim7.holds Tryd.pinned (.plain (OpenSpec.ofChange partBetweenSpec)) partBetweenCard

/-- THE TIED CARD OF 'bakehouselaw1.PartRounds'. -/
def partRoundsCard : Claim7 := { stood := { row := partRoundsRow, standIns := [], harness := (true, "cb022c6ee80ad6753b8019ece4045c063e5835c0d16cfdb8f77140cdf63f0eee"), looks := true }, kinds := [], alts := [], laidByText := true, laidKinds := [.handle, .sentinel, .sentinel, .sentinel, .sentinel, .sentinel, .sentinel, .sentinel, .sentinel, .sentinel, .sentinel], laidTests := true, laidLooks := .later }
def PartRoundsCardSaid : Prop := Claim7.holds Tryd.pinned (.plain (OpenSpec.ofChange partRoundsSpec)) partRoundsCard

/-- THE TIED CARD OF 'bakehouselaw1.PoolFair'. -/
def poolFairCard : Claim7 := { stood := { row := poolFairRow, standIns := [], harness := (true, "cb022c6ee80ad6753b8019ece4045c063e5835c0d16cfdb8f77140cdf63f0eee"), looks := true }, kinds := [], alts := [], laidByText := true, laidKinds := [.sentinel, .sentinel, .sentinel, .sentinel, .sentinel], laidTests := true, laidLooks := .later }
def PoolFairCardSaid : Prop := Claim7.holds Tryd.pinned (.plain (OpenSpec.ofChange poolFairSpec)) poolFairCard

/-- THE TIED CARD OF 'bakehouselaw1.PoolAlone'. -/
def poolAloneCard : Claim7 := { stood := { row := poolAloneRow, standIns := [], harness := (true, "cb022c6ee80ad6753b8019ece4045c063e5835c0d16cfdb8f77140cdf63f0eee"), looks := true }, kinds := [], alts := [], laidByText := true, laidKinds := [.sentinel, .sentinel, .sentinel, .sentinel], laidTests := true, laidLooks := .later }
def PoolAloneCardSaid : Prop := Claim7.holds Tryd.pinned (.plain (OpenSpec.ofChange poolAloneSpec)) poolAloneCard

/-- THE TIED CARD OF 'bakehouselaw1.PoolActs'. -/
def poolActsCard : Claim7 := { stood := { row := poolActsRow, standIns := [], harness := (true, "cb022c6ee80ad6753b8019ece4045c063e5835c0d16cfdb8f77140cdf63f0eee"), looks := true }, kinds := [], alts := [], laidByText := true, laidKinds := [.handle, .sentinel, .sentinel, .sentinel, .sentinel, .sentinel, .sentinel, .sentinel, .sentinel, .sentinel, .sentinel], laidTests := true, laidLooks := .later }
def PoolActsCardSaid : Prop := Claim7.holds Tryd.pinned (.plain (OpenSpec.ofChange poolActsSpec)) poolActsCard

/-- THE TIED CARD OF 'bakehouselaw1.DrawColumns'. -/
def drawColumnsCard : Claim7 := { stood := { row := drawColumnsRow, standIns := [], harness := (true, "cb022c6ee80ad6753b8019ece4045c063e5835c0d16cfdb8f77140cdf63f0eee"), looks := true }, kinds := [], alts := [], laidByText := true, laidKinds := [.handle, .sentinel, .sentinel, .sentinel, .sentinel, .sentinel, .sentinel, .sentinel, .sentinel, .sentinel, .sentinel], laidTests := true, laidLooks := .later }
def DrawColumnsCardSaid : Prop := Claim7.holds Tryd.pinned (.plain (OpenSpec.ofChange drawColumnsSpec)) drawColumnsCard

/-- THE TIED CARD OF 'bakehouselaw1.DrawJust'. -/
def drawJustCard : Claim7 := { stood := { row := drawJustRow, standIns := [], harness := (true, "cb022c6ee80ad6753b8019ece4045c063e5835c0d16cfdb8f77140cdf63f0eee"), looks := true }, kinds := [], alts := [], laidByText := true, laidKinds := [.sentinel, .sentinel, .sentinel], laidTests := true, laidLooks := .later }
def DrawJustCardSaid : Prop := Claim7.holds Tryd.pinned (.plain (OpenSpec.ofChange drawJustSpec)) drawJustCard

/-- THE TIED CARD OF 'bakehouselaw1.LotsNext'. -/
def lotsNextCard : Claim7 := { stood := { row := lotsNextRow, standIns := [], harness := (true, "cb022c6ee80ad6753b8019ece4045c063e5835c0d16cfdb8f77140cdf63f0eee"), looks := true }, kinds := [], alts := [], laidByText := true, laidKinds := [.handle, .sentinel, .sentinel, .sentinel, .sentinel, .sentinel, .sentinel, .sentinel, .sentinel, .sentinel, .sentinel], laidTests := true, laidLooks := .later }
def LotsNextCardSaid : Prop := Claim7.holds Tryd.pinned (.plain (OpenSpec.ofChange lotsNextSpec)) lotsNextCard

/-- THE SECOND FORM's CARD OF 'bakehouselaw1.Names'. -/
def namesUptoCard : Claim7 := { stood := { row := namesUptoRow, standIns := [], harness := (true, "cb022c6ee80ad6753b8019ece4045c063e5835c0d16cfdb8f77140cdf63f0eee"), looks := true }, kinds := [], alts := [], laidByText := true, laidKinds := [.handle, .sentinel, .sentinel, .sentinel, .sentinel, .sentinel, .sentinel, .sentinel, .sentinel, .sentinel, .sentinel], laidTests := true, laidLooks := .later }
def NamesUptoCardSaid : Prop := Claim7.holds Tryd.pinned (.plain (OpenSpec.upto namesSpec)) namesUptoCard

/-- THE SECOND FORM's CARD OF 'bakehouselaw1.PartBack'. -/
def partBackUptoCard : Claim7 := { stood := { row := partBackUptoRow, standIns := [], harness := (true, "cb022c6ee80ad6753b8019ece4045c063e5835c0d16cfdb8f77140cdf63f0eee"), looks := true }, kinds := [], alts := [], laidByText := true, laidKinds := [.sentinel], laidTests := true, laidLooks := .later }
def PartBackUptoCardSaid : Prop := Claim7.holds Tryd.pinned (.plain (OpenSpec.upto partBackSpec)) partBackUptoCard

/-- THE SECOND FORM's CARD OF 'bakehouselaw1.PartBends'. -/
def partBendsUptoCard : Claim7 := { stood := { row := partBendsUptoRow, standIns := [], harness := (true, "cb022c6ee80ad6753b8019ece4045c063e5835c0d16cfdb8f77140cdf63f0eee"), looks := true }, kinds := [], alts := [], laidByText := true, laidKinds := [.handle, .sentinel, .sentinel, .sentinel, .sentinel, .sentinel, .sentinel, .sentinel, .sentinel, .sentinel, .sentinel], laidTests := true, laidLooks := .later }
def PartBendsUptoCardSaid : Prop := Claim7.holds Tryd.pinned (.plain (OpenSpec.upto partBendsSpec)) partBendsUptoCard

/-- THE SECOND FORM's CARD OF 'bakehouselaw1.PartBetween'. -/
def partBetweenUptoCard : Claim7 := { stood := { row := partBetweenUptoRow, standIns := [], harness := (true, "cb022c6ee80ad6753b8019ece4045c063e5835c0d16cfdb8f77140cdf63f0eee"), looks := true }, kinds := [], alts := [], laidByText := true, laidKinds := [.sentinel, .sentinel], laidTests := true, laidLooks := .later }
def PartBetweenUptoCardSaid : Prop := Claim7.holds Tryd.pinned (.plain (OpenSpec.upto partBetweenSpec)) partBetweenUptoCard

/-- THE SECOND FORM's CARD OF 'bakehouselaw1.PartRounds'. -/
def partRoundsUptoCard : Claim7 := { stood := { row := partRoundsUptoRow, standIns := [], harness := (true, "cb022c6ee80ad6753b8019ece4045c063e5835c0d16cfdb8f77140cdf63f0eee"), looks := true }, kinds := [], alts := [], laidByText := true, laidKinds := [.handle, .sentinel, .sentinel, .sentinel, .sentinel, .sentinel, .sentinel, .sentinel, .sentinel, .sentinel, .sentinel], laidTests := true, laidLooks := .later }
def PartRoundsUptoCardSaid : Prop := Claim7.holds Tryd.pinned (.plain (OpenSpec.upto partRoundsSpec)) partRoundsUptoCard

/-- THE SECOND FORM's CARD OF 'bakehouselaw1.PoolFair'. -/
def poolFairUptoCard : Claim7 := { stood := { row := poolFairUptoRow, standIns := [], harness := (true, "cb022c6ee80ad6753b8019ece4045c063e5835c0d16cfdb8f77140cdf63f0eee"), looks := true }, kinds := [], alts := [], laidByText := true, laidKinds := [.sentinel, .sentinel, .sentinel, .sentinel, .sentinel], laidTests := true, laidLooks := .later }
def PoolFairUptoCardSaid : Prop := Claim7.holds Tryd.pinned (.plain (OpenSpec.upto poolFairSpec)) poolFairUptoCard

/-- THE SECOND FORM's CARD OF 'bakehouselaw1.PoolAlone'. -/
def poolAloneUptoCard : Claim7 := { stood := { row := poolAloneUptoRow, standIns := [], harness := (true, "cb022c6ee80ad6753b8019ece4045c063e5835c0d16cfdb8f77140cdf63f0eee"), looks := true }, kinds := [], alts := [], laidByText := true, laidKinds := [.sentinel, .sentinel, .sentinel, .sentinel], laidTests := true, laidLooks := .later }
def PoolAloneUptoCardSaid : Prop := Claim7.holds Tryd.pinned (.plain (OpenSpec.upto poolAloneSpec)) poolAloneUptoCard

/-- THE SECOND FORM's CARD OF 'bakehouselaw1.PoolActs'. -/
def poolActsUptoCard : Claim7 := { stood := { row := poolActsUptoRow, standIns := [], harness := (true, "cb022c6ee80ad6753b8019ece4045c063e5835c0d16cfdb8f77140cdf63f0eee"), looks := true }, kinds := [], alts := [], laidByText := true, laidKinds := [.handle, .sentinel, .sentinel, .sentinel, .sentinel, .sentinel, .sentinel, .sentinel, .sentinel, .sentinel, .sentinel], laidTests := true, laidLooks := .later }
def PoolActsUptoCardSaid : Prop := Claim7.holds Tryd.pinned (.plain (OpenSpec.upto poolActsSpec)) poolActsUptoCard

/-- THE SECOND FORM's CARD OF 'bakehouselaw1.DrawColumns'. -/
def drawColumnsUptoCard : Claim7 := { stood := { row := drawColumnsUptoRow, standIns := [], harness := (true, "cb022c6ee80ad6753b8019ece4045c063e5835c0d16cfdb8f77140cdf63f0eee"), looks := true }, kinds := [], alts := [], laidByText := true, laidKinds := [.handle, .sentinel, .sentinel, .sentinel, .sentinel, .sentinel, .sentinel, .sentinel, .sentinel, .sentinel, .sentinel], laidTests := true, laidLooks := .later }
def DrawColumnsUptoCardSaid : Prop := Claim7.holds Tryd.pinned (.plain (OpenSpec.upto drawColumnsSpec)) drawColumnsUptoCard

/-- THE SECOND FORM's CARD OF 'bakehouselaw1.DrawJust'. -/
def drawJustUptoCard : Claim7 := { stood := { row := drawJustUptoRow, standIns := [], harness := (true, "cb022c6ee80ad6753b8019ece4045c063e5835c0d16cfdb8f77140cdf63f0eee"), looks := true }, kinds := [], alts := [], laidByText := true, laidKinds := [.sentinel, .sentinel, .sentinel], laidTests := true, laidLooks := .later }
def DrawJustUptoCardSaid : Prop := Claim7.holds Tryd.pinned (.plain (OpenSpec.upto drawJustSpec)) drawJustUptoCard

/-- THE SECOND FORM's CARD OF 'bakehouselaw1.LotsNext'. -/
def lotsNextUptoCard : Claim7 := { stood := { row := lotsNextUptoRow, standIns := [], harness := (true, "cb022c6ee80ad6753b8019ece4045c063e5835c0d16cfdb8f77140cdf63f0eee"), looks := true }, kinds := [], alts := [], laidByText := true, laidKinds := [.handle, .sentinel, .sentinel, .sentinel, .sentinel, .sentinel, .sentinel, .sentinel, .sentinel, .sentinel, .sentinel], laidTests := true, laidLooks := .later }
def LotsNextUptoCardSaid : Prop := Claim7.holds Tryd.pinned (.plain (OpenSpec.upto lotsNextSpec)) lotsNextUptoCard
end Rows
end Go.Proofs.YtlhffdmhbplpjaaDoor
