/-
  DERIVED. GIVEN WITH THE SEED: THE CARDS: each row of YtmbfdhekplnoaaaDoorRows.lean that lists a variable, with what it lists TIED to the program's text (the seventh form; the later family's looks); each row that meets fmt, with fmt's text TOLD by the authors' own Lean function (tested against real Go, not proved from fmt's source: count such statements apart). THE CARD IS WHAT COUNTS. Prove the row's statement (the work); the ties are given (YtmbfdhekplnoaaaDoorTie.lean); close each card by the builder's one call (the guide's Derived/Test/ToyasCard.lean, 'card_holds'). Laid BY PROGRAM, IN A SANDBOX (cutbox-door.mjs). By AI agents, Wed Nov 11 2026. No macro, syntax, notation, axiom, sorry.
-/
import Derived.Test.YtmbfdhekplnoaaaDoorRows
import GoSem.ClaimSeven
namespace Go.Proofs.YtmbfdhekplnoaaaDoor
namespace Rows

/-- THE TIED CARD OF 'bakehouselaw3.SideRights'. -/
def sideRightsCard : Claim7 := { stood := { row := sideRightsRow, standIns := [], harness := (true, "5e02cf72fde6f8482dc1aaae2c7d44f16ae3921d73e585ac1242d8a142fa9bc1"), looks := true }, kinds := [], alts := [], goes := true, laidByText := true, laidKinds := [.handle, .sentinel, .sentinel, .sentinel, .sentinel, .sentinel, .sentinel, .sentinel, .sentinel, .sentinel, .sentinel], laidTests := true, laidLooks := .later }
def SideRightsCardSaid : Prop := Claim7.holds Tryd.pinned (.plain (OpenSpec.ofChange sideRightsSpec)) sideRightsCard

/-- THE SECOND FORM's CARD OF 'bakehouselaw3.SideRights'. -/
def sideRightsUptoCard : Claim7 := { stood := { row := sideRightsUptoRow, standIns := [], harness := (true, "5e02cf72fde6f8482dc1aaae2c7d44f16ae3921d73e585ac1242d8a142fa9bc1"), looks := true }, kinds := [], alts := [], goes := true, laidByText := true, laidKinds := [.handle, .sentinel, .sentinel, .sentinel, .sentinel, .sentinel, .sentinel, .sentinel, .sentinel, .sentinel, .sentinel], laidTests := true, laidLooks := .later }
def SideRightsUptoCardSaid : Prop := Claim7.holds Tryd.pinned (.plain (OpenSpec.upto sideRightsSpec)) sideRightsUptoCard
end Rows
end Go.Proofs.YtmbfdhekplnoaaaDoor
