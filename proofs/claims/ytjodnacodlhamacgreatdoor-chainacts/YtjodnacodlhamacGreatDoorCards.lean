/-
  DERIVED. GIVEN WITH THE SEED: THE CARDS: each row of YtjodnacodlhamacGreatDoorRows.lean that lists a variable, with what it lists TIED to the program's text (the seventh form; the later family's looks); each row that meets fmt, with fmt's text TOLD by the authors' own Lean function (tested against real Go, not proved from fmt's source: count such statements apart). THE CARD IS WHAT COUNTS. Prove the row's statement (the work); the ties are given (YtjodnacodlhamacGreatDoorTie.lean); close each card by the builder's one call (the guide's Derived/Test/ToyasCard.lean, 'card_holds'). Laid BY PROGRAM, IN A SANDBOX (cutbox-door.mjs). By AI agents, Wed Nov 11 2026. No macro, syntax, notation, axiom, sorry.
-/
import Derived.Test.YtjodnacodlhamacGreatDoorRows
import GoSem.ClaimSeven
namespace Go.Proofs.YtjodnacodlhamacGreatDoor
namespace Rows

/-- THE TIED CARD OF 'bakehouselaw3.ChainTurns'. -/
def chainTurnsCard : Claim7 := { stood := { row := chainTurnsRow, standIns := [], harness := (true, "aafe6c6d9e74f6ecf61ba979062fc8f5bafc2372eb6b84340ca87e2e3fde4df1"), looks := true }, kinds := [], alts := [], laidByText := true, laidKinds := [.handle, .sentinel, .sentinel, .sentinel, .sentinel, .sentinel, .sentinel, .sentinel, .sentinel, .sentinel, .sentinel], laidTests := true, laidLooks := .later }
def ChainTurnsCardSaid : Prop := Claim7.holds Tryz.pinned (.plain (OpenSpec.ofChange chainTurnsSpec)) chainTurnsCard

/-- THE TIED CARD OF 'bakehouselaw3.ChainSums'. -/
def chainSumsCard : Claim7 := { stood := { row := chainSumsRow, standIns := [], harness := (true, "aafe6c6d9e74f6ecf61ba979062fc8f5bafc2372eb6b84340ca87e2e3fde4df1"), looks := true }, kinds := [], alts := [], laidByText := true, laidKinds := [.sentinel, .sentinel, .sentinel, .sentinel, .sentinel, .sentinel, .sentinel, .sentinel, .sentinel], laidTests := true, laidLooks := .later }
def ChainSumsCardSaid : Prop := Claim7.holds Tryz.pinned (.plain (OpenSpec.ofChange chainSumsSpec)) chainSumsCard

/-- THE TIED CARD OF 'bakehouselaw3.ChainRewards'. -/
def chainRewardsCard : Claim7 := { stood := { row := chainRewardsRow, standIns := [], harness := (true, "aafe6c6d9e74f6ecf61ba979062fc8f5bafc2372eb6b84340ca87e2e3fde4df1"), looks := true }, kinds := [], alts := [], laidByText := true, laidKinds := [.sentinel, .sentinel, .sentinel, .sentinel, .sentinel, .sentinel, .sentinel, .sentinel, .sentinel], laidTests := true, laidLooks := .later }
def ChainRewardsCardSaid : Prop := Claim7.holds Tryz.pinned (.plain (OpenSpec.ofChange chainRewardsSpec)) chainRewardsCard

/-- THE TIED CARD OF 'bakehouselaw3.ChainActs'. -/
def chainActsCard : Claim7 := { stood := { row := chainActsRow, standIns := [], harness := (true, "aafe6c6d9e74f6ecf61ba979062fc8f5bafc2372eb6b84340ca87e2e3fde4df1"), looks := true }, kinds := [], alts := [], laidByText := true, laidKinds := [.handle, .sentinel, .sentinel, .sentinel, .sentinel, .sentinel, .sentinel, .sentinel, .sentinel, .sentinel, .sentinel], laidTests := true, laidLooks := .later }
def ChainActsCardSaid : Prop := Claim7.holds Tryz.pinned (.plain (OpenSpec.ofChange chainActsSpec)) chainActsCard

/-- THE SECOND FORM's CARD OF 'bakehouselaw3.ChainTurns'. -/
def chainTurnsUptoCard : Claim7 := { stood := { row := chainTurnsUptoRow, standIns := [], harness := (true, "aafe6c6d9e74f6ecf61ba979062fc8f5bafc2372eb6b84340ca87e2e3fde4df1"), looks := true }, kinds := [], alts := [], laidByText := true, laidKinds := [.handle, .sentinel, .sentinel, .sentinel, .sentinel, .sentinel, .sentinel, .sentinel, .sentinel, .sentinel, .sentinel], laidTests := true, laidLooks := .later }
def ChainTurnsUptoCardSaid : Prop := Claim7.holds Tryz.pinned (.plain (OpenSpec.upto chainTurnsSpec)) chainTurnsUptoCard

/-- THE SECOND FORM's CARD OF 'bakehouselaw3.ChainSums'. -/
def chainSumsUptoCard : Claim7 := { stood := { row := chainSumsUptoRow, standIns := [], harness := (true, "aafe6c6d9e74f6ecf61ba979062fc8f5bafc2372eb6b84340ca87e2e3fde4df1"), looks := true }, kinds := [], alts := [], laidByText := true, laidKinds := [.sentinel, .sentinel, .sentinel, .sentinel, .sentinel, .sentinel, .sentinel, .sentinel, .sentinel], laidTests := true, laidLooks := .later }
def ChainSumsUptoCardSaid : Prop := Claim7.holds Tryz.pinned (.plain (OpenSpec.upto chainSumsSpec)) chainSumsUptoCard

/-- THE SECOND FORM's CARD OF 'bakehouselaw3.ChainRewards'. -/
def chainRewardsUptoCard : Claim7 := { stood := { row := chainRewardsUptoRow, standIns := [], harness := (true, "aafe6c6d9e74f6ecf61ba979062fc8f5bafc2372eb6b84340ca87e2e3fde4df1"), looks := true }, kinds := [], alts := [], laidByText := true, laidKinds := [.sentinel, .sentinel, .sentinel, .sentinel, .sentinel, .sentinel, .sentinel, .sentinel, .sentinel], laidTests := true, laidLooks := .later }
def ChainRewardsUptoCardSaid : Prop := Claim7.holds Tryz.pinned (.plain (OpenSpec.upto chainRewardsSpec)) chainRewardsUptoCard

/-- THE SECOND FORM's CARD OF 'bakehouselaw3.ChainActs'. -/
def chainActsUptoCard : Claim7 := { stood := { row := chainActsUptoRow, standIns := [], harness := (true, "aafe6c6d9e74f6ecf61ba979062fc8f5bafc2372eb6b84340ca87e2e3fde4df1"), looks := true }, kinds := [], alts := [], laidByText := true, laidKinds := [.handle, .sentinel, .sentinel, .sentinel, .sentinel, .sentinel, .sentinel, .sentinel, .sentinel, .sentinel, .sentinel], laidTests := true, laidLooks := .later }
def ChainActsUptoCardSaid : Prop := Claim7.holds Tryz.pinned (.plain (OpenSpec.upto chainActsSpec)) chainActsUptoCard
end Rows
end Go.Proofs.YtjodnacodlhamacGreatDoor
