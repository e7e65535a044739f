/-
  DERIVED. GIVEN WITH THE SEED: THE CARDS: each row of YtbhjpkejdkfenaaGreatDoorRows.lean that lists a variable, with what it lists TIED to the program's text (the seventh form; the later family's looks); each row that meets fmt, with fmt's text TOLD by the authors' own Lean function (tested against real Go, not proved from fmt's source: count such statements apart). THE CARD IS WHAT COUNTS. Prove the row's statement (the work); the ties are given (YtbhjpkejdkfenaaGreatDoorTie.lean); close each card by the builder's one call (the guide's Derived/Test/ToyasCard.lean, 'card_holds'). Laid BY PROGRAM, IN A SANDBOX (cutbox-door.mjs). By AI agents, Wed Nov 11 2026. No macro, syntax, notation, axiom, sorry.
-/
import Derived.Test.YtbhjpkejdkfenaaGreatDoorRows
import GoSem.ClaimSeven
namespace Go.Proofs.YtbhjpkejdkfenaaGreatDoor
namespace Rows

/-- THE TIED CARD OF 'redresslaw08.ManifestKnown'. -/
def manifestKnownCard : Claim7 := { stood := { row := manifestKnownRow, standIns := [], harness := (true, "c1c15538058fd7f7c5ed78d0a5c42640e39766a50c36c1451095e78696f77cd9"), looks := true }, kinds := [], alts := [], laidByText := true, laidKinds := [.data, .data, .data, .sentinel, .sentinel], laidTests := true, laidLooks := .later }
def ManifestKnownCardSaid : Prop := Claim7.holds Tryz.pinned (.plain (OpenSpec.ofChange manifestKnownSpec)) manifestKnownCard

/-- THE TIED CARD OF 'redresslaw08.ManifestApplies'. -/
def manifestAppliesCard : Claim7 := { stood := { row := manifestAppliesRow, standIns := [], harness := (true, "c1c15538058fd7f7c5ed78d0a5c42640e39766a50c36c1451095e78696f77cd9"), looks := true }, kinds := [], alts := [], laidByText := true, laidKinds := [.data, .data, .data, .sentinel, .sentinel], laidTests := true, laidLooks := .later }
def ManifestAppliesCardSaid : Prop := Claim7.holds Tryz.pinned (.plain (OpenSpec.ofChange manifestAppliesSpec)) manifestAppliesCard

/-- THE TIED CARD OF 'redresslaw08.ManifestPlays'. -/
def manifestPlaysCard : Claim7 := { stood := { row := manifestPlaysRow, standIns := [], harness := (true, "c1c15538058fd7f7c5ed78d0a5c42640e39766a50c36c1451095e78696f77cd9"), looks := true }, kinds := [], alts := [], laidByText := true, laidKinds := [.data, .data, .data, .sentinel, .sentinel], laidTests := true, laidLooks := .later }
def ManifestPlaysCardSaid : Prop := Claim7.holds Tryz.pinned (.plain (OpenSpec.ofChange manifestPlaysSpec)) manifestPlaysCard

/-- THE TIED CARD OF 'redresslaw08.ManifestKept'. -/
def manifestKeptCard : Claim7 := { stood := { row := manifestKeptRow, standIns := [], harness := (true, "c1c15538058fd7f7c5ed78d0a5c42640e39766a50c36c1451095e78696f77cd9"), looks := true }, kinds := [], alts := [], laidByText := true, laidKinds := [.data, .data, .data, .sentinel, .sentinel], laidTests := true, laidLooks := .later }
def ManifestKeptCardSaid : Prop := Claim7.holds Tryz.pinned (.plain (OpenSpec.ofChange manifestKeptSpec)) manifestKeptCard

/-- THE TIED CARD OF 'redresslaw08.ManifestTurned'. -/
def manifestTurnedCard : Claim7 := { stood := { row := manifestTurnedRow, standIns := [], harness := (true, "c1c15538058fd7f7c5ed78d0a5c42640e39766a50c36c1451095e78696f77cd9"), looks := true }, kinds := [], alts := [], laidByText := true, laidKinds := [.data, .data, .data, .sentinel, .sentinel], laidTests := true, laidLooks := .later }
def ManifestTurnedCardSaid : Prop := Claim7.holds Tryz.pinned (.plain (OpenSpec.ofChange manifestTurnedSpec)) manifestTurnedCard

/-- THE SECOND FORM's CARD OF 'redresslaw08.ManifestKnown'. -/
def manifestKnownUptoCard : Claim7 := { stood := { row := manifestKnownUptoRow, standIns := [], harness := (true, "c1c15538058fd7f7c5ed78d0a5c42640e39766a50c36c1451095e78696f77cd9"), looks := true }, kinds := [], alts := [], laidByText := true, laidKinds := [.data, .data, .data, .sentinel, .sentinel], laidTests := true, laidLooks := .later }
def ManifestKnownUptoCardSaid : Prop := Claim7.holds Tryz.pinned (.plain (OpenSpec.upto manifestKnownSpec)) manifestKnownUptoCard

/-- THE SECOND FORM's CARD OF 'redresslaw08.ManifestApplies'. -/
def manifestAppliesUptoCard : Claim7 := { stood := { row := manifestAppliesUptoRow, standIns := [], harness := (true, "c1c15538058fd7f7c5ed78d0a5c42640e39766a50c36c1451095e78696f77cd9"), looks := true }, kinds := [], alts := [], laidByText := true, laidKinds := [.data, .data, .data, .sentinel, .sentinel], laidTests := true, laidLooks := .later }
def ManifestAppliesUptoCardSaid : Prop := Claim7.holds Tryz.pinned (.plain (OpenSpec.upto manifestAppliesSpec)) manifestAppliesUptoCard

/-- THE SECOND FORM's CARD OF 'redresslaw08.ManifestPlays'. -/
def manifestPlaysUptoCard : Claim7 := { stood := { row := manifestPlaysUptoRow, standIns := [], harness := (true, "c1c15538058fd7f7c5ed78d0a5c42640e39766a50c36c1451095e78696f77cd9"), looks := true }, kinds := [], alts := [], laidByText := true, laidKinds := [.data, .data, .data, .sentinel, .sentinel], laidTests := true, laidLooks := .later }
def ManifestPlaysUptoCardSaid : Prop := Claim7.holds Tryz.pinned (.plain (OpenSpec.upto manifestPlaysSpec)) manifestPlaysUptoCard

/-- THE SECOND FORM's CARD OF 'redresslaw08.ManifestKept'. -/
def manifestKeptUptoCard : Claim7 := { stood := { row := manifestKeptUptoRow, standIns := [], harness := (true, "c1c15538058fd7f7c5ed78d0a5c42640e39766a50c36c1451095e78696f77cd9"), looks := true }, kinds := [], alts := [], laidByText := true, laidKinds := [.data, .data, .data, .sentinel, .sentinel], laidTests := true, laidLooks := .later }
def ManifestKeptUptoCardSaid : Prop := Claim7.holds Tryz.pinned (.plain (OpenSpec.upto manifestKeptSpec)) manifestKeptUptoCard

/-- THE SECOND FORM's CARD OF 'redresslaw08.ManifestTurned'. -/
def manifestTurnedUptoCard : Claim7 := { stood := { row := manifestTurnedUptoRow, standIns := [], harness := (true, "c1c15538058fd7f7c5ed78d0a5c42640e39766a50c36c1451095e78696f77cd9"), looks := true }, kinds := [], alts := [], laidByText := true, laidKinds := [.data, .data, .data, .sentinel, .sentinel], laidTests := true, laidLooks := .later }
def ManifestTurnedUptoCardSaid : Prop := Claim7.holds Tryz.pinned (.plain (OpenSpec.upto manifestTurnedSpec)) manifestTurnedUptoCard
end Rows
end Go.Proofs.YtbhjpkejdkfenaaGreatDoor
