/-
  DERIVED. GIVEN WITH THE SEED: THE CARDS: each row of YtoecbkndbcblpaaGreatDoorRows.lean that lists a variable, with what it lists TIED to the program's text (the seventh form; the later family's looks); each row that meets fmt, with fmt's text TOLD by the authors' own Lean function (tested against real Go, not proved from fmt's source: count such statements apart). THE CARD IS WHAT COUNTS. Prove the row's statement (the work); the ties are given (YtoecbkndbcblpaaGreatDoorTie.lean); close each card by the builder's one call (the guide's Derived/Test/ToyasCard.lean, 'card_holds'). Laid BY PROGRAM, IN A SANDBOX (cutbox-door.mjs). By AI agents, Wed Nov 11 2026. No macro, syntax, notation, axiom, sorry.
-/
import Derived.Test.YtoecbkndbcblpaaGreatDoorRows
import GoSem.ClaimSeven
namespace Go.Proofs.YtoecbkndbcblpaaGreatDoor
namespace Rows

/-- THE TIED CARD OF 'redresslaw04.WalKnown'. -/
def walKnownCard : Claim7 := { stood := { row := walKnownRow, standIns := [], harness := (true, "13d47d7c3c5517ad4345e6e2bce0f9a263130bdfdb80ece8ac14669d67e50369"), looks := true }, kinds := [], alts := [], laidByText := true, laidKinds := [.data, .data, .data, .data, .sentinel, .sentinel, .pinned], laidTests := true, laidLooks := .later }
def WalKnownCardSaid : Prop := Claim7.holds Tryz.pinned (.plain (OpenSpec.ofChange walKnownSpec)) walKnownCard

/-- THE TIED CARD OF 'redresslaw04.WalErrors'. -/
def walErrorsCard : Claim7 := { stood := { row := walErrorsRow, standIns := [], harness := (true, "13d47d7c3c5517ad4345e6e2bce0f9a263130bdfdb80ece8ac14669d67e50369"), looks := true }, kinds := [], alts := [], laidByText := true, laidKinds := [.data, .data, .data, .data, .sentinel, .sentinel, .pinned], laidTests := true, laidLooks := .later }
def WalErrorsCardSaid : Prop := Claim7.holds Tryz.pinned (.plain (OpenSpec.ofChange walErrorsSpec)) walErrorsCard

/-- THE TIED CARD OF 'redresslaw04.WalSynced'. -/
def walSyncedCard : Claim7 := { stood := { row := walSyncedRow, standIns := [], harness := (true, "13d47d7c3c5517ad4345e6e2bce0f9a263130bdfdb80ece8ac14669d67e50369"), looks := true }, kinds := [], alts := [], laidByText := true, laidKinds := [.data, .data, .data, .data, .sentinel, .sentinel, .pinned], laidTests := true, laidLooks := .later }
def WalSyncedCardSaid : Prop := Claim7.holds Tryz.pinned (.plain (OpenSpec.ofChange walSyncedSpec)) walSyncedCard

/-- THE TIED CARD OF 'redresslaw04.WalApart'. -/
def walApartCard : Claim7 := { stood := { row := walApartRow, standIns := [], harness := (true, "13d47d7c3c5517ad4345e6e2bce0f9a263130bdfdb80ece8ac14669d67e50369"), looks := true }, kinds := [], alts := [], laidByText := true, laidKinds := [.data, .data, .data, .data, .sentinel, .sentinel, .pinned], laidTests := true, laidLooks := .later }
def WalApartCardSaid : Prop := Claim7.holds Tryz.pinned (.plain (OpenSpec.ofChange walApartSpec)) walApartCard

/-- THE SECOND FORM's CARD OF 'redresslaw04.WalKnown'. -/
def walKnownUptoCard : Claim7 := { stood := { row := walKnownUptoRow, standIns := [], harness := (true, "13d47d7c3c5517ad4345e6e2bce0f9a263130bdfdb80ece8ac14669d67e50369"), looks := true }, kinds := [], alts := [], laidByText := true, laidKinds := [.data, .data, .data, .data, .sentinel, .sentinel, .pinned], laidTests := true, laidLooks := .later }
def WalKnownUptoCardSaid : Prop := Claim7.holds Tryz.pinned (.plain (OpenSpec.upto walKnownSpec)) walKnownUptoCard

/-- THE SECOND FORM's CARD OF 'redresslaw04.WalErrors'. -/
def walErrorsUptoCard : Claim7 := { stood := { row := walErrorsUptoRow, standIns := [], harness := (true, "13d47d7c3c5517ad4345e6e2bce0f9a263130bdfdb80ece8ac14669d67e50369"), looks := true }, kinds := [], alts := [], laidByText := true, laidKinds := [.data, .data, .data, .data, .sentinel, .sentinel, .pinned], laidTests := true, laidLooks := .later }
def WalErrorsUptoCardSaid : Prop := Claim7.holds Tryz.pinned (.plain (OpenSpec.upto walErrorsSpec)) walErrorsUptoCard

/-- THE SECOND FORM's CARD OF 'redresslaw04.WalSynced'. -/
def walSyncedUptoCard : Claim7 := { stood := { row := walSyncedUptoRow, standIns := [], harness := (true, "13d47d7c3c5517ad4345e6e2bce0f9a263130bdfdb80ece8ac14669d67e50369"), looks := true }, kinds := [], alts := [], laidByText := true, laidKinds := [.data, .data, .data, .data, .sentinel, .sentinel, .pinned], laidTests := true, laidLooks := .later }
def WalSyncedUptoCardSaid : Prop := Claim7.holds Tryz.pinned (.plain (OpenSpec.upto walSyncedSpec)) walSyncedUptoCard

/-- THE SECOND FORM's CARD OF 'redresslaw04.WalApart'. -/
def walApartUptoCard : Claim7 := { stood := { row := walApartUptoRow, standIns := [], harness := (true, "13d47d7c3c5517ad4345e6e2bce0f9a263130bdfdb80ece8ac14669d67e50369"), looks := true }, kinds := [], alts := [], laidByText := true, laidKinds := [.data, .data, .data, .data, .sentinel, .sentinel, .pinned], laidTests := true, laidLooks := .later }
def WalApartUptoCardSaid : Prop := Claim7.holds Tryz.pinned (.plain (OpenSpec.upto walApartSpec)) walApartUptoCard
end Rows
end Go.Proofs.YtoecbkndbcblpaaGreatDoor
