/-
  DERIVED. GIVEN WITH THE SEED: THE CARDS: each row of YtamkkdmbefekmaaGreatDoorRows.lean that lists a variable, with what it lists TIED to the program's text (the seventh form; the later family's looks); each row that meets fmt, with fmt's text TOLD by the authors' own Lean function (tested against real Go, not proved from fmt's source: count such statements apart). THE CARD IS WHAT COUNTS. Prove the row's statement (the work); the ties are given (YtamkkdmbefekmaaGreatDoorTie.lean); close each card by the builder's one call (the guide's Derived/Test/ToyasCard.lean, 'card_holds'). Laid BY PROGRAM, IN A SANDBOX (cutbox-door.mjs). By AI agents, Wed Nov 11 2026. No macro, syntax, notation, axiom, sorry.
-/
import Derived.Test.YtamkkdmbefekmaaGreatDoorRows
import GoSem.ClaimSeven
namespace Go.Proofs.YtamkkdmbefekmaaGreatDoor
namespace Rows

/-- THE TIED CARD OF 'redresslaw13.CheckTells'. -/
def checkTellsCard : Claim7 := { stood := { row := checkTellsRow, standIns := [], harness := (true, "6166065e1f57778e031d01a24fcf289c1831225ba9f12ec55ae818f9d3a1a117"), looks := false }, kinds := [], alts := [], laidByText := true, laidKinds := [.data, .data, .data, .data], laidTests := true, laidLooks := .later }
def CheckTellsCardSaid : Prop := Claim7.holds Tryz.pinned (.plain (OpenSpec.ofChange checkTellsSpec)) checkTellsCard

/-- THE TIED CARD OF 'redresslaw13.CheckUndone'. -/
def checkUndoneCard : Claim7 := { stood := { row := checkUndoneRow, standIns := [], harness := (true, "6166065e1f57778e031d01a24fcf289c1831225ba9f12ec55ae818f9d3a1a117"), looks := false }, kinds := [], alts := [], laidByText := true, laidKinds := [.data, .data, .data, .data], laidTests := true, laidLooks := .later }
def CheckUndoneCardSaid : Prop := Claim7.holds Tryz.pinned (.plain (OpenSpec.ofChange checkUndoneSpec)) checkUndoneCard

/-- THE TIED CARD OF 'redresslaw13.CheckOwn'. -/
def checkOwnCard : Claim7 := { stood := { row := checkOwnRow, standIns := [], harness := (true, "6166065e1f57778e031d01a24fcf289c1831225ba9f12ec55ae818f9d3a1a117"), looks := false }, kinds := [], alts := [], laidByText := true, laidKinds := [.data, .data, .data, .data], laidTests := true, laidLooks := .later }
def CheckOwnCardSaid : Prop := Claim7.holds Tryz.pinned (.plain (OpenSpec.ofChange checkOwnSpec)) checkOwnCard

/-- THE TIED CARD OF 'redresslaw14.PrintsTexts'. -/
def printsTextsCard : Claim7 := { stood := { row := printsTextsRow, standIns := [], harness := (true, "6166065e1f57778e031d01a24fcf289c1831225ba9f12ec55ae818f9d3a1a117"), looks := false }, kinds := [], alts := [], laidByText := true, laidKinds := [.data, .data, .data, .data], laidTests := true, laidLooks := .later }
def PrintsTextsCardSaid : Prop := Claim7.holds Tryz.pinned (.plain (OpenSpec.ofChange printsTextsSpec)) printsTextsCard

/-- THE TIED CARD OF 'redresslaw14.PrintsTypes'. -/
def printsTypesCard : Claim7 := { stood := { row := printsTypesRow, standIns := [], harness := (true, "6166065e1f57778e031d01a24fcf289c1831225ba9f12ec55ae818f9d3a1a117"), looks := false }, kinds := [], alts := [], laidByText := true, laidKinds := [.data, .data, .data, .data], laidTests := true, laidLooks := .later }
def PrintsTypesCardSaid : Prop := Claim7.holds Tryz.pinned (.plain (OpenSpec.ofChange printsTypesSpec)) printsTypesCard

/-- THE TIED CARD OF 'redresslaw14.PrintsBack'. -/
def printsBackCard : Claim7 := { stood := { row := printsBackRow, standIns := [], harness := (true, "6166065e1f57778e031d01a24fcf289c1831225ba9f12ec55ae818f9d3a1a117"), looks := false }, kinds := [], alts := [], laidByText := true, laidKinds := [.data, .data, .data, .data], laidTests := true, laidLooks := .later }
def PrintsBackCardSaid : Prop := Claim7.holds Tryz.pinned (.plain (OpenSpec.ofChange printsBackSpec)) printsBackCard

/-- THE TIED CARD OF 'redresslaw14.PrintsAlike'. -/
def printsAlikeCard : Claim7 := { stood := { row := printsAlikeRow, standIns := [], harness := (true, "6166065e1f57778e031d01a24fcf289c1831225ba9f12ec55ae818f9d3a1a117"), looks := false }, kinds := [], alts := [], laidByText := true, laidKinds := [.data, .data, .data, .data], laidTests := true, laidLooks := .later }
def PrintsAlikeCardSaid : Prop := Claim7.holds Tryz.pinned (.plain (OpenSpec.ofChange printsAlikeSpec)) printsAlikeCard

/-- THE TIED CARD OF 'redresslaw14.PrintsRead'. -/
def printsReadCard : Claim7 := { stood := { row := printsReadRow, standIns := [], harness := (true, "6166065e1f57778e031d01a24fcf289c1831225ba9f12ec55ae818f9d3a1a117"), looks := false }, kinds := [], alts := [], laidByText := true, laidKinds := [.data, .data, .data, .data], laidTests := true, laidLooks := .later }
def PrintsReadCardSaid : Prop := Claim7.holds Tryz.pinned (.plain (OpenSpec.ofChange printsReadSpec)) printsReadCard

/-- THE SECOND FORM's CARD OF 'redresslaw13.CheckTells'. -/
def checkTellsUptoCard : Claim7 := { stood := { row := checkTellsUptoRow, standIns := [], harness := (true, "6166065e1f57778e031d01a24fcf289c1831225ba9f12ec55ae818f9d3a1a117"), looks := false }, kinds := [], alts := [], laidByText := true, laidKinds := [.data, .data, .data, .data], laidTests := true, laidLooks := .later }
def CheckTellsUptoCardSaid : Prop := Claim7.holds Tryz.pinned (.plain (OpenSpec.upto checkTellsSpec)) checkTellsUptoCard

/-- THE SECOND FORM's CARD OF 'redresslaw13.CheckUndone'. -/
def checkUndoneUptoCard : Claim7 := { stood := { row := checkUndoneUptoRow, standIns := [], harness := (true, "6166065e1f57778e031d01a24fcf289c1831225ba9f12ec55ae818f9d3a1a117"), looks := false }, kinds := [], alts := [], laidByText := true, laidKinds := [.data, .data, .data, .data], laidTests := true, laidLooks := .later }
def CheckUndoneUptoCardSaid : Prop := Claim7.holds Tryz.pinned (.plain (OpenSpec.upto checkUndoneSpec)) checkUndoneUptoCard

/-- THE SECOND FORM's CARD OF 'redresslaw13.CheckOwn'. -/
def checkOwnUptoCard : Claim7 := { stood := { row := checkOwnUptoRow, standIns := [], harness := (true, "6166065e1f57778e031d01a24fcf289c1831225ba9f12ec55ae818f9d3a1a117"), looks := false }, kinds := [], alts := [], laidByText := true, laidKinds := [.data, .data, .data, .data], laidTests := true, laidLooks := .later }
def CheckOwnUptoCardSaid : Prop := Claim7.holds Tryz.pinned (.plain (OpenSpec.upto checkOwnSpec)) checkOwnUptoCard

/-- THE SECOND FORM's CARD OF 'redresslaw14.PrintsTexts'. -/
def printsTextsUptoCard : Claim7 := { stood := { row := printsTextsUptoRow, standIns := [], harness := (true, "6166065e1f57778e031d01a24fcf289c1831225ba9f12ec55ae818f9d3a1a117"), looks := false }, kinds := [], alts := [], laidByText := true, laidKinds := [.data, .data, .data, .data], laidTests := true, laidLooks := .later }
def PrintsTextsUptoCardSaid : Prop := Claim7.holds Tryz.pinned (.plain (OpenSpec.upto printsTextsSpec)) printsTextsUptoCard

/-- THE SECOND FORM's CARD OF 'redresslaw14.PrintsTypes'. -/
def printsTypesUptoCard : Claim7 := { stood := { row := printsTypesUptoRow, standIns := [], harness := (true, "6166065e1f57778e031d01a24fcf289c1831225ba9f12ec55ae818f9d3a1a117"), looks := false }, kinds := [], alts := [], laidByText := true, laidKinds := [.data, .data, .data, .data], laidTests := true, laidLooks := .later }
def PrintsTypesUptoCardSaid : Prop := Claim7.holds Tryz.pinned (.plain (OpenSpec.upto printsTypesSpec)) printsTypesUptoCard

/-- THE SECOND FORM's CARD OF 'redresslaw14.PrintsBack'. -/
def printsBackUptoCard : Claim7 := { stood := { row := printsBackUptoRow, standIns := [], harness := (true, "6166065e1f57778e031d01a24fcf289c1831225ba9f12ec55ae818f9d3a1a117"), looks := false }, kinds := [], alts := [], laidByText := true, laidKinds := [.data, .data, .data, .data], laidTests := true, laidLooks := .later }
def PrintsBackUptoCardSaid : Prop := Claim7.holds Tryz.pinned (.plain (OpenSpec.upto printsBackSpec)) printsBackUptoCard

/-- THE SECOND FORM's CARD OF 'redresslaw14.PrintsAlike'. -/
def printsAlikeUptoCard : Claim7 := { stood := { row := printsAlikeUptoRow, standIns := [], harness := (true, "6166065e1f57778e031d01a24fcf289c1831225ba9f12ec55ae818f9d3a1a117"), looks := false }, kinds := [], alts := [], laidByText := true, laidKinds := [.data, .data, .data, .data], laidTests := true, laidLooks := .later }
def PrintsAlikeUptoCardSaid : Prop := Claim7.holds Tryz.pinned (.plain (OpenSpec.upto printsAlikeSpec)) printsAlikeUptoCard

/-- THE SECOND FORM's CARD OF 'redresslaw14.PrintsRead'. -/
def printsReadUptoCard : Claim7 := { stood := { row := printsReadUptoRow, standIns := [], harness := (true, "6166065e1f57778e031d01a24fcf289c1831225ba9f12ec55ae818f9d3a1a117"), looks := false }, kinds := [], alts := [], laidByText := true, laidKinds := [.data, .data, .data, .data], laidTests := true, laidLooks := .later }
def PrintsReadUptoCardSaid : Prop := Claim7.holds Tryz.pinned (.plain (OpenSpec.upto printsReadSpec)) printsReadUptoCard
end Rows
end Go.Proofs.YtamkkdmbefekmaaGreatDoor
