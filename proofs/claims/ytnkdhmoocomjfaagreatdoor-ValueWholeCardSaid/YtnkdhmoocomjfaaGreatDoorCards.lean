/-
  DERIVED. GIVEN WITH THE SEED: THE CARDS: each row of YtnkdhmoocomjfaaGreatDoorRows.lean that lists a variable, with what it lists TIED to the program's text (the seventh form; the later family's looks); each row that meets fmt, with fmt's text TOLD by the authors' own Lean function (tested against real Go, not proved from fmt's source: count such statements apart). THE CARD IS WHAT COUNTS. Prove the row's statement (the work); the ties are given (YtnkdhmoocomjfaaGreatDoorTie.lean); close each card by the builder's one call (the guide's Derived/Test/ToyasCard.lean, 'card_holds'). Laid BY PROGRAM, IN A SANDBOX (cutbox-door.mjs). By AI agents, Wed Nov 11 2026. No macro, syntax, notation, axiom, sorry.
-/
import Derived.Test.YtnkdhmoocomjfaaGreatDoorRows
import GoSem.ClaimSeven
namespace Go.Proofs.YtnkdhmoocomjfaaGreatDoor
namespace Rows

/-- THE TIED CARD OF 'redresslaw13.CheckTells'. -/
def checkTellsCard : Claim7 := { stood := { row := checkTellsRow, standIns := [], harness := (true, "005abde4eb816dd45b11db2a9aa016f0836df14e789f08e5f8612858c6ae6fa2"), looks := false }, kinds := [], alts := [], laidByText := true, laidKinds := [.data, .data, .data, .data], laidTests := true, laidLooks := .later }
def CheckTellsCardSaid : Prop := Claim7.holds Tryz.pinned (.plain (OpenSpec.ofChange checkTellsSpec)) checkTellsCard

/-- THE TIED CARD OF 'redresslaw13.CheckOwn'. -/
def checkOwnCard : Claim7 := { stood := { row := checkOwnRow, standIns := [], harness := (true, "005abde4eb816dd45b11db2a9aa016f0836df14e789f08e5f8612858c6ae6fa2"), looks := false }, kinds := [], alts := [], laidByText := true, laidKinds := [.data, .data, .data, .data], laidTests := true, laidLooks := .later }
def CheckOwnCardSaid : Prop := Claim7.holds Tryz.pinned (.plain (OpenSpec.ofChange checkOwnSpec)) checkOwnCard

/-- THE TIED CARD OF 'redresslaw14.PrintsTexts'. -/
def printsTextsCard : Claim7 := { stood := { row := printsTextsRow, standIns := [], harness := (true, "005abde4eb816dd45b11db2a9aa016f0836df14e789f08e5f8612858c6ae6fa2"), looks := false }, kinds := [], alts := [], laidByText := true, laidKinds := [.data, .data, .data, .data], laidTests := true, laidLooks := .later }
def PrintsTextsCardSaid : Prop := Claim7.holds Tryz.pinned (.plain (OpenSpec.ofChange printsTextsSpec)) printsTextsCard

/-- THE TIED CARD OF 'redresslaw15.ValueFits'. -/
def valueFitsCard : Claim7 := { stood := { row := valueFitsRow, standIns := [], harness := (true, "005abde4eb816dd45b11db2a9aa016f0836df14e789f08e5f8612858c6ae6fa2"), looks := false }, kinds := [], alts := [], laidByText := true, laidKinds := [.data, .data, .data, .data], laidTests := true, laidLooks := .later }
def ValueFitsCardSaid : Prop := Claim7.holds Tryz.pinned (.plain (OpenSpec.ofChange valueFitsSpec)) valueFitsCard

/-- THE TIED CARD OF 'redresslaw15.ValueEnds'. -/
def valueEndsCard : Claim7 := { stood := { row := valueEndsRow, standIns := [], harness := (true, "005abde4eb816dd45b11db2a9aa016f0836df14e789f08e5f8612858c6ae6fa2"), looks := false }, kinds := [], alts := [], laidByText := true, laidKinds := [.data, .data, .data, .data], laidTests := true, laidLooks := .later }
def ValueEndsCardSaid : Prop := Claim7.holds Tryz.pinned (.plain (OpenSpec.ofChange valueEndsSpec)) valueEndsCard

/-- THE TIED CARD OF 'redresslaw15.ValueLeasts'. -/
def valueLeastsCard : Claim7 := { stood := { row := valueLeastsRow, standIns := [], harness := (true, "005abde4eb816dd45b11db2a9aa016f0836df14e789f08e5f8612858c6ae6fa2"), looks := false }, kinds := [], alts := [], laidByText := true, laidKinds := [.data, .data, .data, .data], laidTests := true, laidLooks := .later }
def ValueLeastsCardSaid : Prop := Claim7.holds Tryz.pinned (.plain (OpenSpec.ofChange valueLeastsSpec)) valueLeastsCard

/-- THE TIED CARD OF 'redresslaw15.ValueFields'. -/
def valueFieldsCard : Claim7 := { stood := { row := valueFieldsRow, standIns := [], harness := (true, "005abde4eb816dd45b11db2a9aa016f0836df14e789f08e5f8612858c6ae6fa2"), looks := false }, kinds := [], alts := [], laidByText := true, laidKinds := [.data, .data, .data, .data], laidTests := true, laidLooks := .later }
def ValueFieldsCardSaid : Prop := Claim7.holds Tryz.pinned (.plain (OpenSpec.ofChange valueFieldsSpec)) valueFieldsCard

/-- THE TIED CARD OF 'redresslaw15.ValueLeast'. -/
def valueLeastCard : Claim7 := { stood := { row := valueLeastRow, standIns := [], harness := (true, "005abde4eb816dd45b11db2a9aa016f0836df14e789f08e5f8612858c6ae6fa2"), looks := false }, kinds := [], alts := [], laidByText := true, laidKinds := [.data, .data, .data, .data], laidTests := true, laidLooks := .later }
def ValueLeastCardSaid : Prop := Claim7.holds Tryz.pinned (.plain (OpenSpec.ofChange valueLeastSpec)) valueLeastCard

/-- THE TIED CARD OF 'redresslaw15.ValueWhole'. -/
def valueWholeCard : Claim7 := { stood := { row := valueWholeRow, standIns := [], harness := (true, "005abde4eb816dd45b11db2a9aa016f0836df14e789f08e5f8612858c6ae6fa2"), looks := false }, kinds := [], alts := [], laidByText := true, laidKinds := [.data, .data, .data, .data], laidTests := true, laidLooks := .later }
def ValueWholeCardSaid : Prop := Claim7.holds Tryz.pinned (.plain (OpenSpec.ofChange valueWholeSpec)) valueWholeCard

/-- THE TIED CARD OF 'redresslaw15.ValueWraps'. -/
def valueWrapsCard : Claim7 := { stood := { row := valueWrapsRow, standIns := [], harness := (true, "005abde4eb816dd45b11db2a9aa016f0836df14e789f08e5f8612858c6ae6fa2"), looks := false }, kinds := [], alts := [], laidByText := true, laidKinds := [.data, .data, .data, .data], laidTests := true, laidLooks := .later }
def ValueWrapsCardSaid : Prop := Claim7.holds Tryz.pinned (.plain (OpenSpec.ofChange valueWrapsSpec)) valueWrapsCard

/-- THE TIED CARD OF 'redresslaw15.ValueOwn'. -/
def valueOwnCard : Claim7 := { stood := { row := valueOwnRow, standIns := [], harness := (true, "005abde4eb816dd45b11db2a9aa016f0836df14e789f08e5f8612858c6ae6fa2"), looks := false }, kinds := [], alts := [], laidByText := true, laidKinds := [.data, .data, .data, .data], laidTests := true, laidLooks := .later }
def ValueOwnCardSaid : Prop := Claim7.holds Tryz.pinned (.plain (OpenSpec.ofChange valueOwnSpec)) valueOwnCard

/-- THE SECOND FORM's CARD OF 'redresslaw13.CheckTells'. -/
def checkTellsUptoCard : Claim7 := { stood := { row := checkTellsUptoRow, standIns := [], harness := (true, "005abde4eb816dd45b11db2a9aa016f0836df14e789f08e5f8612858c6ae6fa2"), looks := false }, kinds := [], alts := [], laidByText := true, laidKinds := [.data, .data, .data, .data], laidTests := true, laidLooks := .later }
def CheckTellsUptoCardSaid : Prop := Claim7.holds Tryz.pinned (.plain (OpenSpec.upto checkTellsSpec)) checkTellsUptoCard

/-- THE SECOND FORM's CARD OF 'redresslaw13.CheckOwn'. -/
def checkOwnUptoCard : Claim7 := { stood := { row := checkOwnUptoRow, standIns := [], harness := (true, "005abde4eb816dd45b11db2a9aa016f0836df14e789f08e5f8612858c6ae6fa2"), looks := false }, kinds := [], alts := [], laidByText := true, laidKinds := [.data, .data, .data, .data], laidTests := true, laidLooks := .later }
def CheckOwnUptoCardSaid : Prop := Claim7.holds Tryz.pinned (.plain (OpenSpec.upto checkOwnSpec)) checkOwnUptoCard

/-- THE SECOND FORM's CARD OF 'redresslaw14.PrintsTexts'. -/
def printsTextsUptoCard : Claim7 := { stood := { row := printsTextsUptoRow, standIns := [], harness := (true, "005abde4eb816dd45b11db2a9aa016f0836df14e789f08e5f8612858c6ae6fa2"), looks := false }, kinds := [], alts := [], laidByText := true, laidKinds := [.data, .data, .data, .data], laidTests := true, laidLooks := .later }
def PrintsTextsUptoCardSaid : Prop := Claim7.holds Tryz.pinned (.plain (OpenSpec.upto printsTextsSpec)) printsTextsUptoCard

/-- THE SECOND FORM's CARD OF 'redresslaw15.ValueFits'. -/
def valueFitsUptoCard : Claim7 := { stood := { row := valueFitsUptoRow, standIns := [], harness := (true, "005abde4eb816dd45b11db2a9aa016f0836df14e789f08e5f8612858c6ae6fa2"), looks := false }, kinds := [], alts := [], laidByText := true, laidKinds := [.data, .data, .data, .data], laidTests := true, laidLooks := .later }
def ValueFitsUptoCardSaid : Prop := Claim7.holds Tryz.pinned (.plain (OpenSpec.upto valueFitsSpec)) valueFitsUptoCard

/-- THE SECOND FORM's CARD OF 'redresslaw15.ValueEnds'. -/
def valueEndsUptoCard : Claim7 := { stood := { row := valueEndsUptoRow, standIns := [], harness := (true, "005abde4eb816dd45b11db2a9aa016f0836df14e789f08e5f8612858c6ae6fa2"), looks := false }, kinds := [], alts := [], laidByText := true, laidKinds := [.data, .data, .data, .data], laidTests := true, laidLooks := .later }
def ValueEndsUptoCardSaid : Prop := Claim7.holds Tryz.pinned (.plain (OpenSpec.upto valueEndsSpec)) valueEndsUptoCard

/-- THE SECOND FORM's CARD OF 'redresslaw15.ValueLeasts'. -/
def valueLeastsUptoCard : Claim7 := { stood := { row := valueLeastsUptoRow, standIns := [], harness := (true, "005abde4eb816dd45b11db2a9aa016f0836df14e789f08e5f8612858c6ae6fa2"), looks := false }, kinds := [], alts := [], laidByText := true, laidKinds := [.data, .data, .data, .data], laidTests := true, laidLooks := .later }
def ValueLeastsUptoCardSaid : Prop := Claim7.holds Tryz.pinned (.plain (OpenSpec.upto valueLeastsSpec)) valueLeastsUptoCard

/-- THE SECOND FORM's CARD OF 'redresslaw15.ValueFields'. -/
def valueFieldsUptoCard : Claim7 := { stood := { row := valueFieldsUptoRow, standIns := [], harness := (true, "005abde4eb816dd45b11db2a9aa016f0836df14e789f08e5f8612858c6ae6fa2"), looks := false }, kinds := [], alts := [], laidByText := true, laidKinds := [.data, .data, .data, .data], laidTests := true, laidLooks := .later }
def ValueFieldsUptoCardSaid : Prop := Claim7.holds Tryz.pinned (.plain (OpenSpec.upto valueFieldsSpec)) valueFieldsUptoCard

/-- THE SECOND FORM's CARD OF 'redresslaw15.ValueLeast'. -/
def valueLeastUptoCard : Claim7 := { stood := { row := valueLeastUptoRow, standIns := [], harness := (true, "005abde4eb816dd45b11db2a9aa016f0836df14e789f08e5f8612858c6ae6fa2"), looks := false }, kinds := [], alts := [], laidByText := true, laidKinds := [.data, .data, .data, .data], laidTests := true, laidLooks := .later }
def ValueLeastUptoCardSaid : Prop := Claim7.holds Tryz.pinned (.plain (OpenSpec.upto valueLeastSpec)) valueLeastUptoCard

/-- THE SECOND FORM's CARD OF 'redresslaw15.ValueWhole'. -/
def valueWholeUptoCard : Claim7 := { stood := { row := valueWholeUptoRow, standIns := [], harness := (true, "005abde4eb816dd45b11db2a9aa016f0836df14e789f08e5f8612858c6ae6fa2"), looks := false }, kinds := [], alts := [], laidByText := true, laidKinds := [.data, .data, .data, .data], laidTests := true, laidLooks := .later }
def ValueWholeUptoCardSaid : Prop := Claim7.holds Tryz.pinned (.plain (OpenSpec.upto valueWholeSpec)) valueWholeUptoCard

/-- THE SECOND FORM's CARD OF 'redresslaw15.ValueWraps'. -/
def valueWrapsUptoCard : Claim7 := { stood := { row := valueWrapsUptoRow, standIns := [], harness := (true, "005abde4eb816dd45b11db2a9aa016f0836df14e789f08e5f8612858c6ae6fa2"), looks := false }, kinds := [], alts := [], laidByText := true, laidKinds := [.data, .data, .data, .data], laidTests := true, laidLooks := .later }
def ValueWrapsUptoCardSaid : Prop := Claim7.holds Tryz.pinned (.plain (OpenSpec.upto valueWrapsSpec)) valueWrapsUptoCard

/-- THE SECOND FORM's CARD OF 'redresslaw15.ValueOwn'. -/
def valueOwnUptoCard : Claim7 := { stood := { row := valueOwnUptoRow, standIns := [], harness := (true, "005abde4eb816dd45b11db2a9aa016f0836df14e789f08e5f8612858c6ae6fa2"), looks := false }, kinds := [], alts := [], laidByText := true, laidKinds := [.data, .data, .data, .data], laidTests := true, laidLooks := .later }
def ValueOwnUptoCardSaid : Prop := Claim7.holds Tryz.pinned (.plain (OpenSpec.upto valueOwnSpec)) valueOwnUptoCard
end Rows
end Go.Proofs.YtnkdhmoocomjfaaGreatDoor
