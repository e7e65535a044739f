/-
  DERIVED. GIVEN WITH THE SEED: THE CARDS: each row of YtiikccaaabcegaaGreatDoorRows.lean that lists a variable, with what it lists TIED to the program's text (the seventh form; the later family's looks); each row that meets fmt, with fmt's text TOLD by the authors' own Lean function (tested against real Go, not proved from fmt's source: count such statements apart). THE CARD IS WHAT COUNTS. Prove the row's statement (the work); the ties are given (YtiikccaaabcegaaGreatDoorTie.lean); close each card by the builder's one call (the guide's Derived/Test/ToyasCard.lean, 'card_holds'). Laid BY PROGRAM, IN A SANDBOX (cutbox-door.mjs). By AI agents, Wed Nov 11 2026. No macro, syntax, notation, axiom, sorry.
-/
import Derived.Test.YtiikccaaabcegaaGreatDoorRows
import GoSem.ClaimSeven
namespace Go.Proofs.YtiikccaaabcegaaGreatDoor
namespace Rows

/-- THE TIED CARD OF 'redresslaw13.CheckTells'. -/
def checkTellsCard : Claim7 := { stood := { row := checkTellsRow, standIns := [], harness := (true, "122e0ea2b3d5a9c9bd0c48472a4975570a42e664c584daed2c1343da9e949fbc"), looks := false }, kinds := [], alts := [], laidByText := true, laidKinds := [.data, .data, .data, .data], laidTests := true, laidLooks := .later }
def CheckTellsCardSaid : Prop := Claim7.holds Tryz.pinned (.plain (OpenSpec.ofChange checkTellsSpec)) checkTellsCard

/-- THE TIED CARD OF 'redresslaw13.CheckFinds'. -/
def checkFindsCard : Claim7 := { stood := { row := checkFindsRow, standIns := [], harness := (true, "122e0ea2b3d5a9c9bd0c48472a4975570a42e664c584daed2c1343da9e949fbc"), looks := false }, kinds := [], alts := [], laidByText := true, laidKinds := [.data, .data, .data, .data], laidTests := true, laidLooks := .later }
def CheckFindsCardSaid : Prop := Claim7.holds Tryz.pinned (.plain (OpenSpec.ofChange checkFindsSpec)) checkFindsCard

/-- THE TIED CARD OF 'redresslaw13.CheckUndone'. -/
def checkUndoneCard : Claim7 := { stood := { row := checkUndoneRow, standIns := [], harness := (true, "122e0ea2b3d5a9c9bd0c48472a4975570a42e664c584daed2c1343da9e949fbc"), looks := false }, kinds := [], alts := [], laidByText := true, laidKinds := [.data, .data, .data, .data], laidTests := true, laidLooks := .later }
def CheckUndoneCardSaid : Prop := Claim7.holds Tryz.pinned (.plain (OpenSpec.ofChange checkUndoneSpec)) checkUndoneCard

/-- THE TIED CARD OF 'redresslaw13.CheckOwn'. -/
def checkOwnCard : Claim7 := { stood := { row := checkOwnRow, standIns := [], harness := (true, "122e0ea2b3d5a9c9bd0c48472a4975570a42e664c584daed2c1343da9e949fbc"), looks := false }, kinds := [], alts := [], laidByText := true, laidKinds := [.data, .data, .data, .data], laidTests := true, laidLooks := .later }
def CheckOwnCardSaid : Prop := Claim7.holds Tryz.pinned (.plain (OpenSpec.ofChange checkOwnSpec)) checkOwnCard

/-- THE SECOND FORM's CARD OF 'redresslaw13.CheckTells'. -/
def checkTellsUptoCard : Claim7 := { stood := { row := checkTellsUptoRow, standIns := [], harness := (true, "122e0ea2b3d5a9c9bd0c48472a4975570a42e664c584daed2c1343da9e949fbc"), looks := false }, kinds := [], alts := [], laidByText := true, laidKinds := [.data, .data, .data, .data], laidTests := true, laidLooks := .later }
def CheckTellsUptoCardSaid : Prop := Claim7.holds Tryz.pinned (.plain (OpenSpec.upto checkTellsSpec)) checkTellsUptoCard

/-- THE SECOND FORM's CARD OF 'redresslaw13.CheckFinds'. -/
def checkFindsUptoCard : Claim7 := { stood := { row := checkFindsUptoRow, standIns := [], harness := (true, "122e0ea2b3d5a9c9bd0c48472a4975570a42e664c584daed2c1343da9e949fbc"), looks := false }, kinds := [], alts := [], laidByText := true, laidKinds := [.data, .data, .data, .data], laidTests := true, laidLooks := .later }
def CheckFindsUptoCardSaid : Prop := Claim7.holds Tryz.pinned (.plain (OpenSpec.upto checkFindsSpec)) checkFindsUptoCard

/-- THE SECOND FORM's CARD OF 'redresslaw13.CheckUndone'. -/
def checkUndoneUptoCard : Claim7 := { stood := { row := checkUndoneUptoRow, standIns := [], harness := (true, "122e0ea2b3d5a9c9bd0c48472a4975570a42e664c584daed2c1343da9e949fbc"), looks := false }, kinds := [], alts := [], laidByText := true, laidKinds := [.data, .data, .data, .data], laidTests := true, laidLooks := .later }
def CheckUndoneUptoCardSaid : Prop := Claim7.holds Tryz.pinned (.plain (OpenSpec.upto checkUndoneSpec)) checkUndoneUptoCard

/-- THE SECOND FORM's CARD OF 'redresslaw13.CheckOwn'. -/
def checkOwnUptoCard : Claim7 := { stood := { row := checkOwnUptoRow, standIns := [], harness := (true, "122e0ea2b3d5a9c9bd0c48472a4975570a42e664c584daed2c1343da9e949fbc"), looks := false }, kinds := [], alts := [], laidByText := true, laidKinds := [.data, .data, .data, .data], laidTests := true, laidLooks := .later }
def CheckOwnUptoCardSaid : Prop := Claim7.holds Tryz.pinned (.plain (OpenSpec.upto checkOwnSpec)) checkOwnUptoCard
end Rows
end Go.Proofs.YtiikccaaabcegaaGreatDoor
