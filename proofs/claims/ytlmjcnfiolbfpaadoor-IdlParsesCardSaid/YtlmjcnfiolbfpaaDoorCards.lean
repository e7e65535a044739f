/-
  DERIVED. GIVEN WITH THE SEED: THE CARDS: each row of YtlmjcnfiolbfpaaDoorRows.lean that lists a variable, with what it lists TIED to the program's text (the seventh form; the later family's looks); each row that meets fmt, with fmt's text TOLD by the authors' own Lean function (tested against real Go, not proved from fmt's source: count such statements apart). THE CARD IS WHAT COUNTS. Prove the row's statement (the work); the ties are given (YtlmjcnfiolbfpaaDoorTie.lean); close each card by the builder's one call (the guide's Derived/Test/ToyasCard.lean, 'card_holds'). Laid BY PROGRAM, IN A SANDBOX (cutbox-door.mjs). By AI agents, Wed Nov 11 2026. No macro, syntax, notation, axiom, sorry.
-/
import Derived.Test.YtlmjcnfiolbfpaaDoorRows
import GoSem.ClaimSeven
namespace Go.Proofs.YtlmjcnfiolbfpaaDoor
namespace Rows

/-- THE TIED CARD OF 'redresslaw12.IdlParses'. -/
def idlParsesCard : Claim7 := { stood := { row := idlParsesRow, standIns := [], harness := (true, "329ce447c60bbb9e479495374d3d992b16cccae63d659fd222b99b8eb3cd1ddf"), looks := false }, kinds := [], alts := [], laidByText := true, laidKinds := [.data], laidTests := true, laidLooks := .later }
def IdlParsesCardSaid : Prop := Claim7.holds Tryd.pinned (.plain (OpenSpec.ofChange idlParsesSpec)) idlParsesCard

/-- THE TIED CARD OF 'redresslaw12.IdlTypes'. -/
def idlTypesCard : Claim7 := { stood := { row := idlTypesRow, standIns := [], harness := (true, "329ce447c60bbb9e479495374d3d992b16cccae63d659fd222b99b8eb3cd1ddf"), looks := false }, kinds := [], alts := [], laidByText := true, laidKinds := [.data], laidTests := true, laidLooks := .later }
def IdlTypesCardSaid : Prop := Claim7.holds Tryd.pinned (.plain (OpenSpec.ofChange idlTypesSpec)) idlTypesCard

/-- THE TIED CARD OF 'redresslaw12.IdlBlanks'. -/
def idlBlanksCard : Claim7 := { stood := { row := idlBlanksRow, standIns := [], harness := (true, "329ce447c60bbb9e479495374d3d992b16cccae63d659fd222b99b8eb3cd1ddf"), looks := false }, kinds := [], alts := [], laidByText := true, laidKinds := [.data], laidTests := true, laidLooks := .later }
def IdlBlanksCardSaid : Prop := Claim7.holds Tryd.pinned (.plain (OpenSpec.ofChange idlBlanksSpec)) idlBlanksCard

/-- THE TIED CARD OF 'redresslaw12.IdlAhead'. -/
def idlAheadCard : Claim7 := { stood := { row := idlAheadRow, standIns := [], harness := (true, "329ce447c60bbb9e479495374d3d992b16cccae63d659fd222b99b8eb3cd1ddf"), looks := false }, kinds := [], alts := [], laidByText := true, laidKinds := [.data], laidTests := true, laidLooks := .later }
def IdlAheadCardSaid : Prop := Claim7.holds Tryd.pinned (.plain (OpenSpec.ofChange idlAheadSpec)) idlAheadCard

/-- THE TIED CARD OF 'redresslaw12.IdlMore'. -/
def idlMoreCard : Claim7 := { stood := { row := idlMoreRow, standIns := [], harness := (true, "329ce447c60bbb9e479495374d3d992b16cccae63d659fd222b99b8eb3cd1ddf"), looks := false }, kinds := [], alts := [], laidByText := true, laidKinds := [.data], laidTests := true, laidLooks := .later }
def IdlMoreCardSaid : Prop := Claim7.holds Tryd.pinned (.plain (OpenSpec.ofChange idlMoreSpec)) idlMoreCard

/-- THE SECOND FORM's CARD OF 'redresslaw12.IdlParses'. -/
def idlParsesUptoCard : Claim7 := { stood := { row := idlParsesUptoRow, standIns := [], harness := (true, "329ce447c60bbb9e479495374d3d992b16cccae63d659fd222b99b8eb3cd1ddf"), looks := false }, kinds := [], alts := [], laidByText := true, laidKinds := [.data], laidTests := true, laidLooks := .later }
def IdlParsesUptoCardSaid : Prop := Claim7.holds Tryd.pinned (.plain (OpenSpec.upto idlParsesSpec)) idlParsesUptoCard

/-- THE SECOND FORM's CARD OF 'redresslaw12.IdlTypes'. -/
def idlTypesUptoCard : Claim7 := { stood := { row := idlTypesUptoRow, standIns := [], harness := (true, "329ce447c60bbb9e479495374d3d992b16cccae63d659fd222b99b8eb3cd1ddf"), looks := false }, kinds := [], alts := [], laidByText := true, laidKinds := [.data], laidTests := true, laidLooks := .later }
def IdlTypesUptoCardSaid : Prop := Claim7.holds Tryd.pinned (.plain (OpenSpec.upto idlTypesSpec)) idlTypesUptoCard

/-- THE SECOND FORM's CARD OF 'redresslaw12.IdlBlanks'. -/
def idlBlanksUptoCard : Claim7 := { stood := { row := idlBlanksUptoRow, standIns := [], harness := (true, "329ce447c60bbb9e479495374d3d992b16cccae63d659fd222b99b8eb3cd1ddf"), looks := false }, kinds := [], alts := [], laidByText := true, laidKinds := [.data], laidTests := true, laidLooks := .later }
def IdlBlanksUptoCardSaid : Prop := Claim7.holds Tryd.pinned (.plain (OpenSpec.upto idlBlanksSpec)) idlBlanksUptoCard

/-- THE SECOND FORM's CARD OF 'redresslaw12.IdlAhead'. -/
def idlAheadUptoCard : Claim7 := { stood := { row := idlAheadUptoRow, standIns := [], harness := (true, "329ce447c60bbb9e479495374d3d992b16cccae63d659fd222b99b8eb3cd1ddf"), looks := false }, kinds := [], alts := [], laidByText := true, laidKinds := [.data], laidTests := true, laidLooks := .later }
def IdlAheadUptoCardSaid : Prop := Claim7.holds Tryd.pinned (.plain (OpenSpec.upto idlAheadSpec)) idlAheadUptoCard

/-- THE SECOND FORM's CARD OF 'redresslaw12.IdlMore'. -/
def idlMoreUptoCard : Claim7 := { stood := { row := idlMoreUptoRow, standIns := [], harness := (true, "329ce447c60bbb9e479495374d3d992b16cccae63d659fd222b99b8eb3cd1ddf"), looks := false }, kinds := [], alts := [], laidByText := true, laidKinds := [.data], laidTests := true, laidLooks := .later }
def IdlMoreUptoCardSaid : Prop := Claim7.holds Tryd.pinned (.plain (OpenSpec.upto idlMoreSpec)) idlMoreUptoCard
end Rows
end Go.Proofs.YtlmjcnfiolbfpaaDoor
