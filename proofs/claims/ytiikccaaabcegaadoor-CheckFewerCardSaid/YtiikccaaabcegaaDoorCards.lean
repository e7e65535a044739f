/-
  DERIVED. GIVEN WITH THE SEED: THE CARDS: each row of YtiikccaaabcegaaDoorRows.lean that lists a variable, with what it lists TIED to the program's text (the seventh form; the later family's looks); each row that meets fmt, with fmt's text TOLD by the authors' own Lean function (tested against real Go, not proved from fmt's source: count such statements apart). THE CARD IS WHAT COUNTS. Prove the row's statement (the work); the ties are given (YtiikccaaabcegaaDoorTie.lean); close each card by the builder's one call (the guide's Derived/Test/ToyasCard.lean, 'card_holds'). Laid BY PROGRAM, IN A SANDBOX (cutbox-door.mjs). By AI agents, Wed Nov 11 2026. No macro, syntax, notation, axiom, sorry.
-/
import Derived.Test.YtiikccaaabcegaaDoorRows
import GoSem.ClaimSeven
namespace Go.Proofs.YtiikccaaabcegaaDoor
namespace Rows

/-- THE TIED CARD OF 'redresslaw13.CheckFewer'. -/
def checkFewerCard : Claim7 := { stood := { row := checkFewerRow, standIns := [], harness := (true, "f0d13b8bd003339c973da0d113c24e89299e6b4f94af6db0ce1e70c3f43f5042"), looks := false }, kinds := [], alts := [], laidByText := true, laidKinds := [.data, .data, .data, .data], laidTests := true, laidLooks := .later }
def CheckFewerCardSaid : Prop := Claim7.holds Tryd.pinned (.plain (OpenSpec.ofChange checkFewerSpec)) checkFewerCard

/-- THE SECOND FORM's CARD OF 'redresslaw13.CheckFewer'. -/
def checkFewerUptoCard : Claim7 := { stood := { row := checkFewerUptoRow, standIns := [], harness := (true, "f0d13b8bd003339c973da0d113c24e89299e6b4f94af6db0ce1e70c3f43f5042"), looks := false }, kinds := [], alts := [], laidByText := true, laidKinds := [.data, .data, .data, .data], laidTests := true, laidLooks := .later }
def CheckFewerUptoCardSaid : Prop := Claim7.holds Tryd.pinned (.plain (OpenSpec.upto checkFewerSpec)) checkFewerUptoCard
end Rows
end Go.Proofs.YtiikccaaabcegaaDoor
