/-
  NARROWER THAN 'FOR EVERY INPUT', by the rows' own cells (each row's printed sentence says how): IdlParses: laid · IdlTypes: laid · IdlBlanks: laid · IdlAhead: laid · IdlMore: laid.
  DERIVED. THE GIVEN ROWS OF THIS SEAT. 5 by the template 'for every input the law returns true; each argument reads behind the call as it read before'; 0 by the template 'total and deterministic' (their statements: YtlmjcnfiolbfpaaDoorTotals.lean).
  GIVEN WITH THE SEED: the statements are not yours to turn. If you find one false, say at which input.
  Laid BY PROGRAM, IN A SANDBOX (cutbox-rows.mjs): the forced cells as the released guide's own fill.sh prints them over the translation 31cc20cae616ee86… (all of the seat's roots in one cut). By AI agents, Wed Nov 11 2026. No macro, syntax, notation, axiom, sorry.
-/
import Derived.Test.YtlmjcnfiolbfpaaDoorChecked
import GoSem.Claim
import GoSem.ClaimJoined
import GoSem.ClaimMapViews
import Derived.JoinedTies
import Derived.KernelRfl
namespace Go.Proofs.YtlmjcnfiolbfpaaDoor
/- THE CELL 'sum', in the pinned program and in every row, IS THE sha256 OF THE DUMP (.gsa) THAT YtlmjcnfiolbfpaaDoorProg.lean LOADS. Nothing in Lean hashes anything: it is a label: what it is worth is what the hold of that sum in a sandbox is worth. -/
noncomputable def Tryd.pinned : Pinned := { name := "ytlmjcnfiolbfpaadoor", sum := "31cc20cae616ee86a2188e518e97949888a7e0cc9dca05f9b85222e5d6fa1d98", checked := Tryd.checked }
namespace Rows
def none {H : Type} : Left H := { results := [], args := [] }

/- WHAT THE LISTED PACKAGE-LEVEL VARIABLES READ AS WHEN THE CALL BEGINS. Each datum BY PROGRAM (the guide's laid-datum.mjs) off the statement by which the dump's own 'gosem.cut.vars' lays the variable. In a bare row this is a premise. The card (YtlmjcnfiolbfpaaDoorCards.lean) ties it to the program's text. -/
def laid_redress_token_keywords {H : Type} : DataW H := .agg [.lit (.string [109, 111, 100, 117, 108, 101]), .lit (.string [114, 101, 99, 111, 114, 100]), .lit (.string [99, 104, 111, 105, 99, 101]), .lit (.string [115, 101, 114, 118, 105, 99, 101]), .lit (.string [115, 97, 103, 97]), .lit (.string [100, 111]), .lit (.string [97, 116]), .lit (.string [117, 110, 100, 111]), .lit (.string [103, 105, 118, 101]), .lit (.string [116, 97, 107, 101]), .lit (.string [110, 111, 116, 101]), .lit (.string [110, 111, 110, 101]), .lit (.string [98, 111, 111, 108]), .lit (.string [105, 110, 116]), .lit (.string [116, 101, 120, 116]), .lit (.string [108, 105, 115, 116]), .lit (.string [111, 112, 116])]

/-- 'redresslaw12.IdlParses': WHATEVER THE INPUT: true; the input reads as it did. -/
def idlParsesSpec : ChangeSpec := { name := "idlParses", fn := fun _ => fun
  | [d] => { results := [.lit (.bool true)], args := [d] }
  | _ => none }
def idlParsesRow : OpenClaim := { program := "ytlmjcnfiolbfpaadoor", sum := "31cc20cae616ee86a2188e518e97949888a7e0cc9dca05f9b85222e5d6fa1d98", func := "redress/redresslaw12.IdlParses", spec := "idlParses", inPlace := ["internal/bytealg.IndexByteString"], unfollowed := true, recurses := true, named := ["redress/token.keywords"], apart := false, laid := [("redress/token.keywords", laid_redress_token_keywords)] }
def IdlParsesSaid : Prop := idlParsesRow.holds Tryd.pinned (OpenSpec.ofChange idlParsesSpec)

/-- ITS FALSE NEIGHBOUR: 'it returns false'. Refute it at one input. -/
def idlParsesWrong : ChangeSpec := { name := "idlParses", fn := fun _ => fun
  | [d] => { results := [.lit (.bool false)], args := [d] }
  | _ => none }
def IdlParsesWrongFalsely : Prop := idlParsesRow.holds Tryd.pinned (OpenSpec.ofChange idlParsesWrong)

/-- 'redresslaw12.IdlTypes': WHATEVER THE INPUT: true; the input reads as it did. -/
def idlTypesSpec : ChangeSpec := { name := "idlTypes", fn := fun _ => fun
  | [d] => { results := [.lit (.bool true)], args := [d] }
  | _ => none }
def idlTypesRow : OpenClaim := { program := "ytlmjcnfiolbfpaadoor", sum := "31cc20cae616ee86a2188e518e97949888a7e0cc9dca05f9b85222e5d6fa1d98", func := "redress/redresslaw12.IdlTypes", spec := "idlTypes", inPlace := ["internal/bytealg.IndexByteString"], unfollowed := true, recurses := true, named := ["redress/token.keywords"], apart := false, laid := [("redress/token.keywords", laid_redress_token_keywords)] }
def IdlTypesSaid : Prop := idlTypesRow.holds Tryd.pinned (OpenSpec.ofChange idlTypesSpec)

/-- ITS FALSE NEIGHBOUR: 'it returns false'. Refute it at one input. -/
def idlTypesWrong : ChangeSpec := { name := "idlTypes", fn := fun _ => fun
  | [d] => { results := [.lit (.bool false)], args := [d] }
  | _ => none }
def IdlTypesWrongFalsely : Prop := idlTypesRow.holds Tryd.pinned (OpenSpec.ofChange idlTypesWrong)

/-- 'redresslaw12.IdlBlanks': WHATEVER THE INPUT: true; the input reads as it did. -/
def idlBlanksSpec : ChangeSpec := { name := "idlBlanks", fn := fun _ => fun
  | [d] => { results := [.lit (.bool true)], args := [d] }
  | _ => none }
def idlBlanksRow : OpenClaim := { program := "ytlmjcnfiolbfpaadoor", sum := "31cc20cae616ee86a2188e518e97949888a7e0cc9dca05f9b85222e5d6fa1d98", func := "redress/redresslaw12.IdlBlanks", spec := "idlBlanks", inPlace := ["internal/bytealg.IndexByteString"], unfollowed := true, recurses := true, named := ["redress/token.keywords"], apart := false, laid := [("redress/token.keywords", laid_redress_token_keywords)] }
def IdlBlanksSaid : Prop := idlBlanksRow.holds Tryd.pinned (OpenSpec.ofChange idlBlanksSpec)

/-- ITS FALSE NEIGHBOUR: 'it returns false'. Refute it at one input. -/
def idlBlanksWrong : ChangeSpec := { name := "idlBlanks", fn := fun _ => fun
  | [d] => { results := [.lit (.bool false)], args := [d] }
  | _ => none }
def IdlBlanksWrongFalsely : Prop := idlBlanksRow.holds Tryd.pinned (OpenSpec.ofChange idlBlanksWrong)

/-- 'redresslaw12.IdlAhead': WHATEVER THE INPUT: true; the input reads as it did. -/
def idlAheadSpec : ChangeSpec := { name := "idlAhead", fn := fun _ => fun
  | [d1, d2] => { results := [.lit (.bool true)], args := [d1, d2] }
  | _ => none }
def idlAheadRow : OpenClaim := { program := "ytlmjcnfiolbfpaadoor", sum := "31cc20cae616ee86a2188e518e97949888a7e0cc9dca05f9b85222e5d6fa1d98", func := "redress/redresslaw12.IdlAhead", spec := "idlAhead", inPlace := ["internal/bytealg.IndexByteString"], unfollowed := true, recurses := true, named := ["redress/token.keywords"], apart := false, laid := [("redress/token.keywords", laid_redress_token_keywords)] }
def IdlAheadSaid : Prop := idlAheadRow.holds Tryd.pinned (OpenSpec.ofChange idlAheadSpec)

/-- ITS FALSE NEIGHBOUR: 'it returns false'. Refute it at one input. -/
def idlAheadWrong : ChangeSpec := { name := "idlAhead", fn := fun _ => fun
  | [d1, d2] => { results := [.lit (.bool false)], args := [d1, d2] }
  | _ => none }
def IdlAheadWrongFalsely : Prop := idlAheadRow.holds Tryd.pinned (OpenSpec.ofChange idlAheadWrong)

/-- 'redresslaw12.IdlMore': WHATEVER THE INPUT: true; the input reads as it did. -/
def idlMoreSpec : ChangeSpec := { name := "idlMore", fn := fun _ => fun
  | [d1, d2] => { results := [.lit (.bool true)], args := [d1, d2] }
  | _ => none }
def idlMoreRow : OpenClaim := { program := "ytlmjcnfiolbfpaadoor", sum := "31cc20cae616ee86a2188e518e97949888a7e0cc9dca05f9b85222e5d6fa1d98", func := "redress/redresslaw12.IdlMore", spec := "idlMore", inPlace := ["internal/bytealg.IndexByteString"], unfollowed := true, recurses := true, named := ["redress/token.keywords"], apart := false, laid := [("redress/token.keywords", laid_redress_token_keywords)] }
def IdlMoreSaid : Prop := idlMoreRow.holds Tryd.pinned (OpenSpec.ofChange idlMoreSpec)

/-- ITS FALSE NEIGHBOUR: 'it returns false'. Refute it at one input. -/
def idlMoreWrong : ChangeSpec := { name := "idlMore", fn := fun _ => fun
  | [d1, d2] => { results := [.lit (.bool false)], args := [d1, d2] }
  | _ => none }
def IdlMoreWrongFalsely : Prop := idlMoreRow.holds Tryd.pinned (OpenSpec.ofChange idlMoreWrong)

/- THE SECOND FORM. 'bulk': how many values and letters a reading holds, each counted each time it is reached (what is shared counts as often as it is met; a slice's spare places count too). A statement '..UptoSaid' is the law's where the arguments, and the package variables that the reading takes, are together of bulk at most 1048576: NARROWER than '..Said'. Prove '..Said' where nothing that the law and all that it calls make is longer than what came in: it says more and counts as full. Else prove '..UptoSaid'. A law counts once. -/
mutual
def uptoBulk {H : Type} : DataW H → Nat
  | .lit (.string bytes) => bytes.length + 1
  | .lit _ => 1
  | .nil => 1
  | .ptr d => uptoBulk d + 1
  | .slice elems spare => uptoBulkAll elems + uptoBulkAll spare + 1
  | .agg parts => uptoBulkAll parts + 1
  | .iface _ d => uptoBulk d + 1
  | .map entries => uptoBulkEntries entries + 1
  | .held _ => 1
def uptoBulkAll {H : Type} : List (DataW H) → Nat
  | [] => 0
  | d :: r => uptoBulk d + uptoBulkAll r
def uptoBulkEntries {H : Type} : List (Lit × DataW H) → Nat
  | [] => 0
  | x :: r => uptoBulkEntry x + uptoBulkEntries r
def uptoBulkEntry {H : Type} : Lit × DataW H → Nat
  | (.string bytes, d) => bytes.length + uptoBulk d + 1
  | (_, d) => uptoBulk d + 1
 end
def uptoSmall : (H : Type) → List (DataW H) → Bool := fun _ ds => decide (uptoBulkAll ds ≤ 1048576)
def OpenSpec.upto (s : _root_.Go.ChangeSpec) : _root_.Go.OpenSpec := { _root_.Go.OpenSpec.ofChange s with cond := some uptoSmall }

/-- 'redresslaw12.IdlParses', WHERE WHAT IT READS IS OF BULK AT MOST 1048576: true; the input reads as it did. -/
def idlParsesUptoRow : OpenClaim := { program := "ytlmjcnfiolbfpaadoor", sum := "31cc20cae616ee86a2188e518e97949888a7e0cc9dca05f9b85222e5d6fa1d98", func := "redress/redresslaw12.IdlParses", spec := "idlParses", inPlace := ["internal/bytealg.IndexByteString"], unfollowed := true, recurses := true, named := ["redress/token.keywords"], apart := false, laid := [("redress/token.keywords", laid_redress_token_keywords)], narrowed := true }
def IdlParsesUptoSaid : Prop := idlParsesUptoRow.holds Tryd.pinned (OpenSpec.upto idlParsesSpec)

/-- 'redresslaw12.IdlTypes', WHERE WHAT IT READS IS OF BULK AT MOST 1048576: true; the input reads as it did. -/
def idlTypesUptoRow : OpenClaim := { program := "ytlmjcnfiolbfpaadoor", sum := "31cc20cae616ee86a2188e518e97949888a7e0cc9dca05f9b85222e5d6fa1d98", func := "redress/redresslaw12.IdlTypes", spec := "idlTypes", inPlace := ["internal/bytealg.IndexByteString"], unfollowed := true, recurses := true, named := ["redress/token.keywords"], apart := false, laid := [("redress/token.keywords", laid_redress_token_keywords)], narrowed := true }
def IdlTypesUptoSaid : Prop := idlTypesUptoRow.holds Tryd.pinned (OpenSpec.upto idlTypesSpec)

/-- 'redresslaw12.IdlBlanks', WHERE WHAT IT READS IS OF BULK AT MOST 1048576: true; the input reads as it did. -/
def idlBlanksUptoRow : OpenClaim := { program := "ytlmjcnfiolbfpaadoor", sum := "31cc20cae616ee86a2188e518e97949888a7e0cc9dca05f9b85222e5d6fa1d98", func := "redress/redresslaw12.IdlBlanks", spec := "idlBlanks", inPlace := ["internal/bytealg.IndexByteString"], unfollowed := true, recurses := true, named := ["redress/token.keywords"], apart := false, laid := [("redress/token.keywords", laid_redress_token_keywords)], narrowed := true }
def IdlBlanksUptoSaid : Prop := idlBlanksUptoRow.holds Tryd.pinned (OpenSpec.upto idlBlanksSpec)

/-- 'redresslaw12.IdlAhead', WHERE WHAT IT READS IS OF BULK AT MOST 1048576: true; the input reads as it did. -/
def idlAheadUptoRow : OpenClaim := { program := "ytlmjcnfiolbfpaadoor", sum := "31cc20cae616ee86a2188e518e97949888a7e0cc9dca05f9b85222e5d6fa1d98", func := "redress/redresslaw12.IdlAhead", spec := "idlAhead", inPlace := ["internal/bytealg.IndexByteString"], unfollowed := true, recurses := true, named := ["redress/token.keywords"], apart := false, laid := [("redress/token.keywords", laid_redress_token_keywords)], narrowed := true }
def IdlAheadUptoSaid : Prop := idlAheadUptoRow.holds Tryd.pinned (OpenSpec.upto idlAheadSpec)

/-- 'redresslaw12.IdlMore', WHERE WHAT IT READS IS OF BULK AT MOST 1048576: true; the input reads as it did. -/
def idlMoreUptoRow : OpenClaim := { program := "ytlmjcnfiolbfpaadoor", sum := "31cc20cae616ee86a2188e518e97949888a7e0cc9dca05f9b85222e5d6fa1d98", func := "redress/redresslaw12.IdlMore", spec := "idlMore", inPlace := ["internal/bytealg.IndexByteString"], unfollowed := true, recurses := true, named := ["redress/token.keywords"], apart := false, laid := [("redress/token.keywords", laid_redress_token_keywords)], narrowed := true }
def IdlMoreUptoSaid : Prop := idlMoreUptoRow.holds Tryd.pinned (OpenSpec.upto idlMoreSpec)

end Rows
end Go.Proofs.YtlmjcnfiolbfpaaDoor
