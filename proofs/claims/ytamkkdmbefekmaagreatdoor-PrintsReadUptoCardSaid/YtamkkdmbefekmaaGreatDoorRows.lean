/-
  NARROWER THAN 'FOR EVERY INPUT', by the rows' own cells (each row's printed sentence says how): CheckTells: laid · CheckUndone: laid · CheckOwn: laid · PrintsTexts: laid · PrintsTypes: laid · PrintsBack: laid · PrintsAlike: laid · PrintsRead: laid.
  DERIVED. THE GIVEN ROWS OF THIS SEAT. 8 by the template 'for every input the law returns true; each argument reads behind the call as it read before'; 0 by the template 'total and deterministic' (their statements: YtamkkdmbefekmaaGreatDoorTotals.lean).
  GIVEN WITH THE SEED: the statements are not yours to turn. If you find one false, say at which input.
  Laid BY PROGRAM, IN A SANDBOX (cutbox-rows.mjs): the forced cells as the released guide's own fill.sh prints them over the translation 5f07ca725422a3ca… (all of the seat's roots in one cut). By AI agents, Wed Nov 11 2026. No macro, syntax, notation, axiom, sorry.
-/
import Derived.Test.YtamkkdmbefekmaaGreatDoorChecked
import GoSem.Claim
import GoSem.ClaimJoined
import GoSem.ClaimMapViews
import Derived.JoinedTies
import Derived.KernelRfl
namespace Go.Proofs.YtamkkdmbefekmaaGreatDoor
/- THE CELL 'sum', in the pinned program and in every row, IS THE sha256 OF THE DUMP (.gsa) THAT YtamkkdmbefekmaaGreatDoorProg.lean LOADS. Nothing in Lean hashes anything: it is a label: what it is worth is what the hold of that sum in a sandbox is worth. -/
noncomputable def Tryz.pinned : Pinned := { name := "ytamkkdmbefekmaagreatdoor", sum := "5f07ca725422a3ca136e889fe4d42a3a5a09e249b522704aea86a833dbe70bc6", checked := Tryz.checked }
namespace Rows
def none {H : Type} : Left H := { results := [], args := [] }

/- WHAT THE LISTED PACKAGE-LEVEL VARIABLES READ AS WHEN THE CALL BEGINS. Each datum BY PROGRAM (the guide's laid-datum.mjs) off the statement by which the dump's own 'gosem.cut.vars' lays the variable. In a bare row this is a premise. The card (YtamkkdmbefekmaaGreatDoorCards.lean) ties it to the program's text. -/
def laid_math_bits_deBruijn32tab {H : Type} : DataW H := .agg [.lit (.int .u8 0), .lit (.int .u8 1), .lit (.int .u8 28), .lit (.int .u8 2), .lit (.int .u8 29), .lit (.int .u8 14), .lit (.int .u8 24), .lit (.int .u8 3), .lit (.int .u8 30), .lit (.int .u8 22), .lit (.int .u8 20), .lit (.int .u8 15), .lit (.int .u8 25), .lit (.int .u8 17), .lit (.int .u8 4), .lit (.int .u8 8), .lit (.int .u8 31), .lit (.int .u8 27), .lit (.int .u8 13), .lit (.int .u8 23), .lit (.int .u8 21), .lit (.int .u8 19), .lit (.int .u8 16), .lit (.int .u8 7), .lit (.int .u8 26), .lit (.int .u8 12), .lit (.int .u8 18), .lit (.int .u8 6), .lit (.int .u8 11), .lit (.int .u8 5), .lit (.int .u8 10), .lit (.int .u8 9)]
def laid_math_bits_deBruijn64tab {H : Type} : DataW H := .agg [.lit (.int .u8 0), .lit (.int .u8 1), .lit (.int .u8 56), .lit (.int .u8 2), .lit (.int .u8 57), .lit (.int .u8 49), .lit (.int .u8 28), .lit (.int .u8 3), .lit (.int .u8 61), .lit (.int .u8 58), .lit (.int .u8 42), .lit (.int .u8 50), .lit (.int .u8 38), .lit (.int .u8 29), .lit (.int .u8 17), .lit (.int .u8 4), .lit (.int .u8 62), .lit (.int .u8 47), .lit (.int .u8 59), .lit (.int .u8 36), .lit (.int .u8 45), .lit (.int .u8 43), .lit (.int .u8 51), .lit (.int .u8 22), .lit (.int .u8 53), .lit (.int .u8 39), .lit (.int .u8 33), .lit (.int .u8 30), .lit (.int .u8 24), .lit (.int .u8 18), .lit (.int .u8 12), .lit (.int .u8 5), .lit (.int .u8 63), .lit (.int .u8 55), .lit (.int .u8 48), .lit (.int .u8 27), .lit (.int .u8 60), .lit (.int .u8 41), .lit (.int .u8 37), .lit (.int .u8 16), .lit (.int .u8 46), .lit (.int .u8 35), .lit (.int .u8 44), .lit (.int .u8 21), .lit (.int .u8 52), .lit (.int .u8 32), .lit (.int .u8 23), .lit (.int .u8 11), .lit (.int .u8 54), .lit (.int .u8 26), .lit (.int .u8 40), .lit (.int .u8 15), .lit (.int .u8 34), .lit (.int .u8 20), .lit (.int .u8 31), .lit (.int .u8 10), .lit (.int .u8 25), .lit (.int .u8 14), .lit (.int .u8 19), .lit (.int .u8 9), .lit (.int .u8 13), .lit (.int .u8 8), .lit (.int .u8 7), .lit (.int .u8 6)]
def laid_internal_strconv_uint64pow10 {H : Type} : DataW H := .agg [.lit (.int .u64 1), .lit (.int .u64 10), .lit (.int .u64 100), .lit (.int .u64 1000), .lit (.int .u64 10000), .lit (.int .u64 100000), .lit (.int .u64 1000000), .lit (.int .u64 10000000), .lit (.int .u64 100000000), .lit (.int .u64 1000000000), .lit (.int .u64 10000000000), .lit (.int .u64 100000000000), .lit (.int .u64 1000000000000), .lit (.int .u64 10000000000000), .lit (.int .u64 100000000000000), .lit (.int .u64 1000000000000000), .lit (.int .u64 10000000000000000), .lit (.int .u64 100000000000000000), .lit (.int .u64 1000000000000000000), .lit (.int .u64 10000000000000000000)]
def laid_redress_token_keywords {H : Type} : DataW H := .agg [.lit (.string [109, 111, 100, 117, 108, 101]), .lit (.string [114, 101, 99, 111, 114, 100]), .lit (.string [99, 104, 111, 105, 99, 101]), .lit (.string [115, 101, 114, 118, 105, 99, 101]), .lit (.string [115, 97, 103, 97]), .lit (.string [100, 111]), .lit (.string [97, 116]), .lit (.string [117, 110, 100, 111]), .lit (.string [103, 105, 118, 101]), .lit (.string [116, 97, 107, 101]), .lit (.string [110, 111, 116, 101]), .lit (.string [110, 111, 110, 101]), .lit (.string [98, 111, 111, 108]), .lit (.string [105, 110, 116]), .lit (.string [116, 101, 120, 116]), .lit (.string [108, 105, 115, 116]), .lit (.string [111, 112, 116])]

/-- 'redresslaw13.CheckTells': WHATEVER THE INPUT: true; the input reads as it did. -/
def checkTellsSpec : ChangeSpec := { name := "checkTells", fn := fun _ => fun
  | [d] => { results := [.lit (.bool true)], args := [d] }
  | _ => none }
def checkTellsRow : OpenClaim := { program := "ytamkkdmbefekmaagreatdoor", sum := "5f07ca725422a3ca136e889fe4d42a3a5a09e249b522704aea86a833dbe70bc6", func := "redress/redresslaw13.CheckTells", spec := "checkTells", unfollowed := true, recurses := true, named := ["redress/token.keywords", "internal/strconv.uint64pow10", "math/bits.deBruijn32tab", "math/bits.deBruijn64tab"], apart := false, laid := [("math/bits.deBruijn32tab", laid_math_bits_deBruijn32tab), ("math/bits.deBruijn64tab", laid_math_bits_deBruijn64tab), ("internal/strconv.uint64pow10", laid_internal_strconv_uint64pow10), ("redress/token.keywords", laid_redress_token_keywords)] }
def CheckTellsSaid : Prop := checkTellsRow.holds Tryz.pinned (OpenSpec.ofChange checkTellsSpec)

/-- ITS FALSE NEIGHBOUR: 'it returns false'. Refute it at one input. -/
def checkTellsWrong : ChangeSpec := { name := "checkTells", fn := fun _ => fun
  | [d] => { results := [.lit (.bool false)], args := [d] }
  | _ => none }
def CheckTellsWrongFalsely : Prop := checkTellsRow.holds Tryz.pinned (OpenSpec.ofChange checkTellsWrong)

/-- 'redresslaw13.CheckUndone': WHATEVER THE INPUT: true; the input reads as it did. -/
def checkUndoneSpec : ChangeSpec := { name := "checkUndone", fn := fun _ => fun
  | [d] => { results := [.lit (.bool true)], args := [d] }
  | _ => none }
def checkUndoneRow : OpenClaim := { program := "ytamkkdmbefekmaagreatdoor", sum := "5f07ca725422a3ca136e889fe4d42a3a5a09e249b522704aea86a833dbe70bc6", func := "redress/redresslaw13.CheckUndone", spec := "checkUndone", unfollowed := true, recurses := true, named := ["redress/token.keywords", "internal/strconv.uint64pow10", "math/bits.deBruijn32tab", "math/bits.deBruijn64tab"], apart := false, laid := [("math/bits.deBruijn32tab", laid_math_bits_deBruijn32tab), ("math/bits.deBruijn64tab", laid_math_bits_deBruijn64tab), ("internal/strconv.uint64pow10", laid_internal_strconv_uint64pow10), ("redress/token.keywords", laid_redress_token_keywords)] }
def CheckUndoneSaid : Prop := checkUndoneRow.holds Tryz.pinned (OpenSpec.ofChange checkUndoneSpec)

/-- ITS FALSE NEIGHBOUR: 'it returns false'. Refute it at one input. -/
def checkUndoneWrong : ChangeSpec := { name := "checkUndone", fn := fun _ => fun
  | [d] => { results := [.lit (.bool false)], args := [d] }
  | _ => none }
def CheckUndoneWrongFalsely : Prop := checkUndoneRow.holds Tryz.pinned (OpenSpec.ofChange checkUndoneWrong)

/-- 'redresslaw13.CheckOwn': WHATEVER THE INPUT: true; the input reads as it did. -/
def checkOwnSpec : ChangeSpec := { name := "checkOwn", fn := fun _ => fun
  | [d1, d2] => { results := [.lit (.bool true)], args := [d1, d2] }
  | _ => none }
def checkOwnRow : OpenClaim := { program := "ytamkkdmbefekmaagreatdoor", sum := "5f07ca725422a3ca136e889fe4d42a3a5a09e249b522704aea86a833dbe70bc6", func := "redress/redresslaw13.CheckOwn", spec := "checkOwn", unfollowed := true, recurses := true, named := ["redress/token.keywords", "internal/strconv.uint64pow10", "math/bits.deBruijn32tab", "math/bits.deBruijn64tab"], apart := false, laid := [("math/bits.deBruijn32tab", laid_math_bits_deBruijn32tab), ("math/bits.deBruijn64tab", laid_math_bits_deBruijn64tab), ("internal/strconv.uint64pow10", laid_internal_strconv_uint64pow10), ("redress/token.keywords", laid_redress_token_keywords)] }
def CheckOwnSaid : Prop := checkOwnRow.holds Tryz.pinned (OpenSpec.ofChange checkOwnSpec)

/-- ITS FALSE NEIGHBOUR: 'it returns false'. Refute it at one input. -/
def checkOwnWrong : ChangeSpec := { name := "checkOwn", fn := fun _ => fun
  | [d1, d2] => { results := [.lit (.bool false)], args := [d1, d2] }
  | _ => none }
def CheckOwnWrongFalsely : Prop := checkOwnRow.holds Tryz.pinned (OpenSpec.ofChange checkOwnWrong)

/-- 'redresslaw14.PrintsTexts': WHATEVER THE INPUT: true; the input reads as it did. -/
def printsTextsSpec : ChangeSpec := { name := "printsTexts", fn := fun _ => fun
  | [d] => { results := [.lit (.bool true)], args := [d] }
  | _ => none }
def printsTextsRow : OpenClaim := { program := "ytamkkdmbefekmaagreatdoor", sum := "5f07ca725422a3ca136e889fe4d42a3a5a09e249b522704aea86a833dbe70bc6", func := "redress/redresslaw14.PrintsTexts", spec := "printsTexts", inPlace := ["internal/abi.NoEscape"], unfollowed := true, recurses := true, named := ["redress/token.keywords", "internal/strconv.uint64pow10", "math/bits.deBruijn32tab", "math/bits.deBruijn64tab"], apart := false, laid := [("math/bits.deBruijn32tab", laid_math_bits_deBruijn32tab), ("math/bits.deBruijn64tab", laid_math_bits_deBruijn64tab), ("internal/strconv.uint64pow10", laid_internal_strconv_uint64pow10), ("redress/token.keywords", laid_redress_token_keywords)] }
def PrintsTextsSaid : Prop := printsTextsRow.holds Tryz.pinned (OpenSpec.ofChange printsTextsSpec)

/-- ITS FALSE NEIGHBOUR: 'it returns false'. Refute it at one input. -/
def printsTextsWrong : ChangeSpec := { name := "printsTexts", fn := fun _ => fun
  | [d] => { results := [.lit (.bool false)], args := [d] }
  | _ => none }
def PrintsTextsWrongFalsely : Prop := printsTextsRow.holds Tryz.pinned (OpenSpec.ofChange printsTextsWrong)

/-- 'redresslaw14.PrintsTypes': WHATEVER THE INPUT: true; the input reads as it did. -/
def printsTypesSpec : ChangeSpec := { name := "printsTypes", fn := fun _ => fun
  | [d] => { results := [.lit (.bool true)], args := [d] }
  | _ => none }
def printsTypesRow : OpenClaim := { program := "ytamkkdmbefekmaagreatdoor", sum := "5f07ca725422a3ca136e889fe4d42a3a5a09e249b522704aea86a833dbe70bc6", func := "redress/redresslaw14.PrintsTypes", spec := "printsTypes", inPlace := ["internal/abi.NoEscape", "internal/bytealg.IndexByteString"], unfollowed := true, recurses := true, named := ["redress/token.keywords", "internal/strconv.uint64pow10", "math/bits.deBruijn32tab", "math/bits.deBruijn64tab"], apart := false, laid := [("math/bits.deBruijn32tab", laid_math_bits_deBruijn32tab), ("math/bits.deBruijn64tab", laid_math_bits_deBruijn64tab), ("internal/strconv.uint64pow10", laid_internal_strconv_uint64pow10), ("redress/token.keywords", laid_redress_token_keywords)] }
def PrintsTypesSaid : Prop := printsTypesRow.holds Tryz.pinned (OpenSpec.ofChange printsTypesSpec)

/-- ITS FALSE NEIGHBOUR: 'it returns false'. Refute it at one input. -/
def printsTypesWrong : ChangeSpec := { name := "printsTypes", fn := fun _ => fun
  | [d] => { results := [.lit (.bool false)], args := [d] }
  | _ => none }
def PrintsTypesWrongFalsely : Prop := printsTypesRow.holds Tryz.pinned (OpenSpec.ofChange printsTypesWrong)

/-- 'redresslaw14.PrintsBack': WHATEVER THE INPUT: true; the input reads as it did. -/
def printsBackSpec : ChangeSpec := { name := "printsBack", fn := fun _ => fun
  | [d] => { results := [.lit (.bool true)], args := [d] }
  | _ => none }
def printsBackRow : OpenClaim := { program := "ytamkkdmbefekmaagreatdoor", sum := "5f07ca725422a3ca136e889fe4d42a3a5a09e249b522704aea86a833dbe70bc6", func := "redress/redresslaw14.PrintsBack", spec := "printsBack", inPlace := ["internal/abi.NoEscape", "internal/bytealg.IndexByteString"], unfollowed := true, recurses := true, named := ["redress/token.keywords", "internal/strconv.uint64pow10", "math/bits.deBruijn32tab", "math/bits.deBruijn64tab"], apart := false, laid := [("math/bits.deBruijn32tab", laid_math_bits_deBruijn32tab), ("math/bits.deBruijn64tab", laid_math_bits_deBruijn64tab), ("internal/strconv.uint64pow10", laid_internal_strconv_uint64pow10), ("redress/token.keywords", laid_redress_token_keywords)] }
def PrintsBackSaid : Prop := printsBackRow.holds Tryz.pinned (OpenSpec.ofChange printsBackSpec)

/-- ITS FALSE NEIGHBOUR: 'it returns false'. Refute it at one input. -/
def printsBackWrong : ChangeSpec := { name := "printsBack", fn := fun _ => fun
  | [d] => { results := [.lit (.bool false)], args := [d] }
  | _ => none }
def PrintsBackWrongFalsely : Prop := printsBackRow.holds Tryz.pinned (OpenSpec.ofChange printsBackWrong)

/-- 'redresslaw14.PrintsAlike': WHATEVER THE INPUT: true; the input reads as it did. -/
def printsAlikeSpec : ChangeSpec := { name := "printsAlike", fn := fun _ => fun
  | [d1, d2] => { results := [.lit (.bool true)], args := [d1, d2] }
  | _ => none }
def printsAlikeRow : OpenClaim := { program := "ytamkkdmbefekmaagreatdoor", sum := "5f07ca725422a3ca136e889fe4d42a3a5a09e249b522704aea86a833dbe70bc6", func := "redress/redresslaw14.PrintsAlike", spec := "printsAlike", inPlace := ["internal/abi.NoEscape"], unfollowed := true, recurses := true, named := ["redress/token.keywords", "internal/strconv.uint64pow10", "math/bits.deBruijn32tab", "math/bits.deBruijn64tab"], apart := false, laid := [("math/bits.deBruijn32tab", laid_math_bits_deBruijn32tab), ("math/bits.deBruijn64tab", laid_math_bits_deBruijn64tab), ("internal/strconv.uint64pow10", laid_internal_strconv_uint64pow10), ("redress/token.keywords", laid_redress_token_keywords)] }
def PrintsAlikeSaid : Prop := printsAlikeRow.holds Tryz.pinned (OpenSpec.ofChange printsAlikeSpec)

/-- ITS FALSE NEIGHBOUR: 'it returns false'. Refute it at one input. -/
def printsAlikeWrong : ChangeSpec := { name := "printsAlike", fn := fun _ => fun
  | [d1, d2] => { results := [.lit (.bool false)], args := [d1, d2] }
  | _ => none }
def PrintsAlikeWrongFalsely : Prop := printsAlikeRow.holds Tryz.pinned (OpenSpec.ofChange printsAlikeWrong)

/-- 'redresslaw14.PrintsRead': WHATEVER THE INPUT: true; the input reads as it did. -/
def printsReadSpec : ChangeSpec := { name := "printsRead", fn := fun _ => fun
  | [d1, d2] => { results := [.lit (.bool true)], args := [d1, d2] }
  | _ => none }
def printsReadRow : OpenClaim := { program := "ytamkkdmbefekmaagreatdoor", sum := "5f07ca725422a3ca136e889fe4d42a3a5a09e249b522704aea86a833dbe70bc6", func := "redress/redresslaw14.PrintsRead", spec := "printsRead", inPlace := ["internal/abi.NoEscape", "internal/bytealg.IndexByteString"], unfollowed := true, recurses := true, named := ["redress/token.keywords", "internal/strconv.uint64pow10", "math/bits.deBruijn32tab", "math/bits.deBruijn64tab"], apart := false, laid := [("math/bits.deBruijn32tab", laid_math_bits_deBruijn32tab), ("math/bits.deBruijn64tab", laid_math_bits_deBruijn64tab), ("internal/strconv.uint64pow10", laid_internal_strconv_uint64pow10), ("redress/token.keywords", laid_redress_token_keywords)] }
def PrintsReadSaid : Prop := printsReadRow.holds Tryz.pinned (OpenSpec.ofChange printsReadSpec)

/-- ITS FALSE NEIGHBOUR: 'it returns false'. Refute it at one input. -/
def printsReadWrong : ChangeSpec := { name := "printsRead", fn := fun _ => fun
  | [d1, d2] => { results := [.lit (.bool false)], args := [d1, d2] }
  | _ => none }
def PrintsReadWrongFalsely : Prop := printsReadRow.holds Tryz.pinned (OpenSpec.ofChange printsReadWrong)

/- THE SECOND FORM. 'bulk': how many values and letters a reading holds, each counted each time it is reached (what is shared counts as often as it is met; a slice's spare places count too). A statement '..UptoSaid' is the law's where the arguments, and the package variables that the reading takes, are together of bulk at most 1048576: NARROWER than '..Said'. Prove '..Said' where nothing that the law and all that it calls make is longer than what came in: it says more and counts as full. Else prove '..UptoSaid'. A law counts once. -/
mutual
def uptoBulk {H : Type} : DataW H → Nat
  | .lit (.string bytes) => bytes.length + 1
  | .lit _ => 1
  | .nil => 1
  | .ptr d => uptoBulk d + 1
  | .slice elems spare => uptoBulkAll elems + uptoBulkAll spare + 1
  | .agg parts => uptoBulkAll parts + 1
  | .iface _ d => uptoBulk d + 1
  | .map entries => uptoBulkEntries entries + 1
  | .held _ => 1
def uptoBulkAll {H : Type} : List (DataW H) → Nat
  | [] => 0
  | d :: r => uptoBulk d + uptoBulkAll r
def uptoBulkEntries {H : Type} : List (Lit × DataW H) → Nat
  | [] => 0
  | x :: r => uptoBulkEntry x + uptoBulkEntries r
def uptoBulkEntry {H : Type} : Lit × DataW H → Nat
  | (.string bytes, d) => bytes.length + uptoBulk d + 1
  | (_, d) => uptoBulk d + 1
 end
def uptoSmall : (H : Type) → List (DataW H) → Bool := fun _ ds => decide (uptoBulkAll ds ≤ 1048576)
def OpenSpec.upto (s : _root_.Go.ChangeSpec) : _root_.Go.OpenSpec := { _root_.Go.OpenSpec.ofChange s with cond := some uptoSmall }

/-- 'redresslaw13.CheckTells', WHERE WHAT IT READS IS OF BULK AT MOST 1048576: true; the input reads as it did. -/
def checkTellsUptoRow : OpenClaim := { program := "ytamkkdmbefekmaagreatdoor", sum := "5f07ca725422a3ca136e889fe4d42a3a5a09e249b522704aea86a833dbe70bc6", func := "redress/redresslaw13.CheckTells", spec := "checkTells", unfollowed := true, recurses := true, named := ["redress/token.keywords", "internal/strconv.uint64pow10", "math/bits.deBruijn32tab", "math/bits.deBruijn64tab"], apart := false, laid := [("math/bits.deBruijn32tab", laid_math_bits_deBruijn32tab), ("math/bits.deBruijn64tab", laid_math_bits_deBruijn64tab), ("internal/strconv.uint64pow10", laid_internal_strconv_uint64pow10), ("redress/token.keywords", laid_redress_token_keywords)], narrowed := true }
def CheckTellsUptoSaid : Prop := checkTellsUptoRow.holds Tryz.pinned (OpenSpec.upto checkTellsSpec)

/-- 'redresslaw13.CheckUndone', WHERE WHAT IT READS IS OF BULK AT MOST 1048576: true; the input reads as it did. -/
def checkUndoneUptoRow : OpenClaim := { program := "ytamkkdmbefekmaagreatdoor", sum := "5f07ca725422a3ca136e889fe4d42a3a5a09e249b522704aea86a833dbe70bc6", func := "redress/redresslaw13.CheckUndone", spec := "checkUndone", unfollowed := true, recurses := true, named := ["redress/token.keywords", "internal/strconv.uint64pow10", "math/bits.deBruijn32tab", "math/bits.deBruijn64tab"], apart := false, laid := [("math/bits.deBruijn32tab", laid_math_bits_deBruijn32tab), ("math/bits.deBruijn64tab", laid_math_bits_deBruijn64tab), ("internal/strconv.uint64pow10", laid_internal_strconv_uint64pow10), ("redress/token.keywords", laid_redress_token_keywords)], narrowed := true }
def CheckUndoneUptoSaid : Prop := checkUndoneUptoRow.holds Tryz.pinned (OpenSpec.upto checkUndoneSpec)

/-- 'redresslaw13.CheckOwn', WHERE WHAT IT READS IS OF BULK AT MOST 1048576: true; the input reads as it did. -/
def checkOwnUptoRow : OpenClaim := { program := "ytamkkdmbefekmaagreatdoor", sum := "5f07ca725422a3ca136e889fe4d42a3a5a09e249b522704aea86a833dbe70bc6", func := "redress/redresslaw13.CheckOwn", spec := "checkOwn", unfollowed := true, recurses := true, named := ["redress/token.keywords", "internal/strconv.uint64pow10", "math/bits.deBruijn32tab", "math/bits.deBruijn64tab"], apart := false, laid := [("math/bits.deBruijn32tab", laid_math_bits_deBruijn32tab), ("math/bits.deBruijn64tab", laid_math_bits_deBruijn64tab), ("internal/strconv.uint64pow10", laid_internal_strconv_uint64pow10), ("redress/token.keywords", laid_redress_token_keywords)], narrowed := true }
def CheckOwnUptoSaid : Prop := checkOwnUptoRow.holds Tryz.pinned (OpenSpec.upto checkOwnSpec)

/-- 'redresslaw14.PrintsTexts', WHERE WHAT IT READS IS OF BULK AT MOST 1048576: true; the input reads as it did. -/
def printsTextsUptoRow : OpenClaim := { program := "ytamkkdmbefekmaagreatdoor", sum := "5f07ca725422a3ca136e889fe4d42a3a5a09e249b522704aea86a833dbe70bc6", func := "redress/redresslaw14.PrintsTexts", spec := "printsTexts", inPlace := ["internal/abi.NoEscape"], unfollowed := true, recurses := true, named := ["redress/token.keywords", "internal/strconv.uint64pow10", "math/bits.deBruijn32tab", "math/bits.deBruijn64tab"], apart := false, laid := [("math/bits.deBruijn32tab", laid_math_bits_deBruijn32tab), ("math/bits.deBruijn64tab", laid_math_bits_deBruijn64tab), ("internal/strconv.uint64pow10", laid_internal_strconv_uint64pow10), ("redress/token.keywords", laid_redress_token_keywords)], narrowed := true }
def PrintsTextsUptoSaid : Prop := printsTextsUptoRow.holds Tryz.pinned (OpenSpec.upto printsTextsSpec)

/-- 'redresslaw14.PrintsTypes', WHERE WHAT IT READS IS OF BULK AT MOST 1048576: true; the input reads as it did. -/
def printsTypesUptoRow : OpenClaim := { program := "ytamkkdmbefekmaagreatdoor", sum := "5f07ca725422a3ca136e889fe4d42a3a5a09e249b522704aea86a833dbe70bc6", func := "redress/redresslaw14.PrintsTypes", spec := "printsTypes", inPlace := ["internal/abi.NoEscape", "internal/bytealg.IndexByteString"], unfollowed := true, recurses := true, named := ["redress/token.keywords", "internal/strconv.uint64pow10", "math/bits.deBruijn32tab", "math/bits.deBruijn64tab"], apart := false, laid := [("math/bits.deBruijn32tab", laid_math_bits_deBruijn32tab), ("math/bits.deBruijn64tab", laid_math_bits_deBruijn64tab), ("internal/strconv.uint64pow10", laid_internal_strconv_uint64pow10), ("redress/token.keywords", laid_redress_token_keywords)], narrowed := true }
def PrintsTypesUptoSaid : Prop := printsTypesUptoRow.holds Tryz.pinned (OpenSpec.upto printsTypesSpec)

/-- 'redresslaw14.PrintsBack', WHERE WHAT IT READS IS OF BULK AT MOST 1048576: true; the input reads as it did. -/
def printsBackUptoRow : OpenClaim := { program := "ytamkkdmbefekmaagreatdoor", sum := "5f07ca725422a3ca136e889fe4d42a3a5a09e249b522704aea86a833dbe70bc6", func := "redress/redresslaw14.PrintsBack", spec := "printsBack", inPlace := ["internal/abi.NoEscape", "internal/bytealg.IndexByteString"], unfollowed := true, recurses := true, named := ["redress/token.keywords", "internal/strconv.uint64pow10", "math/bits.deBruijn32tab", "math/bits.deBruijn64tab"], apart := false, laid := [("math/bits.deBruijn32tab", laid_math_bits_deBruijn32tab), ("math/bits.deBruijn64tab", laid_math_bits_deBruijn64tab), ("internal/strconv.uint64pow10", laid_internal_strconv_uint64pow10), ("redress/token.keywords", laid_redress_token_keywords)], narrowed := true }
def PrintsBackUptoSaid : Prop := printsBackUptoRow.holds Tryz.pinned (OpenSpec.upto printsBackSpec)

/-- 'redresslaw14.PrintsAlike', WHERE WHAT IT READS IS OF BULK AT MOST 1048576: true; the input reads as it did. -/
def printsAlikeUptoRow : OpenClaim := { program := "ytamkkdmbefekmaagreatdoor", sum := "5f07ca725422a3ca136e889fe4d42a3a5a09e249b522704aea86a833dbe70bc6", func := "redress/redresslaw14.PrintsAlike", spec := "printsAlike", inPlace := ["internal/abi.NoEscape"], unfollowed := true, recurses := true, named := ["redress/token.keywords", "internal/strconv.uint64pow10", "math/bits.deBruijn32tab", "math/bits.deBruijn64tab"], apart := false, laid := [("math/bits.deBruijn32tab", laid_math_bits_deBruijn32tab), ("math/bits.deBruijn64tab", laid_math_bits_deBruijn64tab), ("internal/strconv.uint64pow10", laid_internal_strconv_uint64pow10), ("redress/token.keywords", laid_redress_token_keywords)], narrowed := true }
def PrintsAlikeUptoSaid : Prop := printsAlikeUptoRow.holds Tryz.pinned (OpenSpec.upto printsAlikeSpec)

/-- 'redresslaw14.PrintsRead', WHERE WHAT IT READS IS OF BULK AT MOST 1048576: true; the input reads as it did. -/
def printsReadUptoRow : OpenClaim := { program := "ytamkkdmbefekmaagreatdoor", sum := "5f07ca725422a3ca136e889fe4d42a3a5a09e249b522704aea86a833dbe70bc6", func := "redress/redresslaw14.PrintsRead", spec := "printsRead", inPlace := ["internal/abi.NoEscape", "internal/bytealg.IndexByteString"], unfollowed := true, recurses := true, named := ["redress/token.keywords", "internal/strconv.uint64pow10", "math/bits.deBruijn32tab", "math/bits.deBruijn64tab"], apart := false, laid := [("math/bits.deBruijn32tab", laid_math_bits_deBruijn32tab), ("math/bits.deBruijn64tab", laid_math_bits_deBruijn64tab), ("internal/strconv.uint64pow10", laid_internal_strconv_uint64pow10), ("redress/token.keywords", laid_redress_token_keywords)], narrowed := true }
def PrintsReadUptoSaid : Prop := printsReadUptoRow.holds Tryz.pinned (OpenSpec.upto printsReadSpec)

end Rows
end Go.Proofs.YtamkkdmbefekmaaGreatDoor
