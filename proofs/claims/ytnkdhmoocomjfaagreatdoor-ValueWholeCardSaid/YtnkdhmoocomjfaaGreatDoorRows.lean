/-
  NARROWER THAN 'FOR EVERY INPUT', by the rows' own cells (each row's printed sentence says how): CheckTells: laid · CheckOwn: laid · PrintsTexts: laid · ValueFits: laid · ValueEnds: laid · ValueLeasts: laid · ValueFields: laid · ValueLeast: laid · ValueWhole: laid · ValueWraps: laid · ValueOwn: laid.
  DERIVED. THE GIVEN ROWS OF THIS SEAT. 11 by the template 'for every input the law returns true; each argument reads behind the call as it read before'; 0 by the template 'total and deterministic' (their statements: YtnkdhmoocomjfaaGreatDoorTotals.lean).
  GIVEN WITH THE SEED: the statements are not yours to turn. If you find one false, say at which input.
  Laid BY PROGRAM, IN A SANDBOX (cutbox-rows.mjs): the forced cells as the released guide's own fill.sh prints them over the translation 639b12dc52a38a0f… (all of the seat's roots in one cut). By AI agents, Wed Nov 11 2026. No macro, syntax, notation, axiom, sorry.
-/
import Derived.Test.YtnkdhmoocomjfaaGreatDoorChecked
import GoSem.Claim
import GoSem.ClaimJoined
import GoSem.ClaimMapViews
import Derived.JoinedTies
import Derived.KernelRfl
namespace Go.Proofs.YtnkdhmoocomjfaaGreatDoor
/- THE CELL 'sum', in the pinned program and in every row, IS THE sha256 OF THE DUMP (.gsa) THAT YtnkdhmoocomjfaaGreatDoorProg.lean LOADS. Nothing in Lean hashes anything: it is a label: what it is worth is what the hold of that sum in a sandbox is worth. -/
noncomputable def Tryz.pinned : Pinned := { name := "ytnkdhmoocomjfaagreatdoor", sum := "639b12dc52a38a0f4d619c0025c4df6c1aae70d8f18b033060d72439beff86a0", checked := Tryz.checked }
namespace Rows
def none {H : Type} : Left H := { results := [], args := [] }

/- WHAT THE LISTED PACKAGE-LEVEL VARIABLES READ AS WHEN THE CALL BEGINS. Each datum BY PROGRAM (the guide's laid-datum.mjs) off the statement by which the dump's own 'gosem.cut.vars' lays the variable. In a bare row this is a premise. The card (YtnkdhmoocomjfaaGreatDoorCards.lean) ties it to the program's text. -/
def laid_math_bits_deBruijn32tab {H : Type} : DataW H := .agg [.lit (.int .u8 0), .lit (.int .u8 1), .lit (.int .u8 28), .lit (.int .u8 2), .lit (.int .u8 29), .lit (.int .u8 14), .lit (.int .u8 24), .lit (.int .u8 3), .lit (.int .u8 30), .lit (.int .u8 22), .lit (.int .u8 20), .lit (.int .u8 15), .lit (.int .u8 25), .lit (.int .u8 17), .lit (.int .u8 4), .lit (.int .u8 8), .lit (.int .u8 31), .lit (.int .u8 27), .lit (.int .u8 13), .lit (.int .u8 23), .lit (.int .u8 21), .lit (.int .u8 19), .lit (.int .u8 16), .lit (.int .u8 7), .lit (.int .u8 26), .lit (.int .u8 12), .lit (.int .u8 18), .lit (.int .u8 6), .lit (.int .u8 11), .lit (.int .u8 5), .lit (.int .u8 10), .lit (.int .u8 9)]
def laid_math_bits_deBruijn64tab {H : Type} : DataW H := .agg [.lit (.int .u8 0), .lit (.int .u8 1), .lit (.int .u8 56), .lit (.int .u8 2), .lit (.int .u8 57), .lit (.int .u8 49), .lit (.int .u8 28), .lit (.int .u8 3), .lit (.int .u8 61), .lit (.int .u8 58), .lit (.int .u8 42), .lit (.int .u8 50), .lit (.int .u8 38), .lit (.int .u8 29), .lit (.int .u8 17), .lit (.int .u8 4), .lit (.int .u8 62), .lit (.int .u8 47), .lit (.int .u8 59), .lit (.int .u8 36), .lit (.int .u8 45), .lit (.int .u8 43), .lit (.int .u8 51), .lit (.int .u8 22), .lit (.int .u8 53), .lit (.int .u8 39), .lit (.int .u8 33), .lit (.int .u8 30), .lit (.int .u8 24), .lit (.int .u8 18), .lit (.int .u8 12), .lit (.int .u8 5), .lit (.int .u8 63), .lit (.int .u8 55), .lit (.int .u8 48), .lit (.int .u8 27), .lit (.int .u8 60), .lit (.int .u8 41), .lit (.int .u8 37), .lit (.int .u8 16), .lit (.int .u8 46), .lit (.int .u8 35), .lit (.int .u8 44), .lit (.int .u8 21), .lit (.int .u8 52), .lit (.int .u8 32), .lit (.int .u8 23), .lit (.int .u8 11), .lit (.int .u8 54), .lit (.int .u8 26), .lit (.int .u8 40), .lit (.int .u8 15), .lit (.int .u8 34), .lit (.int .u8 20), .lit (.int .u8 31), .lit (.int .u8 10), .lit (.int .u8 25), .lit (.int .u8 14), .lit (.int .u8 19), .lit (.int .u8 9), .lit (.int .u8 13), .lit (.int .u8 8), .lit (.int .u8 7), .lit (.int .u8 6)]
def laid_internal_strconv_uint64pow10 {H : Type} : DataW H := .agg [.lit (.int .u64 1), .lit (.int .u64 10), .lit (.int .u64 100), .lit (.int .u64 1000), .lit (.int .u64 10000), .lit (.int .u64 100000), .lit (.int .u64 1000000), .lit (.int .u64 10000000), .lit (.int .u64 100000000), .lit (.int .u64 1000000000), .lit (.int .u64 10000000000), .lit (.int .u64 100000000000), .lit (.int .u64 1000000000000), .lit (.int .u64 10000000000000), .lit (.int .u64 100000000000000), .lit (.int .u64 1000000000000000), .lit (.int .u64 10000000000000000), .lit (.int .u64 100000000000000000), .lit (.int .u64 1000000000000000000), .lit (.int .u64 10000000000000000000)]
def laid_redress_token_keywords {H : Type} : DataW H := .agg [.lit (.string [109, 111, 100, 117, 108, 101]), .lit (.string [114, 101, 99, 111, 114, 100]), .lit (.string [99, 104, 111, 105, 99, 101]), .lit (.string [115, 101, 114, 118, 105, 99, 101]), .lit (.string [115, 97, 103, 97]), .lit (.string [100, 111]), .lit (.string [97, 116]), .lit (.string [117, 110, 100, 111]), .lit (.string [103, 105, 118, 101]), .lit (.string [116, 97, 107, 101]), .lit (.string [110, 111, 116, 101]), .lit (.string [110, 111, 110, 101]), .lit (.string [98, 111, 111, 108]), .lit (.string [105, 110, 116]), .lit (.string [116, 101, 120, 116]), .lit (.string [108, 105, 115, 116]), .lit (.string [111, 112, 116])]

/-- 'redresslaw13.CheckTells': WHATEVER THE INPUT: true; the input reads as it did. -/
def checkTellsSpec : ChangeSpec := { name := "checkTells", fn := fun _ => fun
  | [d] => { results := [.lit (.bool true)], args := [d] }
  | _ => none }
def checkTellsRow : OpenClaim := { program := "ytnkdhmoocomjfaagreatdoor", sum := "639b12dc52a38a0f4d619c0025c4df6c1aae70d8f18b033060d72439beff86a0", func := "redress/redresslaw13.CheckTells", spec := "checkTells", unfollowed := true, recurses := true, named := ["redress/token.keywords", "internal/strconv.uint64pow10", "math/bits.deBruijn32tab", "math/bits.deBruijn64tab"], apart := false, laid := [("math/bits.deBruijn32tab", laid_math_bits_deBruijn32tab), ("math/bits.deBruijn64tab", laid_math_bits_deBruijn64tab), ("internal/strconv.uint64pow10", laid_internal_strconv_uint64pow10), ("redress/token.keywords", laid_redress_token_keywords)] }
def CheckTellsSaid : Prop := checkTellsRow.holds Tryz.pinned (OpenSpec.ofChange checkTellsSpec)

/-- ITS FALSE NEIGHBOUR: 'it returns false'. Refute it at one input. -/
def checkTellsWrong : ChangeSpec := { name := "checkTells", fn := fun _ => fun
  | [d] => { results := [.lit (.bool false)], args := [d] }
  | _ => none }
def CheckTellsWrongFalsely : Prop := checkTellsRow.holds Tryz.pinned (OpenSpec.ofChange checkTellsWrong)

/-- 'redresslaw13.CheckOwn': WHATEVER THE INPUT: true; the input reads as it did. -/
def checkOwnSpec : ChangeSpec := { name := "checkOwn", fn := fun _ => fun
  | [d1, d2] => { results := [.lit (.bool true)], args := [d1, d2] }
  | _ => none }
def checkOwnRow : OpenClaim := { program := "ytnkdhmoocomjfaagreatdoor", sum := "639b12dc52a38a0f4d619c0025c4df6c1aae70d8f18b033060d72439beff86a0", func := "redress/redresslaw13.CheckOwn", spec := "checkOwn", unfollowed := true, recurses := true, named := ["redress/token.keywords", "internal/strconv.uint64pow10", "math/bits.deBruijn32tab", "math/bits.deBruijn64tab"], apart := false, laid := [("math/bits.deBruijn32tab", laid_math_bits_deBruijn32tab), ("math/bits.deBruijn64tab", laid_math_bits_deBruijn64tab), ("internal/strconv.uint64pow10", laid_internal_strconv_uint64pow10), ("redress/token.keywords", laid_redress_token_keywords)] }
def CheckOwnSaid : Prop := checkOwnRow.holds Tryz.pinned (OpenSpec.ofChange checkOwnSpec)

/-- ITS FALSE NEIGHBOUR: 'it returns false'. Refute it at one input. -/
def checkOwnWrong : ChangeSpec := { name := "checkOwn", fn := fun _ => fun
  | [d1, d2] => { results := [.lit (.bool false)], args := [d1, d2] }
  | _ => none }
def CheckOwnWrongFalsely : Prop := checkOwnRow.holds Tryz.pinned (OpenSpec.ofChange checkOwnWrong)

/-- 'redresslaw14.PrintsTexts': WHATEVER THE INPUT: true; the input reads as it did. -/
def printsTextsSpec : ChangeSpec := { name := "printsTexts", fn := fun _ => fun
  | [d] => { results := [.lit (.bool true)], args := [d] }
  | _ => none }
def printsTextsRow : OpenClaim := { program := "ytnkdhmoocomjfaagreatdoor", sum := "639b12dc52a38a0f4d619c0025c4df6c1aae70d8f18b033060d72439beff86a0", func := "redress/redresslaw14.PrintsTexts", spec := "printsTexts", inPlace := ["internal/abi.NoEscape"], unfollowed := true, recurses := true, named := ["redress/token.keywords", "internal/strconv.uint64pow10", "math/bits.deBruijn32tab", "math/bits.deBruijn64tab"], apart := false, laid := [("math/bits.deBruijn32tab", laid_math_bits_deBruijn32tab), ("math/bits.deBruijn64tab", laid_math_bits_deBruijn64tab), ("internal/strconv.uint64pow10", laid_internal_strconv_uint64pow10), ("redress/token.keywords", laid_redress_token_keywords)] }
def PrintsTextsSaid : Prop := printsTextsRow.holds Tryz.pinned (OpenSpec.ofChange printsTextsSpec)

/-- ITS FALSE NEIGHBOUR: 'it returns false'. Refute it at one input. -/
def printsTextsWrong : ChangeSpec := { name := "printsTexts", fn := fun _ => fun
  | [d] => { results := [.lit (.bool false)], args := [d] }
  | _ => none }
def PrintsTextsWrongFalsely : Prop := printsTextsRow.holds Tryz.pinned (OpenSpec.ofChange printsTextsWrong)

/-- 'redresslaw15.ValueFits': WHATEVER THE INPUT: true; the input reads as it did. -/
def valueFitsSpec : ChangeSpec := { name := "valueFits", fn := fun _ => fun
  | [d1, d2, d3] => { results := [.lit (.bool true)], args := [d1, d2, d3] }
  | _ => none }
def valueFitsRow : OpenClaim := { program := "ytnkdhmoocomjfaagreatdoor", sum := "639b12dc52a38a0f4d619c0025c4df6c1aae70d8f18b033060d72439beff86a0", func := "redress/redresslaw15.ValueFits", spec := "valueFits", unfollowed := true, recurses := true, named := ["redress/token.keywords", "internal/strconv.uint64pow10", "math/bits.deBruijn32tab", "math/bits.deBruijn64tab"], apart := false, laid := [("math/bits.deBruijn32tab", laid_math_bits_deBruijn32tab), ("math/bits.deBruijn64tab", laid_math_bits_deBruijn64tab), ("internal/strconv.uint64pow10", laid_internal_strconv_uint64pow10), ("redress/token.keywords", laid_redress_token_keywords)] }
def ValueFitsSaid : Prop := valueFitsRow.holds Tryz.pinned (OpenSpec.ofChange valueFitsSpec)

/-- ITS FALSE NEIGHBOUR: 'it returns false'. Refute it at one input. -/
def valueFitsWrong : ChangeSpec := { name := "valueFits", fn := fun _ => fun
  | [d1, d2, d3] => { results := [.lit (.bool false)], args := [d1, d2, d3] }
  | _ => none }
def ValueFitsWrongFalsely : Prop := valueFitsRow.holds Tryz.pinned (OpenSpec.ofChange valueFitsWrong)

/-- 'redresslaw15.ValueEnds': WHATEVER THE INPUT: true; the input reads as it did. -/
def valueEndsSpec : ChangeSpec := { name := "valueEnds", fn := fun _ => fun
  | [d1, d2] => { results := [.lit (.bool true)], args := [d1, d2] }
  | _ => none }
def valueEndsRow : OpenClaim := { program := "ytnkdhmoocomjfaagreatdoor", sum := "639b12dc52a38a0f4d619c0025c4df6c1aae70d8f18b033060d72439beff86a0", func := "redress/redresslaw15.ValueEnds", spec := "valueEnds", unfollowed := true, recurses := true, named := ["redress/token.keywords", "internal/strconv.uint64pow10", "math/bits.deBruijn32tab", "math/bits.deBruijn64tab"], apart := false, laid := [("math/bits.deBruijn32tab", laid_math_bits_deBruijn32tab), ("math/bits.deBruijn64tab", laid_math_bits_deBruijn64tab), ("internal/strconv.uint64pow10", laid_internal_strconv_uint64pow10), ("redress/token.keywords", laid_redress_token_keywords)] }
def ValueEndsSaid : Prop := valueEndsRow.holds Tryz.pinned (OpenSpec.ofChange valueEndsSpec)

/-- ITS FALSE NEIGHBOUR: 'it returns false'. Refute it at one input. -/
def valueEndsWrong : ChangeSpec := { name := "valueEnds", fn := fun _ => fun
  | [d1, d2] => { results := [.lit (.bool false)], args := [d1, d2] }
  | _ => none }
def ValueEndsWrongFalsely : Prop := valueEndsRow.holds Tryz.pinned (OpenSpec.ofChange valueEndsWrong)

/-- 'redresslaw15.ValueLeasts': WHATEVER THE INPUT: true; the input reads as it did. -/
def valueLeastsSpec : ChangeSpec := { name := "valueLeasts", fn := fun _ => fun
  | [d1, d2] => { results := [.lit (.bool true)], args := [d1, d2] }
  | _ => none }
def valueLeastsRow : OpenClaim := { program := "ytnkdhmoocomjfaagreatdoor", sum := "639b12dc52a38a0f4d619c0025c4df6c1aae70d8f18b033060d72439beff86a0", func := "redress/redresslaw15.ValueLeasts", spec := "valueLeasts", unfollowed := true, recurses := true, named := ["redress/token.keywords", "internal/strconv.uint64pow10", "math/bits.deBruijn32tab", "math/bits.deBruijn64tab"], apart := false, laid := [("math/bits.deBruijn32tab", laid_math_bits_deBruijn32tab), ("math/bits.deBruijn64tab", laid_math_bits_deBruijn64tab), ("internal/strconv.uint64pow10", laid_internal_strconv_uint64pow10), ("redress/token.keywords", laid_redress_token_keywords)] }
def ValueLeastsSaid : Prop := valueLeastsRow.holds Tryz.pinned (OpenSpec.ofChange valueLeastsSpec)

/-- ITS FALSE NEIGHBOUR: 'it returns false'. Refute it at one input. -/
def valueLeastsWrong : ChangeSpec := { name := "valueLeasts", fn := fun _ => fun
  | [d1, d2] => { results := [.lit (.bool false)], args := [d1, d2] }
  | _ => none }
def ValueLeastsWrongFalsely : Prop := valueLeastsRow.holds Tryz.pinned (OpenSpec.ofChange valueLeastsWrong)

/-- 'redresslaw15.ValueFields': WHATEVER THE INPUT: true; the input reads as it did. -/
def valueFieldsSpec : ChangeSpec := { name := "valueFields", fn := fun _ => fun
  | [d1, d2, d3, d4] => { results := [.lit (.bool true)], args := [d1, d2, d3, d4] }
  | _ => none }
def valueFieldsRow : OpenClaim := { program := "ytnkdhmoocomjfaagreatdoor", sum := "639b12dc52a38a0f4d619c0025c4df6c1aae70d8f18b033060d72439beff86a0", func := "redress/redresslaw15.ValueFields", spec := "valueFields", unfollowed := true, recurses := true, named := ["redress/token.keywords", "internal/strconv.uint64pow10", "math/bits.deBruijn32tab", "math/bits.deBruijn64tab"], apart := false, laid := [("math/bits.deBruijn32tab", laid_math_bits_deBruijn32tab), ("math/bits.deBruijn64tab", laid_math_bits_deBruijn64tab), ("internal/strconv.uint64pow10", laid_internal_strconv_uint64pow10), ("redress/token.keywords", laid_redress_token_keywords)] }
def ValueFieldsSaid : Prop := valueFieldsRow.holds Tryz.pinned (OpenSpec.ofChange valueFieldsSpec)

/-- ITS FALSE NEIGHBOUR: 'it returns false'. Refute it at one input. -/
def valueFieldsWrong : ChangeSpec := { name := "valueFields", fn := fun _ => fun
  | [d1, d2, d3, d4] => { results := [.lit (.bool false)], args := [d1, d2, d3, d4] }
  | _ => none }
def ValueFieldsWrongFalsely : Prop := valueFieldsRow.holds Tryz.pinned (OpenSpec.ofChange valueFieldsWrong)

/-- 'redresslaw15.ValueLeast': WHATEVER THE INPUT: true; the input reads as it did. -/
def valueLeastSpec : ChangeSpec := { name := "valueLeast", fn := fun _ => fun
  | [d1, d2, d3] => { results := [.lit (.bool true)], args := [d1, d2, d3] }
  | _ => none }
def valueLeastRow : OpenClaim := { program := "ytnkdhmoocomjfaagreatdoor", sum := "639b12dc52a38a0f4d619c0025c4df6c1aae70d8f18b033060d72439beff86a0", func := "redress/redresslaw15.ValueLeast", spec := "valueLeast", unfollowed := true, recurses := true, named := ["redress/token.keywords", "internal/strconv.uint64pow10", "math/bits.deBruijn32tab", "math/bits.deBruijn64tab"], apart := false, laid := [("math/bits.deBruijn32tab", laid_math_bits_deBruijn32tab), ("math/bits.deBruijn64tab", laid_math_bits_deBruijn64tab), ("internal/strconv.uint64pow10", laid_internal_strconv_uint64pow10), ("redress/token.keywords", laid_redress_token_keywords)] }
def ValueLeastSaid : Prop := valueLeastRow.holds Tryz.pinned (OpenSpec.ofChange valueLeastSpec)

/-- ITS FALSE NEIGHBOUR: 'it returns false'. Refute it at one input. -/
def valueLeastWrong : ChangeSpec := { name := "valueLeast", fn := fun _ => fun
  | [d1, d2, d3] => { results := [.lit (.bool false)], args := [d1, d2, d3] }
  | _ => none }
def ValueLeastWrongFalsely : Prop := valueLeastRow.holds Tryz.pinned (OpenSpec.ofChange valueLeastWrong)

/-- 'redresslaw15.ValueWhole': WHATEVER THE INPUT: true; the input reads as it did. -/
def valueWholeSpec : ChangeSpec := { name := "valueWhole", fn := fun _ => fun
  | [d1, d2, d3, d4] => { results := [.lit (.bool true)], args := [d1, d2, d3, d4] }
  | _ => none }
def valueWholeRow : OpenClaim := { program := "ytnkdhmoocomjfaagreatdoor", sum := "639b12dc52a38a0f4d619c0025c4df6c1aae70d8f18b033060d72439beff86a0", func := "redress/redresslaw15.ValueWhole", spec := "valueWhole", unfollowed := true, recurses := true, named := ["redress/token.keywords", "internal/strconv.uint64pow10", "math/bits.deBruijn32tab", "math/bits.deBruijn64tab"], apart := false, laid := [("math/bits.deBruijn32tab", laid_math_bits_deBruijn32tab), ("math/bits.deBruijn64tab", laid_math_bits_deBruijn64tab), ("internal/strconv.uint64pow10", laid_internal_strconv_uint64pow10), ("redress/token.keywords", laid_redress_token_keywords)] }
def ValueWholeSaid : Prop := valueWholeRow.holds Tryz.pinned (OpenSpec.ofChange valueWholeSpec)

/-- ITS FALSE NEIGHBOUR: 'it returns false'. Refute it at one input. -/
def valueWholeWrong : ChangeSpec := { name := "valueWhole", fn := fun _ => fun
  | [d1, d2, d3, d4] => { results := [.lit (.bool false)], args := [d1, d2, d3, d4] }
  | _ => none }
def ValueWholeWrongFalsely : Prop := valueWholeRow.holds Tryz.pinned (OpenSpec.ofChange valueWholeWrong)

/-- 'redresslaw15.ValueWraps': WHATEVER THE INPUT: true; the input reads as it did. -/
def valueWrapsSpec : ChangeSpec := { name := "valueWraps", fn := fun _ => fun
  | [d1, d2, d3] => { results := [.lit (.bool true)], args := [d1, d2, d3] }
  | _ => none }
def valueWrapsRow : OpenClaim := { program := "ytnkdhmoocomjfaagreatdoor", sum := "639b12dc52a38a0f4d619c0025c4df6c1aae70d8f18b033060d72439beff86a0", func := "redress/redresslaw15.ValueWraps", spec := "valueWraps", unfollowed := true, recurses := true, named := ["redress/token.keywords", "internal/strconv.uint64pow10", "math/bits.deBruijn32tab", "math/bits.deBruijn64tab"], apart := false, laid := [("math/bits.deBruijn32tab", laid_math_bits_deBruijn32tab), ("math/bits.deBruijn64tab", laid_math_bits_deBruijn64tab), ("internal/strconv.uint64pow10", laid_internal_strconv_uint64pow10), ("redress/token.keywords", laid_redress_token_keywords)] }
def ValueWrapsSaid : Prop := valueWrapsRow.holds Tryz.pinned (OpenSpec.ofChange valueWrapsSpec)

/-- ITS FALSE NEIGHBOUR: 'it returns false'. Refute it at one input. -/
def valueWrapsWrong : ChangeSpec := { name := "valueWraps", fn := fun _ => fun
  | [d1, d2, d3] => { results := [.lit (.bool false)], args := [d1, d2, d3] }
  | _ => none }
def ValueWrapsWrongFalsely : Prop := valueWrapsRow.holds Tryz.pinned (OpenSpec.ofChange valueWrapsWrong)

/-- 'redresslaw15.ValueOwn': WHATEVER THE INPUT: true; the input reads as it did. -/
def valueOwnSpec : ChangeSpec := { name := "valueOwn", fn := fun _ => fun
  | [d1, d2, d3, d4] => { results := [.lit (.bool true)], args := [d1, d2, d3, d4] }
  | _ => none }
def valueOwnRow : OpenClaim := { program := "ytnkdhmoocomjfaagreatdoor", sum := "639b12dc52a38a0f4d619c0025c4df6c1aae70d8f18b033060d72439beff86a0", func := "redress/redresslaw15.ValueOwn", spec := "valueOwn", unfollowed := true, recurses := true, named := ["redress/token.keywords", "internal/strconv.uint64pow10", "math/bits.deBruijn32tab", "math/bits.deBruijn64tab"], apart := false, laid := [("math/bits.deBruijn32tab", laid_math_bits_deBruijn32tab), ("math/bits.deBruijn64tab", laid_math_bits_deBruijn64tab), ("internal/strconv.uint64pow10", laid_internal_strconv_uint64pow10), ("redress/token.keywords", laid_redress_token_keywords)] }
def ValueOwnSaid : Prop := valueOwnRow.holds Tryz.pinned (OpenSpec.ofChange valueOwnSpec)

/-- ITS FALSE NEIGHBOUR: 'it returns false'. Refute it at one input. -/
def valueOwnWrong : ChangeSpec := { name := "valueOwn", fn := fun _ => fun
  | [d1, d2, d3, d4] => { results := [.lit (.bool false)], args := [d1, d2, d3, d4] }
  | _ => none }
def ValueOwnWrongFalsely : Prop := valueOwnRow.holds Tryz.pinned (OpenSpec.ofChange valueOwnWrong)

/- THE SECOND FORM. 'bulk': how many values and letters a reading holds, each counted each time it is reached (what is shared counts as often as it is met; a slice's spare places count too). A statement '..UptoSaid' is the law's where the arguments, and the package variables that the reading takes, are together of bulk at most 1048576: NARROWER than '..Said'. Prove '..Said' where nothing that the law and all that it calls make is longer than what came in: it says more and counts as full. Else prove '..UptoSaid'. A law counts once. -/
mutual
def uptoBulk {H : Type} : DataW H → Nat
  | .lit (.string bytes) => bytes.length + 1
  | .lit _ => 1
  | .nil => 1
  | .ptr d => uptoBulk d + 1
  | .slice elems spare => uptoBulkAll elems + uptoBulkAll spare + 1
  | .agg parts => uptoBulkAll parts + 1
  | .iface _ d => uptoBulk d + 1
  | .map entries => uptoBulkEntries entries + 1
  | .held _ => 1
def uptoBulkAll {H : Type} : List (DataW H) → Nat
  | [] => 0
  | d :: r => uptoBulk d + uptoBulkAll r
def uptoBulkEntries {H : Type} : List (Lit × DataW H) → Nat
  | [] => 0
  | x :: r => uptoBulkEntry x + uptoBulkEntries r
def uptoBulkEntry {H : Type} : Lit × DataW H → Nat
  | (.string bytes, d) => bytes.length + uptoBulk d + 1
  | (_, d) => uptoBulk d + 1
 end
def uptoSmall : (H : Type) → List (DataW H) → Bool := fun _ ds => decide (uptoBulkAll ds ≤ 1048576)
def OpenSpec.upto (s : _root_.Go.ChangeSpec) : _root_.Go.OpenSpec := { _root_.Go.OpenSpec.ofChange s with cond := some uptoSmall }

/-- 'redresslaw13.CheckTells', WHERE WHAT IT READS IS OF BULK AT MOST 1048576: true; the input reads as it did. -/
def checkTellsUptoRow : OpenClaim := { program := "ytnkdhmoocomjfaagreatdoor", sum := "639b12dc52a38a0f4d619c0025c4df6c1aae70d8f18b033060d72439beff86a0", func := "redress/redresslaw13.CheckTells", spec := "checkTells", unfollowed := true, recurses := true, named := ["redress/token.keywords", "internal/strconv.uint64pow10", "math/bits.deBruijn32tab", "math/bits.deBruijn64tab"], apart := false, laid := [("math/bits.deBruijn32tab", laid_math_bits_deBruijn32tab), ("math/bits.deBruijn64tab", laid_math_bits_deBruijn64tab), ("internal/strconv.uint64pow10", laid_internal_strconv_uint64pow10), ("redress/token.keywords", laid_redress_token_keywords)], narrowed := true }
def CheckTellsUptoSaid : Prop := checkTellsUptoRow.holds Tryz.pinned (OpenSpec.upto checkTellsSpec)

/-- 'redresslaw13.CheckOwn', WHERE WHAT IT READS IS OF BULK AT MOST 1048576: true; the input reads as it did. -/
def checkOwnUptoRow : OpenClaim := { program := "ytnkdhmoocomjfaagreatdoor", sum := "639b12dc52a38a0f4d619c0025c4df6c1aae70d8f18b033060d72439beff86a0", func := "redress/redresslaw13.CheckOwn", spec := "checkOwn", unfollowed := true, recurses := true, named := ["redress/token.keywords", "internal/strconv.uint64pow10", "math/bits.deBruijn32tab", "math/bits.deBruijn64tab"], apart := false, laid := [("math/bits.deBruijn32tab", laid_math_bits_deBruijn32tab), ("math/bits.deBruijn64tab", laid_math_bits_deBruijn64tab), ("internal/strconv.uint64pow10", laid_internal_strconv_uint64pow10), ("redress/token.keywords", laid_redress_token_keywords)], narrowed := true }
def CheckOwnUptoSaid : Prop := checkOwnUptoRow.holds Tryz.pinned (OpenSpec.upto checkOwnSpec)

/-- 'redresslaw14.PrintsTexts', WHERE WHAT IT READS IS OF BULK AT MOST 1048576: true; the input reads as it did. -/
def printsTextsUptoRow : OpenClaim := { program := "ytnkdhmoocomjfaagreatdoor", sum := "639b12dc52a38a0f4d619c0025c4df6c1aae70d8f18b033060d72439beff86a0", func := "redress/redresslaw14.PrintsTexts", spec := "printsTexts", inPlace := ["internal/abi.NoEscape"], unfollowed := true, recurses := true, named := ["redress/token.keywords", "internal/strconv.uint64pow10", "math/bits.deBruijn32tab", "math/bits.deBruijn64tab"], apart := false, laid := [("math/bits.deBruijn32tab", laid_math_bits_deBruijn32tab), ("math/bits.deBruijn64tab", laid_math_bits_deBruijn64tab), ("internal/strconv.uint64pow10", laid_internal_strconv_uint64pow10), ("redress/token.keywords", laid_redress_token_keywords)], narrowed := true }
def PrintsTextsUptoSaid : Prop := printsTextsUptoRow.holds Tryz.pinned (OpenSpec.upto printsTextsSpec)

/-- 'redresslaw15.ValueFits', WHERE WHAT IT READS IS OF BULK AT MOST 1048576: true; the input reads as it did. -/
def valueFitsUptoRow : OpenClaim := { program := "ytnkdhmoocomjfaagreatdoor", sum := "639b12dc52a38a0f4d619c0025c4df6c1aae70d8f18b033060d72439beff86a0", func := "redress/redresslaw15.ValueFits", spec := "valueFits", unfollowed := true, recurses := true, named := ["redress/token.keywords", "internal/strconv.uint64pow10", "math/bits.deBruijn32tab", "math/bits.deBruijn64tab"], apart := false, laid := [("math/bits.deBruijn32tab", laid_math_bits_deBruijn32tab), ("math/bits.deBruijn64tab", laid_math_bits_deBruijn64tab), ("internal/strconv.uint64pow10", laid_internal_strconv_uint64pow10), ("redress/token.keywords", laid_redress_token_keywords)], narrowed := true }
def ValueFitsUptoSaid : Prop := valueFitsUptoRow.holds Tryz.pinned (OpenSpec.upto valueFitsSpec)

/-- 'redresslaw15.ValueEnds', WHERE WHAT IT READS IS OF BULK AT MOST 1048576: true; the input reads as it did. -/
def valueEndsUptoRow : OpenClaim := { program := "ytnkdhmoocomjfaagreatdoor", sum := "639b12dc52a38a0f4d619c0025c4df6c1aae70d8f18b033060d72439beff86a0", func := "redress/redresslaw15.ValueEnds", spec := "valueEnds", unfollowed := true, recurses := true, named := ["redress/token.keywords", "internal/strconv.uint64pow10", "math/bits.deBruijn32tab", "math/bits.deBruijn64tab"], apart := false, laid := [("math/bits.deBruijn32tab", laid_math_bits_deBruijn32tab), ("math/bits.deBruijn64tab", laid_math_bits_deBruijn64tab), ("internal/strconv.uint64pow10", laid_internal_strconv_uint64pow10), ("redress/token.keywords", laid_redress_token_keywords)], narrowed := true }
def ValueEndsUptoSaid : Prop := valueEndsUptoRow.holds Tryz.pinned (OpenSpec.upto valueEndsSpec)

/-- 'redresslaw15.ValueLeasts', WHERE WHAT IT READS IS OF BULK AT MOST 1048576: true; the input reads as it did. -/
def valueLeastsUptoRow : OpenClaim := { program := "ytnkdhmoocomjfaagreatdoor", sum := "639b12dc52a38a0f4d619c0025c4df6c1aae70d8f18b033060d72439beff86a0", func := "redress/redresslaw15.ValueLeasts", spec := "valueLeasts", unfollowed := true, recurses := true, named := ["redress/token.keywords", "internal/strconv.uint64pow10", "math/bits.deBruijn32tab", "math/bits.deBruijn64tab"], apart := false, laid := [("math/bits.deBruijn32tab", laid_math_bits_deBruijn32tab), ("math/bits.deBruijn64tab", laid_math_bits_deBruijn64tab), ("internal/strconv.uint64pow10", laid_internal_strconv_uint64pow10), ("redress/token.keywords", laid_redress_token_keywords)], narrowed := true }
def ValueLeastsUptoSaid : Prop := valueLeastsUptoRow.holds Tryz.pinned (OpenSpec.upto valueLeastsSpec)

/-- 'redresslaw15.ValueFields', WHERE WHAT IT READS IS OF BULK AT MOST 1048576: true; the input reads as it did. -/
def valueFieldsUptoRow : OpenClaim := { program := "ytnkdhmoocomjfaagreatdoor", sum := "639b12dc52a38a0f4d619c0025c4df6c1aae70d8f18b033060d72439beff86a0", func := "redress/redresslaw15.ValueFields", spec := "valueFields", unfollowed := true, recurses := true, named := ["redress/token.keywords", "internal/strconv.uint64pow10", "math/bits.deBruijn32tab", "math/bits.deBruijn64tab"], apart := false, laid := [("math/bits.deBruijn32tab", laid_math_bits_deBruijn32tab), ("math/bits.deBruijn64tab", laid_math_bits_deBruijn64tab), ("internal/strconv.uint64pow10", laid_internal_strconv_uint64pow10), ("redress/token.keywords", laid_redress_token_keywords)], narrowed := true }
def ValueFieldsUptoSaid : Prop := valueFieldsUptoRow.holds Tryz.pinned (OpenSpec.upto valueFieldsSpec)

/-- 'redresslaw15.ValueLeast', WHERE WHAT IT READS IS OF BULK AT MOST 1048576: true; the input reads as it did. -/
def valueLeastUptoRow : OpenClaim := { program := "ytnkdhmoocomjfaagreatdoor", sum := "639b12dc52a38a0f4d619c0025c4df6c1aae70d8f18b033060d72439beff86a0", func := "redress/redresslaw15.ValueLeast", spec := "valueLeast", unfollowed := true, recurses := true, named := ["redress/token.keywords", "internal/strconv.uint64pow10", "math/bits.deBruijn32tab", "math/bits.deBruijn64tab"], apart := false, laid := [("math/bits.deBruijn32tab", laid_math_bits_deBruijn32tab), ("math/bits.deBruijn64tab", laid_math_bits_deBruijn64tab), ("internal/strconv.uint64pow10", laid_internal_strconv_uint64pow10), ("redress/token.keywords", laid_redress_token_keywords)], narrowed := true }
def ValueLeastUptoSaid : Prop := valueLeastUptoRow.holds Tryz.pinned (OpenSpec.upto valueLeastSpec)

/-- 'redresslaw15.ValueWhole', WHERE WHAT IT READS IS OF BULK AT MOST 1048576: true; the input reads as it did. -/
def valueWholeUptoRow : OpenClaim := { program := "ytnkdhmoocomjfaagreatdoor", sum := "639b12dc52a38a0f4d619c0025c4df6c1aae70d8f18b033060d72439beff86a0", func := "redress/redresslaw15.ValueWhole", spec := "valueWhole", unfollowed := true, recurses := true, named := ["redress/token.keywords", "internal/strconv.uint64pow10", "math/bits.deBruijn32tab", "math/bits.deBruijn64tab"], apart := false, laid := [("math/bits.deBruijn32tab", laid_math_bits_deBruijn32tab), ("math/bits.deBruijn64tab", laid_math_bits_deBruijn64tab), ("internal/strconv.uint64pow10", laid_internal_strconv_uint64pow10), ("redress/token.keywords", laid_redress_token_keywords)], narrowed := true }
def ValueWholeUptoSaid : Prop := valueWholeUptoRow.holds Tryz.pinned (OpenSpec.upto valueWholeSpec)

/-- 'redresslaw15.ValueWraps', WHERE WHAT IT READS IS OF BULK AT MOST 1048576: true; the input reads as it did. -/
def valueWrapsUptoRow : OpenClaim := { program := "ytnkdhmoocomjfaagreatdoor", sum := "639b12dc52a38a0f4d619c0025c4df6c1aae70d8f18b033060d72439beff86a0", func := "redress/redresslaw15.ValueWraps", spec := "valueWraps", unfollowed := true, recurses := true, named := ["redress/token.keywords", "internal/strconv.uint64pow10", "math/bits.deBruijn32tab", "math/bits.deBruijn64tab"], apart := false, laid := [("math/bits.deBruijn32tab", laid_math_bits_deBruijn32tab), ("math/bits.deBruijn64tab", laid_math_bits_deBruijn64tab), ("internal/strconv.uint64pow10", laid_internal_strconv_uint64pow10), ("redress/token.keywords", laid_redress_token_keywords)], narrowed := true }
def ValueWrapsUptoSaid : Prop := valueWrapsUptoRow.holds Tryz.pinned (OpenSpec.upto valueWrapsSpec)

/-- 'redresslaw15.ValueOwn', WHERE WHAT IT READS IS OF BULK AT MOST 1048576: true; the input reads as it did. -/
def valueOwnUptoRow : OpenClaim := { program := "ytnkdhmoocomjfaagreatdoor", sum := "639b12dc52a38a0f4d619c0025c4df6c1aae70d8f18b033060d72439beff86a0", func := "redress/redresslaw15.ValueOwn", spec := "valueOwn", unfollowed := true, recurses := true, named := ["redress/token.keywords", "internal/strconv.uint64pow10", "math/bits.deBruijn32tab", "math/bits.deBruijn64tab"], apart := false, laid := [("math/bits.deBruijn32tab", laid_math_bits_deBruijn32tab), ("math/bits.deBruijn64tab", laid_math_bits_deBruijn64tab), ("internal/strconv.uint64pow10", laid_internal_strconv_uint64pow10), ("redress/token.keywords", laid_redress_token_keywords)], narrowed := true }
def ValueOwnUptoSaid : Prop := valueOwnUptoRow.holds Tryz.pinned (OpenSpec.upto valueOwnSpec)

end Rows
end Go.Proofs.YtnkdhmoocomjfaaGreatDoor
