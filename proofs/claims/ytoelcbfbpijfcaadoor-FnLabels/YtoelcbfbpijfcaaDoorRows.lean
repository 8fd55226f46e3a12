/-
  NARROWER THAN 'FOR EVERY INPUT', by the rows' own cells (each row's printed sentence says how): FnLabels: laid · FnLabelTexts: laid · FnExactGoodName: laid · FnExactGoodLabels: laid · FnExactSortLabels: laid · FnExactCompareLabels: laid · FnExactLabelsText: laid · FnExactReadLabels: laid · FnExactHashLabels: laid · FnExactIsFor: laid · FnExactWithoutNames: laid.
  DERIVED. THE GIVEN ROWS OF THIS SEAT. 11 by the template 'for every input the law returns true; each argument reads behind the call as it read before'; 0 by the template 'total and deterministic' (their statements: YtoelcbfbpijfcaaDoorTotals.lean).
  GIVEN WITH THE SEED: the statements are not yours to turn. If you find one false, say at which input.
  Laid BY PROGRAM, IN A SANDBOX (cutbox-rows.mjs): the forced cells as the released guide's own fill.sh prints them over the translation 42b889a1a4fad030… (all of the seat's roots in one cut). By AI agents, Wed Nov 11 2026. No macro, syntax, notation, axiom, sorry.
-/
import Derived.Test.YtoelcbfbpijfcaaDoorChecked
import GoSem.PinnedTables
import GoSem.Claim
import GoSem.ClaimJoined
import GoSem.ClaimMapViews
import Derived.JoinedTies
import Derived.KernelRfl
namespace Go.Proofs.YtoelcbfbpijfcaaDoor
/- THE CELL 'sum', in the pinned program and in every row, IS THE sha256 OF THE DUMP (.gsa) THAT YtoelcbfbpijfcaaDoorProg.lean LOADS. Nothing in Lean hashes anything: it is a label: what it is worth is what the hold of that sum in a sandbox is worth. -/
noncomputable def Tryd.pinned : Pinned := { name := "ytoelcbfbpijfcaadoor", sum := "42b889a1a4fad030ccc1ba2a21cef6bce9f2b08aa2eec408d9e5b7bf22dbdd47", checked := Tryd.checked }
namespace Rows
def none {H : Type} : Left H := { results := [], args := [] }

/- WHAT THE LISTED PACKAGE-LEVEL VARIABLES READ AS WHEN THE CALL BEGINS. Each datum BY PROGRAM (the guide's laid-datum.mjs) off the statement by which the dump's own 'gosem.cut.vars' lays the variable. In a bare row this is a premise. The card (YtoelcbfbpijfcaaDoorCards.lean) ties it to the program's text. -/
def laid_loop_example_g00747_impl_nameSpans {H : Type} : DataW H := .agg [.agg [.lit (.int .i32 97), .lit (.int .i32 122)], .agg [.lit (.int .i32 48), .lit (.int .i32 57)], .agg [.lit (.int .i32 95), .lit (.int .i32 95)]]
def laid_loop_example_g00747_impl_barredInWord {H : Type} : DataW H := .agg [.lit (.int .i32 34), .lit (.int .i32 44), .lit (.int .i32 123), .lit (.int .i32 125)]
def laid_unicode_utf8_acceptRanges {H : Type} : DataW H := .agg [.agg [.lit (.int .u8 128), .lit (.int .u8 191)], .agg [.lit (.int .u8 160), .lit (.int .u8 191)], .agg [.lit (.int .u8 128), .lit (.int .u8 159)], .agg [.lit (.int .u8 144), .lit (.int .u8 191)], .agg [.lit (.int .u8 128), .lit (.int .u8 143)], .agg [.lit (.int .u8 0), .lit (.int .u8 0)], .agg [.lit (.int .u8 0), .lit (.int .u8 0)], .agg [.lit (.int .u8 0), .lit (.int .u8 0)], .agg [.lit (.int .u8 0), .lit (.int .u8 0)], .agg [.lit (.int .u8 0), .lit (.int .u8 0)], .agg [.lit (.int .u8 0), .lit (.int .u8 0)], .agg [.lit (.int .u8 0), .lit (.int .u8 0)], .agg [.lit (.int .u8 0), .lit (.int .u8 0)], .agg [.lit (.int .u8 0), .lit (.int .u8 0)], .agg [.lit (.int .u8 0), .lit (.int .u8 0)], .agg [.lit (.int .u8 0), .lit (.int .u8 0)]]
/-- One of Go's own tables, pinned by name: the form's constant. -/
def laid_unicode_utf8_first : DataW Unit := Go.Pinned.utf8First

/-- 'laws.FnLabels': WHATEVER THE INPUT: true; the input reads as it did. -/
def fnLabelsSpec : ChangeSpec := { name := "fnLabels", vars := ["loop.example/g00747/impl.nameSpans", "loop.example/g00747/impl.barredInWord"], fn := fun _ => fun
  | [d1, d2, g1, g2] => { results := [.lit (.bool true)], args := [d1, d2], vars := [g1, g2] }
  | _ => none }
def fnLabelsRow : OpenClaim := { program := "ytoelcbfbpijfcaadoor", sum := "42b889a1a4fad030ccc1ba2a21cef6bce9f2b08aa2eec408d9e5b7bf22dbdd47", func := "loop.example/g00747/laws.FnLabels", spec := "fnLabels", inPlace := ["internal/bytealg.abigen_runtime_cmpstring"], unfollowed := true, recurses := true, named := ["loop.example/g00747/impl.nameSpans", "loop.example/g00747/impl.barredInWord"], apart := false, laid := [("loop.example/g00747/impl.nameSpans", laid_loop_example_g00747_impl_nameSpans), ("loop.example/g00747/impl.barredInWord", laid_loop_example_g00747_impl_barredInWord)] }
def FnLabelsSaid : Prop := fnLabelsRow.holds Tryd.pinned (OpenSpec.ofChange fnLabelsSpec)

/-- ITS FALSE NEIGHBOUR: 'it returns false'. Refute it at one input. -/
def fnLabelsWrong : ChangeSpec := { name := "fnLabels", vars := ["loop.example/g00747/impl.nameSpans", "loop.example/g00747/impl.barredInWord"], fn := fun _ => fun
  | [d1, d2, g1, g2] => { results := [.lit (.bool false)], args := [d1, d2], vars := [g1, g2] }
  | _ => none }
def FnLabelsWrongFalsely : Prop := fnLabelsRow.holds Tryd.pinned (OpenSpec.ofChange fnLabelsWrong)

/-- 'laws.FnLabelTexts': WHATEVER THE INPUT: true; the input reads as it did. -/
def fnLabelTextsSpec : ChangeSpec := { name := "fnLabelTexts", vars := ["loop.example/g00747/impl.nameSpans", "loop.example/g00747/impl.barredInWord"], fn := fun _ => fun
  | [d1, d2, g1, g2] => { results := [.lit (.bool true)], args := [d1, d2], vars := [g1, g2] }
  | _ => none }
def fnLabelTextsRow : OpenClaim := { program := "ytoelcbfbpijfcaadoor", sum := "42b889a1a4fad030ccc1ba2a21cef6bce9f2b08aa2eec408d9e5b7bf22dbdd47", func := "loop.example/g00747/laws.FnLabelTexts", spec := "fnLabelTexts", inPlace := ["internal/abi.NoEscape", "internal/bytealg.MakeNoZero", "internal/bytealg.CountString", "internal/bytealg.IndexByteString", "internal/bytealg.IndexString"], named := ["loop.example/g00747/impl.nameSpans", "loop.example/g00747/impl.barredInWord", "unicode/utf8.first", "unicode/utf8.acceptRanges", "internal/bytealg.MaxLen"], apart := false, laid := [("unicode/utf8.acceptRanges", laid_unicode_utf8_acceptRanges), ("loop.example/g00747/impl.nameSpans", laid_loop_example_g00747_impl_nameSpans), ("loop.example/g00747/impl.barredInWord", laid_loop_example_g00747_impl_barredInWord), ("unicode/utf8.first", laid_unicode_utf8_first)] }
def FnLabelTextsSaid : Prop := fnLabelTextsRow.holds Tryd.pinned (OpenSpec.ofChange fnLabelTextsSpec)

/-- ITS FALSE NEIGHBOUR: 'it returns false'. Refute it at one input. -/
def fnLabelTextsWrong : ChangeSpec := { name := "fnLabelTexts", vars := ["loop.example/g00747/impl.nameSpans", "loop.example/g00747/impl.barredInWord"], fn := fun _ => fun
  | [d1, d2, g1, g2] => { results := [.lit (.bool false)], args := [d1, d2], vars := [g1, g2] }
  | _ => none }
def FnLabelTextsWrongFalsely : Prop := fnLabelTextsRow.holds Tryd.pinned (OpenSpec.ofChange fnLabelTextsWrong)

/-- 'laws.FnExactGoodName': WHATEVER THE INPUT: true; the input reads as it did. -/
def fnExactGoodNameSpec : ChangeSpec := { name := "fnExactGoodName", vars := ["loop.example/g00747/impl.nameSpans"], fn := fun _ => fun
  | [d, g1] => { results := [.lit (.bool true)], args := [d], vars := [g1] }
  | _ => none }
def fnExactGoodNameRow : OpenClaim := { program := "ytoelcbfbpijfcaadoor", sum := "42b889a1a4fad030ccc1ba2a21cef6bce9f2b08aa2eec408d9e5b7bf22dbdd47", func := "loop.example/g00747/laws.FnExactGoodName", spec := "fnExactGoodName", named := ["loop.example/g00747/impl.nameSpans"], apart := false, laid := [("loop.example/g00747/impl.nameSpans", laid_loop_example_g00747_impl_nameSpans)] }
def FnExactGoodNameSaid : Prop := fnExactGoodNameRow.holds Tryd.pinned (OpenSpec.ofChange fnExactGoodNameSpec)

/-- ITS FALSE NEIGHBOUR: 'it returns false'. Refute it at one input. -/
def fnExactGoodNameWrong : ChangeSpec := { name := "fnExactGoodName", vars := ["loop.example/g00747/impl.nameSpans"], fn := fun _ => fun
  | [d, g1] => { results := [.lit (.bool false)], args := [d], vars := [g1] }
  | _ => none }
def FnExactGoodNameWrongFalsely : Prop := fnExactGoodNameRow.holds Tryd.pinned (OpenSpec.ofChange fnExactGoodNameWrong)

/-- 'laws.FnExactGoodLabels': WHATEVER THE INPUT: true; the input reads as it did. -/
def fnExactGoodLabelsSpec : ChangeSpec := { name := "fnExactGoodLabels", vars := ["loop.example/g00747/impl.nameSpans", "loop.example/g00747/impl.barredInWord"], fn := fun _ => fun
  | [d, g1, g2] => { results := [.lit (.bool true)], args := [d], vars := [g1, g2] }
  | _ => none }
def fnExactGoodLabelsRow : OpenClaim := { program := "ytoelcbfbpijfcaadoor", sum := "42b889a1a4fad030ccc1ba2a21cef6bce9f2b08aa2eec408d9e5b7bf22dbdd47", func := "loop.example/g00747/laws.FnExactGoodLabels", spec := "fnExactGoodLabels", named := ["loop.example/g00747/impl.nameSpans", "loop.example/g00747/impl.barredInWord"], apart := false, laid := [("loop.example/g00747/impl.nameSpans", laid_loop_example_g00747_impl_nameSpans), ("loop.example/g00747/impl.barredInWord", laid_loop_example_g00747_impl_barredInWord)] }
def FnExactGoodLabelsSaid : Prop := fnExactGoodLabelsRow.holds Tryd.pinned (OpenSpec.ofChange fnExactGoodLabelsSpec)

/-- ITS FALSE NEIGHBOUR: 'it returns false'. Refute it at one input. -/
def fnExactGoodLabelsWrong : ChangeSpec := { name := "fnExactGoodLabels", vars := ["loop.example/g00747/impl.nameSpans", "loop.example/g00747/impl.barredInWord"], fn := fun _ => fun
  | [d, g1, g2] => { results := [.lit (.bool false)], args := [d], vars := [g1, g2] }
  | _ => none }
def FnExactGoodLabelsWrongFalsely : Prop := fnExactGoodLabelsRow.holds Tryd.pinned (OpenSpec.ofChange fnExactGoodLabelsWrong)

/-- 'laws.FnExactSortLabels': WHATEVER THE INPUT: true; the input reads as it did. -/
def fnExactSortLabelsSpec : ChangeSpec := { name := "fnExactSortLabels", vars := ["loop.example/g00747/impl.nameSpans", "loop.example/g00747/impl.barredInWord"], fn := fun _ => fun
  | [d, g1, g2] => { results := [.lit (.bool true)], args := [d], vars := [g1, g2] }
  | _ => none }
def fnExactSortLabelsRow : OpenClaim := { program := "ytoelcbfbpijfcaadoor", sum := "42b889a1a4fad030ccc1ba2a21cef6bce9f2b08aa2eec408d9e5b7bf22dbdd47", func := "loop.example/g00747/laws.FnExactSortLabels", spec := "fnExactSortLabels", inPlace := ["internal/bytealg.abigen_runtime_cmpstring"], unfollowed := true, recurses := true, named := ["loop.example/g00747/impl.nameSpans", "loop.example/g00747/impl.barredInWord"], apart := false, laid := [("loop.example/g00747/impl.nameSpans", laid_loop_example_g00747_impl_nameSpans), ("loop.example/g00747/impl.barredInWord", laid_loop_example_g00747_impl_barredInWord)] }
def FnExactSortLabelsSaid : Prop := fnExactSortLabelsRow.holds Tryd.pinned (OpenSpec.ofChange fnExactSortLabelsSpec)

/-- ITS FALSE NEIGHBOUR: 'it returns false'. Refute it at one input. -/
def fnExactSortLabelsWrong : ChangeSpec := { name := "fnExactSortLabels", vars := ["loop.example/g00747/impl.nameSpans", "loop.example/g00747/impl.barredInWord"], fn := fun _ => fun
  | [d, g1, g2] => { results := [.lit (.bool false)], args := [d], vars := [g1, g2] }
  | _ => none }
def FnExactSortLabelsWrongFalsely : Prop := fnExactSortLabelsRow.holds Tryd.pinned (OpenSpec.ofChange fnExactSortLabelsWrong)

/-- 'laws.FnExactCompareLabels': WHATEVER THE INPUT: true; the input reads as it did. -/
def fnExactCompareLabelsSpec : ChangeSpec := { name := "fnExactCompareLabels", vars := ["loop.example/g00747/impl.nameSpans", "loop.example/g00747/impl.barredInWord"], fn := fun _ => fun
  | [d1, d2, g1, g2] => { results := [.lit (.bool true)], args := [d1, d2], vars := [g1, g2] }
  | _ => none }
def fnExactCompareLabelsRow : OpenClaim := { program := "ytoelcbfbpijfcaadoor", sum := "42b889a1a4fad030ccc1ba2a21cef6bce9f2b08aa2eec408d9e5b7bf22dbdd47", func := "loop.example/g00747/laws.FnExactCompareLabels", spec := "fnExactCompareLabels", inPlace := ["internal/bytealg.abigen_runtime_cmpstring"], unfollowed := true, recurses := true, named := ["loop.example/g00747/impl.nameSpans", "loop.example/g00747/impl.barredInWord"], apart := false, laid := [("loop.example/g00747/impl.nameSpans", laid_loop_example_g00747_impl_nameSpans), ("loop.example/g00747/impl.barredInWord", laid_loop_example_g00747_impl_barredInWord)] }
def FnExactCompareLabelsSaid : Prop := fnExactCompareLabelsRow.holds Tryd.pinned (OpenSpec.ofChange fnExactCompareLabelsSpec)

/-- ITS FALSE NEIGHBOUR: 'it returns false'. Refute it at one input. -/
def fnExactCompareLabelsWrong : ChangeSpec := { name := "fnExactCompareLabels", vars := ["loop.example/g00747/impl.nameSpans", "loop.example/g00747/impl.barredInWord"], fn := fun _ => fun
  | [d1, d2, g1, g2] => { results := [.lit (.bool false)], args := [d1, d2], vars := [g1, g2] }
  | _ => none }
def FnExactCompareLabelsWrongFalsely : Prop := fnExactCompareLabelsRow.holds Tryd.pinned (OpenSpec.ofChange fnExactCompareLabelsWrong)

/-- 'laws.FnExactLabelsText': WHATEVER THE INPUT: true; the input reads as it did. -/
def fnExactLabelsTextSpec : ChangeSpec := { name := "fnExactLabelsText", vars := ["loop.example/g00747/impl.nameSpans", "loop.example/g00747/impl.barredInWord"], fn := fun _ => fun
  | [d, g1, g2] => { results := [.lit (.bool true)], args := [d], vars := [g1, g2] }
  | _ => none }
def fnExactLabelsTextRow : OpenClaim := { program := "ytoelcbfbpijfcaadoor", sum := "42b889a1a4fad030ccc1ba2a21cef6bce9f2b08aa2eec408d9e5b7bf22dbdd47", func := "loop.example/g00747/laws.FnExactLabelsText", spec := "fnExactLabelsText", inPlace := ["internal/abi.NoEscape", "internal/bytealg.MakeNoZero"], named := ["loop.example/g00747/impl.nameSpans", "loop.example/g00747/impl.barredInWord"], apart := false, laid := [("loop.example/g00747/impl.nameSpans", laid_loop_example_g00747_impl_nameSpans), ("loop.example/g00747/impl.barredInWord", laid_loop_example_g00747_impl_barredInWord)] }
def FnExactLabelsTextSaid : Prop := fnExactLabelsTextRow.holds Tryd.pinned (OpenSpec.ofChange fnExactLabelsTextSpec)

/-- ITS FALSE NEIGHBOUR: 'it returns false'. Refute it at one input. -/
def fnExactLabelsTextWrong : ChangeSpec := { name := "fnExactLabelsText", vars := ["loop.example/g00747/impl.nameSpans", "loop.example/g00747/impl.barredInWord"], fn := fun _ => fun
  | [d, g1, g2] => { results := [.lit (.bool false)], args := [d], vars := [g1, g2] }
  | _ => none }
def FnExactLabelsTextWrongFalsely : Prop := fnExactLabelsTextRow.holds Tryd.pinned (OpenSpec.ofChange fnExactLabelsTextWrong)

/-- 'laws.FnExactReadLabels': WHATEVER THE INPUT: true; the input reads as it did. -/
def fnExactReadLabelsSpec : ChangeSpec := { name := "fnExactReadLabels", vars := ["loop.example/g00747/impl.nameSpans", "loop.example/g00747/impl.barredInWord"], fn := fun _ => fun
  | [d, g1, g2] => { results := [.lit (.bool true)], args := [d], vars := [g1, g2] }
  | _ => none }
def fnExactReadLabelsRow : OpenClaim := { program := "ytoelcbfbpijfcaadoor", sum := "42b889a1a4fad030ccc1ba2a21cef6bce9f2b08aa2eec408d9e5b7bf22dbdd47", func := "loop.example/g00747/laws.FnExactReadLabels", spec := "fnExactReadLabels", inPlace := ["internal/bytealg.CountString", "internal/bytealg.IndexByteString", "internal/bytealg.IndexString", "internal/abi.NoEscape", "internal/bytealg.MakeNoZero"], named := ["unicode/utf8.first", "unicode/utf8.acceptRanges", "internal/bytealg.MaxLen", "loop.example/g00747/impl.nameSpans", "loop.example/g00747/impl.barredInWord"], apart := false, laid := [("unicode/utf8.acceptRanges", laid_unicode_utf8_acceptRanges), ("loop.example/g00747/impl.nameSpans", laid_loop_example_g00747_impl_nameSpans), ("loop.example/g00747/impl.barredInWord", laid_loop_example_g00747_impl_barredInWord), ("unicode/utf8.first", laid_unicode_utf8_first)] }
def FnExactReadLabelsSaid : Prop := fnExactReadLabelsRow.holds Tryd.pinned (OpenSpec.ofChange fnExactReadLabelsSpec)

/-- ITS FALSE NEIGHBOUR: 'it returns false'. Refute it at one input. -/
def fnExactReadLabelsWrong : ChangeSpec := { name := "fnExactReadLabels", vars := ["loop.example/g00747/impl.nameSpans", "loop.example/g00747/impl.barredInWord"], fn := fun _ => fun
  | [d, g1, g2] => { results := [.lit (.bool false)], args := [d], vars := [g1, g2] }
  | _ => none }
def FnExactReadLabelsWrongFalsely : Prop := fnExactReadLabelsRow.holds Tryd.pinned (OpenSpec.ofChange fnExactReadLabelsWrong)

/-- 'laws.FnExactHashLabels': WHATEVER THE INPUT: true; the input reads as it did. -/
def fnExactHashLabelsSpec : ChangeSpec := { name := "fnExactHashLabels", vars := ["loop.example/g00747/impl.nameSpans", "loop.example/g00747/impl.barredInWord"], fn := fun _ => fun
  | [d, g1, g2] => { results := [.lit (.bool true)], args := [d], vars := [g1, g2] }
  | _ => none }
def fnExactHashLabelsRow : OpenClaim := { program := "ytoelcbfbpijfcaadoor", sum := "42b889a1a4fad030ccc1ba2a21cef6bce9f2b08aa2eec408d9e5b7bf22dbdd47", func := "loop.example/g00747/laws.FnExactHashLabels", spec := "fnExactHashLabels", inPlace := ["internal/abi.NoEscape", "internal/bytealg.MakeNoZero"], named := ["loop.example/g00747/impl.nameSpans", "loop.example/g00747/impl.barredInWord"], apart := false, laid := [("loop.example/g00747/impl.nameSpans", laid_loop_example_g00747_impl_nameSpans), ("loop.example/g00747/impl.barredInWord", laid_loop_example_g00747_impl_barredInWord)] }
def FnExactHashLabelsSaid : Prop := fnExactHashLabelsRow.holds Tryd.pinned (OpenSpec.ofChange fnExactHashLabelsSpec)

/-- ITS FALSE NEIGHBOUR: 'it returns false'. Refute it at one input. -/
def fnExactHashLabelsWrong : ChangeSpec := { name := "fnExactHashLabels", vars := ["loop.example/g00747/impl.nameSpans", "loop.example/g00747/impl.barredInWord"], fn := fun _ => fun
  | [d, g1, g2] => { results := [.lit (.bool false)], args := [d], vars := [g1, g2] }
  | _ => none }
def FnExactHashLabelsWrongFalsely : Prop := fnExactHashLabelsRow.holds Tryd.pinned (OpenSpec.ofChange fnExactHashLabelsWrong)

/-- 'laws.FnExactIsFor': WHATEVER THE INPUT: true; the input reads as it did. -/
def fnExactIsForSpec : ChangeSpec := { name := "fnExactIsFor", vars := ["loop.example/g00747/impl.nameSpans", "loop.example/g00747/impl.barredInWord"], fn := fun _ => fun
  | [d1, d2, g1, g2] => { results := [.lit (.bool true)], args := [d1, d2], vars := [g1, g2] }
  | _ => none }
def fnExactIsForRow : OpenClaim := { program := "ytoelcbfbpijfcaadoor", sum := "42b889a1a4fad030ccc1ba2a21cef6bce9f2b08aa2eec408d9e5b7bf22dbdd47", func := "loop.example/g00747/laws.FnExactIsFor", spec := "fnExactIsFor", named := ["loop.example/g00747/impl.nameSpans", "loop.example/g00747/impl.barredInWord"], apart := false, laid := [("loop.example/g00747/impl.nameSpans", laid_loop_example_g00747_impl_nameSpans), ("loop.example/g00747/impl.barredInWord", laid_loop_example_g00747_impl_barredInWord)] }
def FnExactIsForSaid : Prop := fnExactIsForRow.holds Tryd.pinned (OpenSpec.ofChange fnExactIsForSpec)

/-- ITS FALSE NEIGHBOUR: 'it returns false'. Refute it at one input. -/
def fnExactIsForWrong : ChangeSpec := { name := "fnExactIsFor", vars := ["loop.example/g00747/impl.nameSpans", "loop.example/g00747/impl.barredInWord"], fn := fun _ => fun
  | [d1, d2, g1, g2] => { results := [.lit (.bool false)], args := [d1, d2], vars := [g1, g2] }
  | _ => none }
def FnExactIsForWrongFalsely : Prop := fnExactIsForRow.holds Tryd.pinned (OpenSpec.ofChange fnExactIsForWrong)

/-- 'laws.FnExactWithoutNames': WHATEVER THE INPUT: true; the input reads as it did. -/
def fnExactWithoutNamesSpec : ChangeSpec := { name := "fnExactWithoutNames", vars := ["loop.example/g00747/impl.nameSpans", "loop.example/g00747/impl.barredInWord"], fn := fun _ => fun
  | [d1, d2, g1, g2] => { results := [.lit (.bool true)], args := [d1, d2], vars := [g1, g2] }
  | _ => none }
def fnExactWithoutNamesRow : OpenClaim := { program := "ytoelcbfbpijfcaadoor", sum := "42b889a1a4fad030ccc1ba2a21cef6bce9f2b08aa2eec408d9e5b7bf22dbdd47", func := "loop.example/g00747/laws.FnExactWithoutNames", spec := "fnExactWithoutNames", named := ["loop.example/g00747/impl.nameSpans", "loop.example/g00747/impl.barredInWord"], apart := false, laid := [("loop.example/g00747/impl.nameSpans", laid_loop_example_g00747_impl_nameSpans), ("loop.example/g00747/impl.barredInWord", laid_loop_example_g00747_impl_barredInWord)] }
def FnExactWithoutNamesSaid : Prop := fnExactWithoutNamesRow.holds Tryd.pinned (OpenSpec.ofChange fnExactWithoutNamesSpec)

/-- ITS FALSE NEIGHBOUR: 'it returns false'. Refute it at one input. -/
def fnExactWithoutNamesWrong : ChangeSpec := { name := "fnExactWithoutNames", vars := ["loop.example/g00747/impl.nameSpans", "loop.example/g00747/impl.barredInWord"], fn := fun _ => fun
  | [d1, d2, g1, g2] => { results := [.lit (.bool false)], args := [d1, d2], vars := [g1, g2] }
  | _ => none }
def FnExactWithoutNamesWrongFalsely : Prop := fnExactWithoutNamesRow.holds Tryd.pinned (OpenSpec.ofChange fnExactWithoutNamesWrong)

/- THE SECOND FORM. 'bulk': how many values and letters a reading holds, each counted each time it is reached (what is shared counts as often as it is met; a slice's spare places count too). A statement '..UptoSaid' is the law's where the arguments, and the package variables that the reading takes, are together of bulk at most 1048576: NARROWER than '..Said'. Prove '..Said' where nothing that the law and all that it calls make is longer than what came in: it says more and counts as full. Else prove '..UptoSaid'. A law counts once. -/
mutual
def uptoBulk {H : Type} : DataW H → Nat
  | .lit (.string bytes) => bytes.length + 1
  | .lit _ => 1
  | .nil => 1
  | .ptr d => uptoBulk d + 1
  | .slice elems spare => uptoBulkAll elems + uptoBulkAll spare + 1
  | .agg parts => uptoBulkAll parts + 1
  | .iface _ d => uptoBulk d + 1
  | .map entries => uptoBulkEntries entries + 1
  | .held _ => 1
def uptoBulkAll {H : Type} : List (DataW H) → Nat
  | [] => 0
  | d :: r => uptoBulk d + uptoBulkAll r
def uptoBulkEntries {H : Type} : List (Lit × DataW H) → Nat
  | [] => 0
  | x :: r => uptoBulkEntry x + uptoBulkEntries r
def uptoBulkEntry {H : Type} : Lit × DataW H → Nat
  | (.string bytes, d) => bytes.length + uptoBulk d + 1
  | (_, d) => uptoBulk d + 1
 end
def uptoSmall : (H : Type) → List (DataW H) → Bool := fun _ ds => decide (uptoBulkAll ds ≤ 1048576)
def OpenSpec.upto (s : _root_.Go.ChangeSpec) : _root_.Go.OpenSpec := { _root_.Go.OpenSpec.ofChange s with cond := some uptoSmall }

/-- 'laws.FnLabels', WHERE WHAT IT READS IS OF BULK AT MOST 1048576: true; the input reads as it did. -/
def fnLabelsUptoRow : OpenClaim := { program := "ytoelcbfbpijfcaadoor", sum := "42b889a1a4fad030ccc1ba2a21cef6bce9f2b08aa2eec408d9e5b7bf22dbdd47", func := "loop.example/g00747/laws.FnLabels", spec := "fnLabels", inPlace := ["internal/bytealg.abigen_runtime_cmpstring"], unfollowed := true, recurses := true, named := ["loop.example/g00747/impl.nameSpans", "loop.example/g00747/impl.barredInWord"], apart := false, laid := [("loop.example/g00747/impl.nameSpans", laid_loop_example_g00747_impl_nameSpans), ("loop.example/g00747/impl.barredInWord", laid_loop_example_g00747_impl_barredInWord)], narrowed := true }
def FnLabelsUptoSaid : Prop := fnLabelsUptoRow.holds Tryd.pinned (OpenSpec.upto fnLabelsSpec)

/-- 'laws.FnLabelTexts', WHERE WHAT IT READS IS OF BULK AT MOST 1048576: true; the input reads as it did. -/
def fnLabelTextsUptoRow : OpenClaim := { program := "ytoelcbfbpijfcaadoor", sum := "42b889a1a4fad030ccc1ba2a21cef6bce9f2b08aa2eec408d9e5b7bf22dbdd47", func := "loop.example/g00747/laws.FnLabelTexts", spec := "fnLabelTexts", inPlace := ["internal/abi.NoEscape", "internal/bytealg.MakeNoZero", "internal/bytealg.CountString", "internal/bytealg.IndexByteString", "internal/bytealg.IndexString"], named := ["loop.example/g00747/impl.nameSpans", "loop.example/g00747/impl.barredInWord", "unicode/utf8.first", "unicode/utf8.acceptRanges", "internal/bytealg.MaxLen"], apart := false, laid := [("unicode/utf8.acceptRanges", laid_unicode_utf8_acceptRanges), ("loop.example/g00747/impl.nameSpans", laid_loop_example_g00747_impl_nameSpans), ("loop.example/g00747/impl.barredInWord", laid_loop_example_g00747_impl_barredInWord), ("unicode/utf8.first", laid_unicode_utf8_first)], narrowed := true }
def FnLabelTextsUptoSaid : Prop := fnLabelTextsUptoRow.holds Tryd.pinned (OpenSpec.upto fnLabelTextsSpec)

/-- 'laws.FnExactGoodName', WHERE WHAT IT READS IS OF BULK AT MOST 1048576: true; the input reads as it did. -/
def fnExactGoodNameUptoRow : OpenClaim := { program := "ytoelcbfbpijfcaadoor", sum := "42b889a1a4fad030ccc1ba2a21cef6bce9f2b08aa2eec408d9e5b7bf22dbdd47", func := "loop.example/g00747/laws.FnExactGoodName", spec := "fnExactGoodName", named := ["loop.example/g00747/impl.nameSpans"], apart := false, laid := [("loop.example/g00747/impl.nameSpans", laid_loop_example_g00747_impl_nameSpans)], narrowed := true }
def FnExactGoodNameUptoSaid : Prop := fnExactGoodNameUptoRow.holds Tryd.pinned (OpenSpec.upto fnExactGoodNameSpec)

/-- 'laws.FnExactGoodLabels', WHERE WHAT IT READS IS OF BULK AT MOST 1048576: true; the input reads as it did. -/
def fnExactGoodLabelsUptoRow : OpenClaim := { program := "ytoelcbfbpijfcaadoor", sum := "42b889a1a4fad030ccc1ba2a21cef6bce9f2b08aa2eec408d9e5b7bf22dbdd47", func := "loop.example/g00747/laws.FnExactGoodLabels", spec := "fnExactGoodLabels", named := ["loop.example/g00747/impl.nameSpans", "loop.example/g00747/impl.barredInWord"], apart := false, laid := [("loop.example/g00747/impl.nameSpans", laid_loop_example_g00747_impl_nameSpans), ("loop.example/g00747/impl.barredInWord", laid_loop_example_g00747_impl_barredInWord)], narrowed := true }
def FnExactGoodLabelsUptoSaid : Prop := fnExactGoodLabelsUptoRow.holds Tryd.pinned (OpenSpec.upto fnExactGoodLabelsSpec)

/-- 'laws.FnExactSortLabels', WHERE WHAT IT READS IS OF BULK AT MOST 1048576: true; the input reads as it did. -/
def fnExactSortLabelsUptoRow : OpenClaim := { program := "ytoelcbfbpijfcaadoor", sum := "42b889a1a4fad030ccc1ba2a21cef6bce9f2b08aa2eec408d9e5b7bf22dbdd47", func := "loop.example/g00747/laws.FnExactSortLabels", spec := "fnExactSortLabels", inPlace := ["internal/bytealg.abigen_runtime_cmpstring"], unfollowed := true, recurses := true, named := ["loop.example/g00747/impl.nameSpans", "loop.example/g00747/impl.barredInWord"], apart := false, laid := [("loop.example/g00747/impl.nameSpans", laid_loop_example_g00747_impl_nameSpans), ("loop.example/g00747/impl.barredInWord", laid_loop_example_g00747_impl_barredInWord)], narrowed := true }
def FnExactSortLabelsUptoSaid : Prop := fnExactSortLabelsUptoRow.holds Tryd.pinned (OpenSpec.upto fnExactSortLabelsSpec)

/-- 'laws.FnExactCompareLabels', WHERE WHAT IT READS IS OF BULK AT MOST 1048576: true; the input reads as it did. -/
def fnExactCompareLabelsUptoRow : OpenClaim := { program := "ytoelcbfbpijfcaadoor", sum := "42b889a1a4fad030ccc1ba2a21cef6bce9f2b08aa2eec408d9e5b7bf22dbdd47", func := "loop.example/g00747/laws.FnExactCompareLabels", spec := "fnExactCompareLabels", inPlace := ["internal/bytealg.abigen_runtime_cmpstring"], unfollowed := true, recurses := true, named := ["loop.example/g00747/impl.nameSpans", "loop.example/g00747/impl.barredInWord"], apart := false, laid := [("loop.example/g00747/impl.nameSpans", laid_loop_example_g00747_impl_nameSpans), ("loop.example/g00747/impl.barredInWord", laid_loop_example_g00747_impl_barredInWord)], narrowed := true }
def FnExactCompareLabelsUptoSaid : Prop := fnExactCompareLabelsUptoRow.holds Tryd.pinned (OpenSpec.upto fnExactCompareLabelsSpec)

/-- 'laws.FnExactLabelsText', WHERE WHAT IT READS IS OF BULK AT MOST 1048576: true; the input reads as it did. -/
def fnExactLabelsTextUptoRow : OpenClaim := { program := "ytoelcbfbpijfcaadoor", sum := "42b889a1a4fad030ccc1ba2a21cef6bce9f2b08aa2eec408d9e5b7bf22dbdd47", func := "loop.example/g00747/laws.FnExactLabelsText", spec := "fnExactLabelsText", inPlace := ["internal/abi.NoEscape", "internal/bytealg.MakeNoZero"], named := ["loop.example/g00747/impl.nameSpans", "loop.example/g00747/impl.barredInWord"], apart := false, laid := [("loop.example/g00747/impl.nameSpans", laid_loop_example_g00747_impl_nameSpans), ("loop.example/g00747/impl.barredInWord", laid_loop_example_g00747_impl_barredInWord)], narrowed := true }
def FnExactLabelsTextUptoSaid : Prop := fnExactLabelsTextUptoRow.holds Tryd.pinned (OpenSpec.upto fnExactLabelsTextSpec)

/-- 'laws.FnExactReadLabels', WHERE WHAT IT READS IS OF BULK AT MOST 1048576: true; the input reads as it did. -/
def fnExactReadLabelsUptoRow : OpenClaim := { program := "ytoelcbfbpijfcaadoor", sum := "42b889a1a4fad030ccc1ba2a21cef6bce9f2b08aa2eec408d9e5b7bf22dbdd47", func := "loop.example/g00747/laws.FnExactReadLabels", spec := "fnExactReadLabels", inPlace := ["internal/bytealg.CountString", "internal/bytealg.IndexByteString", "internal/bytealg.IndexString", "internal/abi.NoEscape", "internal/bytealg.MakeNoZero"], named := ["unicode/utf8.first", "unicode/utf8.acceptRanges", "internal/bytealg.MaxLen", "loop.example/g00747/impl.nameSpans", "loop.example/g00747/impl.barredInWord"], apart := false, laid := [("unicode/utf8.acceptRanges", laid_unicode_utf8_acceptRanges), ("loop.example/g00747/impl.nameSpans", laid_loop_example_g00747_impl_nameSpans), ("loop.example/g00747/impl.barredInWord", laid_loop_example_g00747_impl_barredInWord), ("unicode/utf8.first", laid_unicode_utf8_first)], narrowed := true }
def FnExactReadLabelsUptoSaid : Prop := fnExactReadLabelsUptoRow.holds Tryd.pinned (OpenSpec.upto fnExactReadLabelsSpec)

/-- 'laws.FnExactHashLabels', WHERE WHAT IT READS IS OF BULK AT MOST 1048576: true; the input reads as it did. -/
def fnExactHashLabelsUptoRow : OpenClaim := { program := "ytoelcbfbpijfcaadoor", sum := "42b889a1a4fad030ccc1ba2a21cef6bce9f2b08aa2eec408d9e5b7bf22dbdd47", func := "loop.example/g00747/laws.FnExactHashLabels", spec := "fnExactHashLabels", inPlace := ["internal/abi.NoEscape", "internal/bytealg.MakeNoZero"], named := ["loop.example/g00747/impl.nameSpans", "loop.example/g00747/impl.barredInWord"], apart := false, laid := [("loop.example/g00747/impl.nameSpans", laid_loop_example_g00747_impl_nameSpans), ("loop.example/g00747/impl.barredInWord", laid_loop_example_g00747_impl_barredInWord)], narrowed := true }
def FnExactHashLabelsUptoSaid : Prop := fnExactHashLabelsUptoRow.holds Tryd.pinned (OpenSpec.upto fnExactHashLabelsSpec)

/-- 'laws.FnExactIsFor', WHERE WHAT IT READS IS OF BULK AT MOST 1048576: true; the input reads as it did. -/
def fnExactIsForUptoRow : OpenClaim := { program := "ytoelcbfbpijfcaadoor", sum := "42b889a1a4fad030ccc1ba2a21cef6bce9f2b08aa2eec408d9e5b7bf22dbdd47", func := "loop.example/g00747/laws.FnExactIsFor", spec := "fnExactIsFor", named := ["loop.example/g00747/impl.nameSpans", "loop.example/g00747/impl.barredInWord"], apart := false, laid := [("loop.example/g00747/impl.nameSpans", laid_loop_example_g00747_impl_nameSpans), ("loop.example/g00747/impl.barredInWord", laid_loop_example_g00747_impl_barredInWord)], narrowed := true }
def FnExactIsForUptoSaid : Prop := fnExactIsForUptoRow.holds Tryd.pinned (OpenSpec.upto fnExactIsForSpec)

/-- 'laws.FnExactWithoutNames', WHERE WHAT IT READS IS OF BULK AT MOST 1048576: true; the input reads as it did. -/
def fnExactWithoutNamesUptoRow : OpenClaim := { program := "ytoelcbfbpijfcaadoor", sum := "42b889a1a4fad030ccc1ba2a21cef6bce9f2b08aa2eec408d9e5b7bf22dbdd47", func := "loop.example/g00747/laws.FnExactWithoutNames", spec := "fnExactWithoutNames", named := ["loop.example/g00747/impl.nameSpans", "loop.example/g00747/impl.barredInWord"], apart := false, laid := [("loop.example/g00747/impl.nameSpans", laid_loop_example_g00747_impl_nameSpans), ("loop.example/g00747/impl.barredInWord", laid_loop_example_g00747_impl_barredInWord)], narrowed := true }
def FnExactWithoutNamesUptoSaid : Prop := fnExactWithoutNamesUptoRow.holds Tryd.pinned (OpenSpec.upto fnExactWithoutNamesSpec)

end Rows
end Go.Proofs.YtoelcbfbpijfcaaDoor
