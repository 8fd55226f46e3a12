/-
  NARROWER THAN 'FOR EVERY INPUT', by the rows' own cells (each row's printed sentence says how): FnLabelTexts: laid · FnMatches: laid · FnMatcherTexts: laid · FnExactReadLabels: laid · FnExactGoodMatchers: laid · FnExactIsLike: laid · FnExactMatches: laid · FnExactMatchesAll: laid · FnExactMatcherText: laid · FnExactReadMatcher: laid · FnExactTakesNone: laid.
  DERIVED. THE GIVEN ROWS OF THIS SEAT. 11 by the template 'for every input the law returns true; each argument reads behind the call as it read before'; 0 by the template 'total and deterministic' (their statements: YtpbcgfgjdimpmaaDoorTotals.lean).
  GIVEN WITH THE SEED: the statements are not yours to turn. If you find one false, say at which input.
  Laid BY PROGRAM, IN A SANDBOX (cutbox-rows.mjs): the forced cells as the released guide's own fill.sh prints them over the translation 54de25941d2bfdec… (all of the seat's roots in one cut). By AI agents, Wed Nov 11 2026. No macro, syntax, notation, axiom, sorry.
-/
import Derived.Test.YtpbcgfgjdimpmaaDoorChecked
import GoSem.PinnedTables
import GoSem.Claim
import GoSem.ClaimJoined
import GoSem.ClaimMapViews
import Derived.JoinedTies
import Derived.KernelRfl
namespace Go.Proofs.YtpbcgfgjdimpmaaDoor
/- THE CELL 'sum', in the pinned program and in every row, IS THE sha256 OF THE DUMP (.gsa) THAT YtpbcgfgjdimpmaaDoorProg.lean LOADS. Nothing in Lean hashes anything: it is a label: what it is worth is what the hold of that sum in a sandbox is worth. -/
noncomputable def Tryd.pinned : Pinned := { name := "ytpbcgfgjdimpmaadoor", sum := "54de25941d2bfdec460e64fb2b54ac35a9674a0c54e625d910c764322f01949a", checked := Tryd.checked }
namespace Rows
def none {H : Type} : Left H := { results := [], args := [] }

/- WHAT THE LISTED PACKAGE-LEVEL VARIABLES READ AS WHEN THE CALL BEGINS. Each datum BY PROGRAM (the guide's laid-datum.mjs) off the statement by which the dump's own 'gosem.cut.vars' lays the variable. In a bare row this is a premise. The card (YtpbcgfgjdimpmaaDoorCards.lean) ties it to the program's text. -/
def laid_unicode_utf8_acceptRanges {H : Type} : DataW H := .agg [.agg [.lit (.int .u8 128), .lit (.int .u8 191)], .agg [.lit (.int .u8 160), .lit (.int .u8 191)], .agg [.lit (.int .u8 128), .lit (.int .u8 159)], .agg [.lit (.int .u8 144), .lit (.int .u8 191)], .agg [.lit (.int .u8 128), .lit (.int .u8 143)], .agg [.lit (.int .u8 0), .lit (.int .u8 0)], .agg [.lit (.int .u8 0), .lit (.int .u8 0)], .agg [.lit (.int .u8 0), .lit (.int .u8 0)], .agg [.lit (.int .u8 0), .lit (.int .u8 0)], .agg [.lit (.int .u8 0), .lit (.int .u8 0)], .agg [.lit (.int .u8 0), .lit (.int .u8 0)], .agg [.lit (.int .u8 0), .lit (.int .u8 0)], .agg [.lit (.int .u8 0), .lit (.int .u8 0)], .agg [.lit (.int .u8 0), .lit (.int .u8 0)], .agg [.lit (.int .u8 0), .lit (.int .u8 0)], .agg [.lit (.int .u8 0), .lit (.int .u8 0)]]
def laid_loop_example_g00747_impl_nameSpans {H : Type} : DataW H := .agg [.agg [.lit (.int .i32 97), .lit (.int .i32 122)], .agg [.lit (.int .i32 48), .lit (.int .i32 57)], .agg [.lit (.int .i32 95), .lit (.int .i32 95)]]
def laid_loop_example_g00747_impl_barredInWord {H : Type} : DataW H := .agg [.lit (.int .i32 34), .lit (.int .i32 44), .lit (.int .i32 123), .lit (.int .i32 125)]
/-- One of Go's own tables, pinned by name: the form's constant. -/
def laid_unicode_utf8_first : DataW Unit := Go.Pinned.utf8First

/-- 'laws.FnLabelTexts': WHATEVER THE INPUT: true; the input reads as it did. -/
def fnLabelTextsSpec : ChangeSpec := { name := "fnLabelTexts", vars := ["loop.example/g00747/impl.nameSpans", "loop.example/g00747/impl.barredInWord"], fn := fun _ => fun
  | [d1, d2, g1, g2] => { results := [.lit (.bool true)], args := [d1, d2], vars := [g1, g2] }
  | _ => none }
def fnLabelTextsRow : OpenClaim := { program := "ytpbcgfgjdimpmaadoor", sum := "54de25941d2bfdec460e64fb2b54ac35a9674a0c54e625d910c764322f01949a", func := "loop.example/g00747/laws.FnLabelTexts", spec := "fnLabelTexts", inPlace := ["internal/abi.NoEscape", "internal/bytealg.MakeNoZero", "internal/bytealg.CountString", "internal/bytealg.IndexByteString", "internal/bytealg.IndexString"], named := ["loop.example/g00747/impl.nameSpans", "loop.example/g00747/impl.barredInWord", "unicode/utf8.first", "unicode/utf8.acceptRanges", "internal/bytealg.MaxLen"], apart := false, laid := [("unicode/utf8.acceptRanges", laid_unicode_utf8_acceptRanges), ("loop.example/g00747/impl.nameSpans", laid_loop_example_g00747_impl_nameSpans), ("loop.example/g00747/impl.barredInWord", laid_loop_example_g00747_impl_barredInWord), ("unicode/utf8.first", laid_unicode_utf8_first)] }
def FnLabelTextsSaid : Prop := fnLabelTextsRow.holds Tryd.pinned (OpenSpec.ofChange fnLabelTextsSpec)

/-- ITS FALSE NEIGHBOUR: 'it returns false'. Refute it at one input. -/
def fnLabelTextsWrong : ChangeSpec := { name := "fnLabelTexts", vars := ["loop.example/g00747/impl.nameSpans", "loop.example/g00747/impl.barredInWord"], fn := fun _ => fun
  | [d1, d2, g1, g2] => { results := [.lit (.bool false)], args := [d1, d2], vars := [g1, g2] }
  | _ => none }
def FnLabelTextsWrongFalsely : Prop := fnLabelTextsRow.holds Tryd.pinned (OpenSpec.ofChange fnLabelTextsWrong)

/-- 'laws.FnMatches': WHATEVER THE INPUT: true; the input reads as it did. -/
def fnMatchesSpec : ChangeSpec := { name := "fnMatches", vars := ["loop.example/g00747/impl.nameSpans", "loop.example/g00747/impl.barredInWord"], fn := fun _ => fun
  | [d1, d2, g1, g2] => { results := [.lit (.bool true)], args := [d1, d2], vars := [g1, g2] }
  | _ => none }
def fnMatchesRow : OpenClaim := { program := "ytpbcgfgjdimpmaadoor", sum := "54de25941d2bfdec460e64fb2b54ac35a9674a0c54e625d910c764322f01949a", func := "loop.example/g00747/laws.FnMatches", spec := "fnMatches", inPlace := ["internal/bytealg.CountString", "internal/bytealg.IndexByteString", "internal/bytealg.IndexString"], unfollowed := true, recurses := true, named := ["loop.example/g00747/impl.nameSpans", "loop.example/g00747/impl.barredInWord", "unicode/utf8.first", "unicode/utf8.acceptRanges", "internal/bytealg.MaxLen"], apart := false, laid := [("unicode/utf8.acceptRanges", laid_unicode_utf8_acceptRanges), ("loop.example/g00747/impl.nameSpans", laid_loop_example_g00747_impl_nameSpans), ("loop.example/g00747/impl.barredInWord", laid_loop_example_g00747_impl_barredInWord), ("unicode/utf8.first", laid_unicode_utf8_first)] }
def FnMatchesSaid : Prop := fnMatchesRow.holds Tryd.pinned (OpenSpec.ofChange fnMatchesSpec)

/-- ITS FALSE NEIGHBOUR: 'it returns false'. Refute it at one input. -/
def fnMatchesWrong : ChangeSpec := { name := "fnMatches", vars := ["loop.example/g00747/impl.nameSpans", "loop.example/g00747/impl.barredInWord"], fn := fun _ => fun
  | [d1, d2, g1, g2] => { results := [.lit (.bool false)], args := [d1, d2], vars := [g1, g2] }
  | _ => none }
def FnMatchesWrongFalsely : Prop := fnMatchesRow.holds Tryd.pinned (OpenSpec.ofChange fnMatchesWrong)

/-- 'laws.FnMatcherTexts': WHATEVER THE INPUT: true; the input reads as it did. -/
def fnMatcherTextsSpec : ChangeSpec := { name := "fnMatcherTexts", vars := ["loop.example/g00747/impl.nameSpans", "loop.example/g00747/impl.barredInWord"], fn := fun _ => fun
  | [d1, d2, g1, g2] => { results := [.lit (.bool true)], args := [d1, d2], vars := [g1, g2] }
  | _ => none }
def fnMatcherTextsRow : OpenClaim := { program := "ytpbcgfgjdimpmaadoor", sum := "54de25941d2bfdec460e64fb2b54ac35a9674a0c54e625d910c764322f01949a", func := "loop.example/g00747/laws.FnMatcherTexts", spec := "fnMatcherTexts", inPlace := ["internal/bytealg.IndexByteString", "internal/bytealg.IndexString"], named := ["loop.example/g00747/impl.nameSpans", "loop.example/g00747/impl.barredInWord", "internal/bytealg.MaxLen"], apart := false, laid := [("loop.example/g00747/impl.nameSpans", laid_loop_example_g00747_impl_nameSpans), ("loop.example/g00747/impl.barredInWord", laid_loop_example_g00747_impl_barredInWord)] }
def FnMatcherTextsSaid : Prop := fnMatcherTextsRow.holds Tryd.pinned (OpenSpec.ofChange fnMatcherTextsSpec)

/-- ITS FALSE NEIGHBOUR: 'it returns false'. Refute it at one input. -/
def fnMatcherTextsWrong : ChangeSpec := { name := "fnMatcherTexts", vars := ["loop.example/g00747/impl.nameSpans", "loop.example/g00747/impl.barredInWord"], fn := fun _ => fun
  | [d1, d2, g1, g2] => { results := [.lit (.bool false)], args := [d1, d2], vars := [g1, g2] }
  | _ => none }
def FnMatcherTextsWrongFalsely : Prop := fnMatcherTextsRow.holds Tryd.pinned (OpenSpec.ofChange fnMatcherTextsWrong)

/-- 'laws.FnExactReadLabels': WHATEVER THE INPUT: true; the input reads as it did. -/
def fnExactReadLabelsSpec : ChangeSpec := { name := "fnExactReadLabels", vars := ["loop.example/g00747/impl.nameSpans", "loop.example/g00747/impl.barredInWord"], fn := fun _ => fun
  | [d, g1, g2] => { results := [.lit (.bool true)], args := [d], vars := [g1, g2] }
  | _ => none }
def fnExactReadLabelsRow : OpenClaim := { program := "ytpbcgfgjdimpmaadoor", sum := "54de25941d2bfdec460e64fb2b54ac35a9674a0c54e625d910c764322f01949a", func := "loop.example/g00747/laws.FnExactReadLabels", spec := "fnExactReadLabels", inPlace := ["internal/bytealg.CountString", "internal/bytealg.IndexByteString", "internal/bytealg.IndexString", "internal/abi.NoEscape", "internal/bytealg.MakeNoZero"], named := ["unicode/utf8.first", "unicode/utf8.acceptRanges", "internal/bytealg.MaxLen", "loop.example/g00747/impl.nameSpans", "loop.example/g00747/impl.barredInWord"], apart := false, laid := [("unicode/utf8.acceptRanges", laid_unicode_utf8_acceptRanges), ("loop.example/g00747/impl.nameSpans", laid_loop_example_g00747_impl_nameSpans), ("loop.example/g00747/impl.barredInWord", laid_loop_example_g00747_impl_barredInWord), ("unicode/utf8.first", laid_unicode_utf8_first)] }
def FnExactReadLabelsSaid : Prop := fnExactReadLabelsRow.holds Tryd.pinned (OpenSpec.ofChange fnExactReadLabelsSpec)

/-- ITS FALSE NEIGHBOUR: 'it returns false'. Refute it at one input. -/
def fnExactReadLabelsWrong : ChangeSpec := { name := "fnExactReadLabels", vars := ["loop.example/g00747/impl.nameSpans", "loop.example/g00747/impl.barredInWord"], fn := fun _ => fun
  | [d, g1, g2] => { results := [.lit (.bool false)], args := [d], vars := [g1, g2] }
  | _ => none }
def FnExactReadLabelsWrongFalsely : Prop := fnExactReadLabelsRow.holds Tryd.pinned (OpenSpec.ofChange fnExactReadLabelsWrong)

/-- 'laws.FnExactGoodMatchers': WHATEVER THE INPUT: true; the input reads as it did. -/
def fnExactGoodMatchersSpec : ChangeSpec := { name := "fnExactGoodMatchers", vars := ["loop.example/g00747/impl.nameSpans", "loop.example/g00747/impl.barredInWord"], fn := fun _ => fun
  | [d, g1, g2] => { results := [.lit (.bool true)], args := [d], vars := [g1, g2] }
  | _ => none }
def fnExactGoodMatchersRow : OpenClaim := { program := "ytpbcgfgjdimpmaadoor", sum := "54de25941d2bfdec460e64fb2b54ac35a9674a0c54e625d910c764322f01949a", func := "loop.example/g00747/laws.FnExactGoodMatchers", spec := "fnExactGoodMatchers", named := ["loop.example/g00747/impl.nameSpans", "loop.example/g00747/impl.barredInWord"], apart := false, laid := [("loop.example/g00747/impl.nameSpans", laid_loop_example_g00747_impl_nameSpans), ("loop.example/g00747/impl.barredInWord", laid_loop_example_g00747_impl_barredInWord)] }
def FnExactGoodMatchersSaid : Prop := fnExactGoodMatchersRow.holds Tryd.pinned (OpenSpec.ofChange fnExactGoodMatchersSpec)

/-- ITS FALSE NEIGHBOUR: 'it returns false'. Refute it at one input. -/
def fnExactGoodMatchersWrong : ChangeSpec := { name := "fnExactGoodMatchers", vars := ["loop.example/g00747/impl.nameSpans", "loop.example/g00747/impl.barredInWord"], fn := fun _ => fun
  | [d, g1, g2] => { results := [.lit (.bool false)], args := [d], vars := [g1, g2] }
  | _ => none }
def FnExactGoodMatchersWrongFalsely : Prop := fnExactGoodMatchersRow.holds Tryd.pinned (OpenSpec.ofChange fnExactGoodMatchersWrong)

/-- 'laws.FnExactIsLike': WHATEVER THE INPUT: true; the input reads as it did. -/
def fnExactIsLikeSpec : ChangeSpec := { name := "fnExactIsLike", vars := ["loop.example/g00747/impl.barredInWord"], fn := fun _ => fun
  | [d1, d2, g1] => { results := [.lit (.bool true)], args := [d1, d2], vars := [g1] }
  | _ => none }
def fnExactIsLikeRow : OpenClaim := { program := "ytpbcgfgjdimpmaadoor", sum := "54de25941d2bfdec460e64fb2b54ac35a9674a0c54e625d910c764322f01949a", func := "loop.example/g00747/laws.FnExactIsLike", spec := "fnExactIsLike", inPlace := ["internal/bytealg.CountString", "internal/bytealg.IndexByteString", "internal/bytealg.IndexString"], recurses := true, named := ["loop.example/g00747/impl.barredInWord", "unicode/utf8.first", "unicode/utf8.acceptRanges", "internal/bytealg.MaxLen"], apart := false, laid := [("unicode/utf8.acceptRanges", laid_unicode_utf8_acceptRanges), ("loop.example/g00747/impl.barredInWord", laid_loop_example_g00747_impl_barredInWord), ("unicode/utf8.first", laid_unicode_utf8_first)] }
def FnExactIsLikeSaid : Prop := fnExactIsLikeRow.holds Tryd.pinned (OpenSpec.ofChange fnExactIsLikeSpec)

/-- ITS FALSE NEIGHBOUR: 'it returns false'. Refute it at one input. -/
def fnExactIsLikeWrong : ChangeSpec := { name := "fnExactIsLike", vars := ["loop.example/g00747/impl.barredInWord"], fn := fun _ => fun
  | [d1, d2, g1] => { results := [.lit (.bool false)], args := [d1, d2], vars := [g1] }
  | _ => none }
def FnExactIsLikeWrongFalsely : Prop := fnExactIsLikeRow.holds Tryd.pinned (OpenSpec.ofChange fnExactIsLikeWrong)

/-- 'laws.FnExactMatches': WHATEVER THE INPUT: true; the input reads as it did. -/
def fnExactMatchesSpec : ChangeSpec := { name := "fnExactMatches", vars := ["loop.example/g00747/impl.nameSpans", "loop.example/g00747/impl.barredInWord"], fn := fun _ => fun
  | [d1, d2, g1, g2] => { results := [.lit (.bool true)], args := [d1, d2], vars := [g1, g2] }
  | _ => none }
def fnExactMatchesRow : OpenClaim := { program := "ytpbcgfgjdimpmaadoor", sum := "54de25941d2bfdec460e64fb2b54ac35a9674a0c54e625d910c764322f01949a", func := "loop.example/g00747/laws.FnExactMatches", spec := "fnExactMatches", unfollowed := true, recurses := true, named := ["loop.example/g00747/impl.nameSpans", "loop.example/g00747/impl.barredInWord"], apart := false, laid := [("loop.example/g00747/impl.nameSpans", laid_loop_example_g00747_impl_nameSpans), ("loop.example/g00747/impl.barredInWord", laid_loop_example_g00747_impl_barredInWord)] }
def FnExactMatchesSaid : Prop := fnExactMatchesRow.holds Tryd.pinned (OpenSpec.ofChange fnExactMatchesSpec)

/-- ITS FALSE NEIGHBOUR: 'it returns false'. Refute it at one input. -/
def fnExactMatchesWrong : ChangeSpec := { name := "fnExactMatches", vars := ["loop.example/g00747/impl.nameSpans", "loop.example/g00747/impl.barredInWord"], fn := fun _ => fun
  | [d1, d2, g1, g2] => { results := [.lit (.bool false)], args := [d1, d2], vars := [g1, g2] }
  | _ => none }
def FnExactMatchesWrongFalsely : Prop := fnExactMatchesRow.holds Tryd.pinned (OpenSpec.ofChange fnExactMatchesWrong)

/-- 'laws.FnExactMatchesAll': WHATEVER THE INPUT: true; the input reads as it did. -/
def fnExactMatchesAllSpec : ChangeSpec := { name := "fnExactMatchesAll", vars := ["loop.example/g00747/impl.nameSpans", "loop.example/g00747/impl.barredInWord"], fn := fun _ => fun
  | [d1, d2, g1, g2] => { results := [.lit (.bool true)], args := [d1, d2], vars := [g1, g2] }
  | _ => none }
def fnExactMatchesAllRow : OpenClaim := { program := "ytpbcgfgjdimpmaadoor", sum := "54de25941d2bfdec460e64fb2b54ac35a9674a0c54e625d910c764322f01949a", func := "loop.example/g00747/laws.FnExactMatchesAll", spec := "fnExactMatchesAll", unfollowed := true, recurses := true, named := ["loop.example/g00747/impl.nameSpans", "loop.example/g00747/impl.barredInWord"], apart := false, laid := [("loop.example/g00747/impl.nameSpans", laid_loop_example_g00747_impl_nameSpans), ("loop.example/g00747/impl.barredInWord", laid_loop_example_g00747_impl_barredInWord)] }
def FnExactMatchesAllSaid : Prop := fnExactMatchesAllRow.holds Tryd.pinned (OpenSpec.ofChange fnExactMatchesAllSpec)

/-- ITS FALSE NEIGHBOUR: 'it returns false'. Refute it at one input. -/
def fnExactMatchesAllWrong : ChangeSpec := { name := "fnExactMatchesAll", vars := ["loop.example/g00747/impl.nameSpans", "loop.example/g00747/impl.barredInWord"], fn := fun _ => fun
  | [d1, d2, g1, g2] => { results := [.lit (.bool false)], args := [d1, d2], vars := [g1, g2] }
  | _ => none }
def FnExactMatchesAllWrongFalsely : Prop := fnExactMatchesAllRow.holds Tryd.pinned (OpenSpec.ofChange fnExactMatchesAllWrong)

/-- 'laws.FnExactMatcherText': WHATEVER THE INPUT: true; the input reads as it did. -/
def fnExactMatcherTextSpec : ChangeSpec := { name := "fnExactMatcherText", vars := ["loop.example/g00747/impl.nameSpans", "loop.example/g00747/impl.barredInWord"], fn := fun _ => fun
  | [d, g1, g2] => { results := [.lit (.bool true)], args := [d], vars := [g1, g2] }
  | _ => none }
def fnExactMatcherTextRow : OpenClaim := { program := "ytpbcgfgjdimpmaadoor", sum := "54de25941d2bfdec460e64fb2b54ac35a9674a0c54e625d910c764322f01949a", func := "loop.example/g00747/laws.FnExactMatcherText", spec := "fnExactMatcherText", named := ["loop.example/g00747/impl.nameSpans", "loop.example/g00747/impl.barredInWord"], apart := false, laid := [("loop.example/g00747/impl.nameSpans", laid_loop_example_g00747_impl_nameSpans), ("loop.example/g00747/impl.barredInWord", laid_loop_example_g00747_impl_barredInWord)] }
def FnExactMatcherTextSaid : Prop := fnExactMatcherTextRow.holds Tryd.pinned (OpenSpec.ofChange fnExactMatcherTextSpec)

/-- ITS FALSE NEIGHBOUR: 'it returns false'. Refute it at one input. -/
def fnExactMatcherTextWrong : ChangeSpec := { name := "fnExactMatcherText", vars := ["loop.example/g00747/impl.nameSpans", "loop.example/g00747/impl.barredInWord"], fn := fun _ => fun
  | [d, g1, g2] => { results := [.lit (.bool false)], args := [d], vars := [g1, g2] }
  | _ => none }
def FnExactMatcherTextWrongFalsely : Prop := fnExactMatcherTextRow.holds Tryd.pinned (OpenSpec.ofChange fnExactMatcherTextWrong)

/-- 'laws.FnExactReadMatcher': WHATEVER THE INPUT: true; the input reads as it did. -/
def fnExactReadMatcherSpec : ChangeSpec := { name := "fnExactReadMatcher", vars := ["loop.example/g00747/impl.nameSpans", "loop.example/g00747/impl.barredInWord"], fn := fun _ => fun
  | [d, g1, g2] => { results := [.lit (.bool true)], args := [d], vars := [g1, g2] }
  | _ => none }
def fnExactReadMatcherRow : OpenClaim := { program := "ytpbcgfgjdimpmaadoor", sum := "54de25941d2bfdec460e64fb2b54ac35a9674a0c54e625d910c764322f01949a", func := "loop.example/g00747/laws.FnExactReadMatcher", spec := "fnExactReadMatcher", inPlace := ["internal/bytealg.IndexByteString", "internal/bytealg.IndexString"], named := ["internal/bytealg.MaxLen", "loop.example/g00747/impl.nameSpans", "loop.example/g00747/impl.barredInWord"], apart := false, laid := [("loop.example/g00747/impl.nameSpans", laid_loop_example_g00747_impl_nameSpans), ("loop.example/g00747/impl.barredInWord", laid_loop_example_g00747_impl_barredInWord)] }
def FnExactReadMatcherSaid : Prop := fnExactReadMatcherRow.holds Tryd.pinned (OpenSpec.ofChange fnExactReadMatcherSpec)

/-- ITS FALSE NEIGHBOUR: 'it returns false'. Refute it at one input. -/
def fnExactReadMatcherWrong : ChangeSpec := { name := "fnExactReadMatcher", vars := ["loop.example/g00747/impl.nameSpans", "loop.example/g00747/impl.barredInWord"], fn := fun _ => fun
  | [d, g1, g2] => { results := [.lit (.bool false)], args := [d], vars := [g1, g2] }
  | _ => none }
def FnExactReadMatcherWrongFalsely : Prop := fnExactReadMatcherRow.holds Tryd.pinned (OpenSpec.ofChange fnExactReadMatcherWrong)

/-- 'laws.FnExactTakesNone': WHATEVER THE INPUT: true; the input reads as it did. -/
def fnExactTakesNoneSpec : ChangeSpec := { name := "fnExactTakesNone", vars := ["loop.example/g00747/impl.nameSpans", "loop.example/g00747/impl.barredInWord"], fn := fun _ => fun
  | [d, g1, g2] => { results := [.lit (.bool true)], args := [d], vars := [g1, g2] }
  | _ => none }
def fnExactTakesNoneRow : OpenClaim := { program := "ytpbcgfgjdimpmaadoor", sum := "54de25941d2bfdec460e64fb2b54ac35a9674a0c54e625d910c764322f01949a", func := "loop.example/g00747/laws.FnExactTakesNone", spec := "fnExactTakesNone", unfollowed := true, recurses := true, named := ["loop.example/g00747/impl.nameSpans", "loop.example/g00747/impl.barredInWord"], apart := false, laid := [("loop.example/g00747/impl.nameSpans", laid_loop_example_g00747_impl_nameSpans), ("loop.example/g00747/impl.barredInWord", laid_loop_example_g00747_impl_barredInWord)] }
def FnExactTakesNoneSaid : Prop := fnExactTakesNoneRow.holds Tryd.pinned (OpenSpec.ofChange fnExactTakesNoneSpec)

/-- ITS FALSE NEIGHBOUR: 'it returns false'. Refute it at one input. -/
def fnExactTakesNoneWrong : ChangeSpec := { name := "fnExactTakesNone", vars := ["loop.example/g00747/impl.nameSpans", "loop.example/g00747/impl.barredInWord"], fn := fun _ => fun
  | [d, g1, g2] => { results := [.lit (.bool false)], args := [d], vars := [g1, g2] }
  | _ => none }
def FnExactTakesNoneWrongFalsely : Prop := fnExactTakesNoneRow.holds Tryd.pinned (OpenSpec.ofChange fnExactTakesNoneWrong)

/- THE SECOND FORM. 'bulk': how many values and letters a reading holds, each counted each time it is reached (what is shared counts as often as it is met; a slice's spare places count too). A statement '..UptoSaid' is the law's where the arguments, and the package variables that the reading takes, are together of bulk at most 1048576: NARROWER than '..Said'. Prove '..Said' where nothing that the law and all that it calls make is longer than what came in: it says more and counts as full. Else prove '..UptoSaid'. A law counts once. -/
mutual
def uptoBulk {H : Type} : DataW H → Nat
  | .lit (.string bytes) => bytes.length + 1
  | .lit _ => 1
  | .nil => 1
  | .ptr d => uptoBulk d + 1
  | .slice elems spare => uptoBulkAll elems + uptoBulkAll spare + 1
  | .agg parts => uptoBulkAll parts + 1
  | .iface _ d => uptoBulk d + 1
  | .map entries => uptoBulkEntries entries + 1
  | .held _ => 1
def uptoBulkAll {H : Type} : List (DataW H) → Nat
  | [] => 0
  | d :: r => uptoBulk d + uptoBulkAll r
def uptoBulkEntries {H : Type} : List (Lit × DataW H) → Nat
  | [] => 0
  | x :: r => uptoBulkEntry x + uptoBulkEntries r
def uptoBulkEntry {H : Type} : Lit × DataW H → Nat
  | (.string bytes, d) => bytes.length + uptoBulk d + 1
  | (_, d) => uptoBulk d + 1
 end
def uptoSmall : (H : Type) → List (DataW H) → Bool := fun _ ds => decide (uptoBulkAll ds ≤ 1048576)
def OpenSpec.upto (s : _root_.Go.ChangeSpec) : _root_.Go.OpenSpec := { _root_.Go.OpenSpec.ofChange s with cond := some uptoSmall }

/-- 'laws.FnLabelTexts', WHERE WHAT IT READS IS OF BULK AT MOST 1048576: true; the input reads as it did. -/
def fnLabelTextsUptoRow : OpenClaim := { program := "ytpbcgfgjdimpmaadoor", sum := "54de25941d2bfdec460e64fb2b54ac35a9674a0c54e625d910c764322f01949a", func := "loop.example/g00747/laws.FnLabelTexts", spec := "fnLabelTexts", inPlace := ["internal/abi.NoEscape", "internal/bytealg.MakeNoZero", "internal/bytealg.CountString", "internal/bytealg.IndexByteString", "internal/bytealg.IndexString"], named := ["loop.example/g00747/impl.nameSpans", "loop.example/g00747/impl.barredInWord", "unicode/utf8.first", "unicode/utf8.acceptRanges", "internal/bytealg.MaxLen"], apart := false, laid := [("unicode/utf8.acceptRanges", laid_unicode_utf8_acceptRanges), ("loop.example/g00747/impl.nameSpans", laid_loop_example_g00747_impl_nameSpans), ("loop.example/g00747/impl.barredInWord", laid_loop_example_g00747_impl_barredInWord), ("unicode/utf8.first", laid_unicode_utf8_first)], narrowed := true }
def FnLabelTextsUptoSaid : Prop := fnLabelTextsUptoRow.holds Tryd.pinned (OpenSpec.upto fnLabelTextsSpec)

/-- 'laws.FnMatches', WHERE WHAT IT READS IS OF BULK AT MOST 1048576: true; the input reads as it did. -/
def fnMatchesUptoRow : OpenClaim := { program := "ytpbcgfgjdimpmaadoor", sum := "54de25941d2bfdec460e64fb2b54ac35a9674a0c54e625d910c764322f01949a", func := "loop.example/g00747/laws.FnMatches", spec := "fnMatches", inPlace := ["internal/bytealg.CountString", "internal/bytealg.IndexByteString", "internal/bytealg.IndexString"], unfollowed := true, recurses := true, named := ["loop.example/g00747/impl.nameSpans", "loop.example/g00747/impl.barredInWord", "unicode/utf8.first", "unicode/utf8.acceptRanges", "internal/bytealg.MaxLen"], apart := false, laid := [("unicode/utf8.acceptRanges", laid_unicode_utf8_acceptRanges), ("loop.example/g00747/impl.nameSpans", laid_loop_example_g00747_impl_nameSpans), ("loop.example/g00747/impl.barredInWord", laid_loop_example_g00747_impl_barredInWord), ("unicode/utf8.first", laid_unicode_utf8_first)], narrowed := true }
def FnMatchesUptoSaid : Prop := fnMatchesUptoRow.holds Tryd.pinned (OpenSpec.upto fnMatchesSpec)

/-- 'laws.FnMatcherTexts', WHERE WHAT IT READS IS OF BULK AT MOST 1048576: true; the input reads as it did. -/
def fnMatcherTextsUptoRow : OpenClaim := { program := "ytpbcgfgjdimpmaadoor", sum := "54de25941d2bfdec460e64fb2b54ac35a9674a0c54e625d910c764322f01949a", func := "loop.example/g00747/laws.FnMatcherTexts", spec := "fnMatcherTexts", inPlace := ["internal/bytealg.IndexByteString", "internal/bytealg.IndexString"], named := ["loop.example/g00747/impl.nameSpans", "loop.example/g00747/impl.barredInWord", "internal/bytealg.MaxLen"], apart := false, laid := [("loop.example/g00747/impl.nameSpans", laid_loop_example_g00747_impl_nameSpans), ("loop.example/g00747/impl.barredInWord", laid_loop_example_g00747_impl_barredInWord)], narrowed := true }
def FnMatcherTextsUptoSaid : Prop := fnMatcherTextsUptoRow.holds Tryd.pinned (OpenSpec.upto fnMatcherTextsSpec)

/-- 'laws.FnExactReadLabels', WHERE WHAT IT READS IS OF BULK AT MOST 1048576: true; the input reads as it did. -/
def fnExactReadLabelsUptoRow : OpenClaim := { program := "ytpbcgfgjdimpmaadoor", sum := "54de25941d2bfdec460e64fb2b54ac35a9674a0c54e625d910c764322f01949a", func := "loop.example/g00747/laws.FnExactReadLabels", spec := "fnExactReadLabels", inPlace := ["internal/bytealg.CountString", "internal/bytealg.IndexByteString", "internal/bytealg.IndexString", "internal/abi.NoEscape", "internal/bytealg.MakeNoZero"], named := ["unicode/utf8.first", "unicode/utf8.acceptRanges", "internal/bytealg.MaxLen", "loop.example/g00747/impl.nameSpans", "loop.example/g00747/impl.barredInWord"], apart := false, laid := [("unicode/utf8.acceptRanges", laid_unicode_utf8_acceptRanges), ("loop.example/g00747/impl.nameSpans", laid_loop_example_g00747_impl_nameSpans), ("loop.example/g00747/impl.barredInWord", laid_loop_example_g00747_impl_barredInWord), ("unicode/utf8.first", laid_unicode_utf8_first)], narrowed := true }
def FnExactReadLabelsUptoSaid : Prop := fnExactReadLabelsUptoRow.holds Tryd.pinned (OpenSpec.upto fnExactReadLabelsSpec)

/-- 'laws.FnExactGoodMatchers', WHERE WHAT IT READS IS OF BULK AT MOST 1048576: true; the input reads as it did. -/
def fnExactGoodMatchersUptoRow : OpenClaim := { program := "ytpbcgfgjdimpmaadoor", sum := "54de25941d2bfdec460e64fb2b54ac35a9674a0c54e625d910c764322f01949a", func := "loop.example/g00747/laws.FnExactGoodMatchers", spec := "fnExactGoodMatchers", named := ["loop.example/g00747/impl.nameSpans", "loop.example/g00747/impl.barredInWord"], apart := false, laid := [("loop.example/g00747/impl.nameSpans", laid_loop_example_g00747_impl_nameSpans), ("loop.example/g00747/impl.barredInWord", laid_loop_example_g00747_impl_barredInWord)], narrowed := true }
def FnExactGoodMatchersUptoSaid : Prop := fnExactGoodMatchersUptoRow.holds Tryd.pinned (OpenSpec.upto fnExactGoodMatchersSpec)

/-- 'laws.FnExactIsLike', WHERE WHAT IT READS IS OF BULK AT MOST 1048576: true; the input reads as it did. -/
def fnExactIsLikeUptoRow : OpenClaim := { program := "ytpbcgfgjdimpmaadoor", sum := "54de25941d2bfdec460e64fb2b54ac35a9674a0c54e625d910c764322f01949a", func := "loop.example/g00747/laws.FnExactIsLike", spec := "fnExactIsLike", inPlace := ["internal/bytealg.CountString", "internal/bytealg.IndexByteString", "internal/bytealg.IndexString"], recurses := true, named := ["loop.example/g00747/impl.barredInWord", "unicode/utf8.first", "unicode/utf8.acceptRanges", "internal/bytealg.MaxLen"], apart := false, laid := [("unicode/utf8.acceptRanges", laid_unicode_utf8_acceptRanges), ("loop.example/g00747/impl.barredInWord", laid_loop_example_g00747_impl_barredInWord), ("unicode/utf8.first", laid_unicode_utf8_first)], narrowed := true }
def FnExactIsLikeUptoSaid : Prop := fnExactIsLikeUptoRow.holds Tryd.pinned (OpenSpec.upto fnExactIsLikeSpec)

/-- 'laws.FnExactMatches', WHERE WHAT IT READS IS OF BULK AT MOST 1048576: true; the input reads as it did. -/
def fnExactMatchesUptoRow : OpenClaim := { program := "ytpbcgfgjdimpmaadoor", sum := "54de25941d2bfdec460e64fb2b54ac35a9674a0c54e625d910c764322f01949a", func := "loop.example/g00747/laws.FnExactMatches", spec := "fnExactMatches", unfollowed := true, recurses := true, named := ["loop.example/g00747/impl.nameSpans", "loop.example/g00747/impl.barredInWord"], apart := false, laid := [("loop.example/g00747/impl.nameSpans", laid_loop_example_g00747_impl_nameSpans), ("loop.example/g00747/impl.barredInWord", laid_loop_example_g00747_impl_barredInWord)], narrowed := true }
def FnExactMatchesUptoSaid : Prop := fnExactMatchesUptoRow.holds Tryd.pinned (OpenSpec.upto fnExactMatchesSpec)

/-- 'laws.FnExactMatchesAll', WHERE WHAT IT READS IS OF BULK AT MOST 1048576: true; the input reads as it did. -/
def fnExactMatchesAllUptoRow : OpenClaim := { program := "ytpbcgfgjdimpmaadoor", sum := "54de25941d2bfdec460e64fb2b54ac35a9674a0c54e625d910c764322f01949a", func := "loop.example/g00747/laws.FnExactMatchesAll", spec := "fnExactMatchesAll", unfollowed := true, recurses := true, named := ["loop.example/g00747/impl.nameSpans", "loop.example/g00747/impl.barredInWord"], apart := false, laid := [("loop.example/g00747/impl.nameSpans", laid_loop_example_g00747_impl_nameSpans), ("loop.example/g00747/impl.barredInWord", laid_loop_example_g00747_impl_barredInWord)], narrowed := true }
def FnExactMatchesAllUptoSaid : Prop := fnExactMatchesAllUptoRow.holds Tryd.pinned (OpenSpec.upto fnExactMatchesAllSpec)

/-- 'laws.FnExactMatcherText', WHERE WHAT IT READS IS OF BULK AT MOST 1048576: true; the input reads as it did. -/
def fnExactMatcherTextUptoRow : OpenClaim := { program := "ytpbcgfgjdimpmaadoor", sum := "54de25941d2bfdec460e64fb2b54ac35a9674a0c54e625d910c764322f01949a", func := "loop.example/g00747/laws.FnExactMatcherText", spec := "fnExactMatcherText", named := ["loop.example/g00747/impl.nameSpans", "loop.example/g00747/impl.barredInWord"], apart := false, laid := [("loop.example/g00747/impl.nameSpans", laid_loop_example_g00747_impl_nameSpans), ("loop.example/g00747/impl.barredInWord", laid_loop_example_g00747_impl_barredInWord)], narrowed := true }
def FnExactMatcherTextUptoSaid : Prop := fnExactMatcherTextUptoRow.holds Tryd.pinned (OpenSpec.upto fnExactMatcherTextSpec)

/-- 'laws.FnExactReadMatcher', WHERE WHAT IT READS IS OF BULK AT MOST 1048576: true; the input reads as it did. -/
def fnExactReadMatcherUptoRow : OpenClaim := { program := "ytpbcgfgjdimpmaadoor", sum := "54de25941d2bfdec460e64fb2b54ac35a9674a0c54e625d910c764322f01949a", func := "loop.example/g00747/laws.FnExactReadMatcher", spec := "fnExactReadMatcher", inPlace := ["internal/bytealg.IndexByteString", "internal/bytealg.IndexString"], named := ["internal/bytealg.MaxLen", "loop.example/g00747/impl.nameSpans", "loop.example/g00747/impl.barredInWord"], apart := false, laid := [("loop.example/g00747/impl.nameSpans", laid_loop_example_g00747_impl_nameSpans), ("loop.example/g00747/impl.barredInWord", laid_loop_example_g00747_impl_barredInWord)], narrowed := true }
def FnExactReadMatcherUptoSaid : Prop := fnExactReadMatcherUptoRow.holds Tryd.pinned (OpenSpec.upto fnExactReadMatcherSpec)

/-- 'laws.FnExactTakesNone', WHERE WHAT IT READS IS OF BULK AT MOST 1048576: true; the input reads as it did. -/
def fnExactTakesNoneUptoRow : OpenClaim := { program := "ytpbcgfgjdimpmaadoor", sum := "54de25941d2bfdec460e64fb2b54ac35a9674a0c54e625d910c764322f01949a", func := "loop.example/g00747/laws.FnExactTakesNone", spec := "fnExactTakesNone", unfollowed := true, recurses := true, named := ["loop.example/g00747/impl.nameSpans", "loop.example/g00747/impl.barredInWord"], apart := false, laid := [("loop.example/g00747/impl.nameSpans", laid_loop_example_g00747_impl_nameSpans), ("loop.example/g00747/impl.barredInWord", laid_loop_example_g00747_impl_barredInWord)], narrowed := true }
def FnExactTakesNoneUptoSaid : Prop := fnExactTakesNoneUptoRow.holds Tryd.pinned (OpenSpec.upto fnExactTakesNoneSpec)

end Rows
end Go.Proofs.YtpbcgfgjdimpmaaDoor
