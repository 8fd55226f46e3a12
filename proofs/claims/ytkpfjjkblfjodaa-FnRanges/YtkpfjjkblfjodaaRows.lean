/-
  No cell of these rows narrows 'for every input' (looked for: loops, veiled, ifaces, maps, wideKeys, modest, calm, conditions, laid).
  DERIVED. THE GIVEN ROWS OF THIS SEAT. 12 by the template 'for every input the law returns true; each argument reads behind the call as it read before'; 0 by the template 'total and deterministic' (their statements: YtkpfjjkblfjodaaTotals.lean).
  GIVEN WITH THE SEED: the statements are not yours to turn. If you find one false, say at which input.
  Laid BY PROGRAM, IN A SANDBOX (cutbox-rows.mjs): the forced cells as the released guide's own fill.sh prints them over the translation 5b2063d6d483d0e0… (all of the seat's roots in one cut). By AI agents, Wed Nov 11 2026. No macro, syntax, notation, axiom, sorry.
-/
import Derived.Test.YtkpfjjkblfjodaaChecked
import GoSem.Claim
import GoSem.ClaimJoined
import GoSem.ClaimMapViews
import Derived.JoinedTies
import Derived.KernelRfl
namespace Go.Proofs.Ytkpfjjkblfjodaa
/- THE CELL 'sum', in the pinned program and in every row, IS THE sha256 OF THE DUMP (.gsa) THAT YtkpfjjkblfjodaaProg.lean LOADS. Nothing in Lean hashes anything: it is a label: what it is worth is what the hold of that sum in a sandbox is worth. -/
noncomputable def Try.pinned : Pinned := { name := "ytkpfjjkblfjodaa", sum := "5b2063d6d483d0e0b0901e915b048fc7edf759739d21ce2d1adc7a0b0d03f836", checked := Try.checked }
namespace Rows
def none {H : Type} : Left H := { results := [], args := [] }

/-- 'laws.FnEdges': WHATEVER THE INPUT: true; the input reads as it did. -/
def fnEdgesSpec : ChangeSpec := { name := "fnEdges", fn := fun _ => fun
  | [d1, d2] => { results := [.lit (.bool true)], args := [d1, d2] }
  | _ => none }
def fnEdgesRow : OpenClaim := { program := "ytkpfjjkblfjodaa", sum := "5b2063d6d483d0e0b0901e915b048fc7edf759739d21ce2d1adc7a0b0d03f836", func := "loop.example/g00747/laws.FnEdges", spec := "fnEdges", inPlace := ["math.Float64frombits", "math.Float64bits"], apart := false }
def FnEdgesSaid : Prop := fnEdgesRow.holds Try.pinned (OpenSpec.ofChange fnEdgesSpec)

/-- ITS FALSE NEIGHBOUR: 'it returns false'. Refute it at one input. -/
def fnEdgesWrong : ChangeSpec := { name := "fnEdges", fn := fun _ => fun
  | [d1, d2] => { results := [.lit (.bool false)], args := [d1, d2] }
  | _ => none }
def FnEdgesWrongFalsely : Prop := fnEdgesRow.holds Try.pinned (OpenSpec.ofChange fnEdgesWrong)

/-- 'laws.FnRanges': WHATEVER THE INPUT: true; the input reads as it did. -/
def fnRangesSpec : ChangeSpec := { name := "fnRanges", fn := fun _ => fun
  | [d1, d2] => { results := [.lit (.bool true)], args := [d1, d2] }
  | _ => none }
def fnRangesRow : OpenClaim := { program := "ytkpfjjkblfjodaa", sum := "5b2063d6d483d0e0b0901e915b048fc7edf759739d21ce2d1adc7a0b0d03f836", func := "loop.example/g00747/laws.FnRanges", spec := "fnRanges", inPlace := ["math.Float64frombits", "math.Float64bits"], apart := false }
def FnRangesSaid : Prop := fnRangesRow.holds Try.pinned (OpenSpec.ofChange fnRangesSpec)

/-- ITS FALSE NEIGHBOUR: 'it returns false'. Refute it at one input. -/
def fnRangesWrong : ChangeSpec := { name := "fnRanges", fn := fun _ => fun
  | [d1, d2] => { results := [.lit (.bool false)], args := [d1, d2] }
  | _ => none }
def FnRangesWrongFalsely : Prop := fnRangesRow.holds Try.pinned (OpenSpec.ofChange fnRangesWrong)

/-- 'laws.FnExactConstants': WHATEVER THE INPUT: true; the input reads as it did. -/
def fnExactConstantsSpec : ChangeSpec := { name := "fnExactConstants", fn := fun _ => fun
  | [] => { results := [.lit (.bool true)], args := [] }
  | _ => none }
def fnExactConstantsRow : OpenClaim := { program := "ytkpfjjkblfjodaa", sum := "5b2063d6d483d0e0b0901e915b048fc7edf759739d21ce2d1adc7a0b0d03f836", func := "loop.example/g00747/laws.FnExactConstants", spec := "fnExactConstants", apart := false }
def FnExactConstantsSaid : Prop := fnExactConstantsRow.holds Try.pinned (OpenSpec.ofChange fnExactConstantsSpec)

/-- ITS FALSE NEIGHBOUR: 'it returns false'. Refute it at one input. -/
def fnExactConstantsWrong : ChangeSpec := { name := "fnExactConstants", fn := fun _ => fun
  | [] => { results := [.lit (.bool false)], args := [] }
  | _ => none }
def FnExactConstantsWrongFalsely : Prop := fnExactConstantsRow.holds Try.pinned (OpenSpec.ofChange fnExactConstantsWrong)

/-- 'laws.FnExactBitsOf': WHATEVER THE INPUT: true; the input reads as it did. -/
def fnExactBitsOfSpec : ChangeSpec := { name := "fnExactBitsOf", fn := fun _ => fun
  | [d] => { results := [.lit (.bool true)], args := [d] }
  | _ => none }
def fnExactBitsOfRow : OpenClaim := { program := "ytkpfjjkblfjodaa", sum := "5b2063d6d483d0e0b0901e915b048fc7edf759739d21ce2d1adc7a0b0d03f836", func := "loop.example/g00747/laws.FnExactBitsOf", spec := "fnExactBitsOf", inPlace := ["math.Float64bits"], apart := false }
def FnExactBitsOfSaid : Prop := fnExactBitsOfRow.holds Try.pinned (OpenSpec.ofChange fnExactBitsOfSpec)

/-- ITS FALSE NEIGHBOUR: 'it returns false'. Refute it at one input. -/
def fnExactBitsOfWrong : ChangeSpec := { name := "fnExactBitsOf", fn := fun _ => fun
  | [d] => { results := [.lit (.bool false)], args := [d] }
  | _ => none }
def FnExactBitsOfWrongFalsely : Prop := fnExactBitsOfRow.holds Try.pinned (OpenSpec.ofChange fnExactBitsOfWrong)

/-- 'laws.FnExactFromBits': WHATEVER THE INPUT: true; the input reads as it did. -/
def fnExactFromBitsSpec : ChangeSpec := { name := "fnExactFromBits", fn := fun _ => fun
  | [d] => { results := [.lit (.bool true)], args := [d] }
  | _ => none }
def fnExactFromBitsRow : OpenClaim := { program := "ytkpfjjkblfjodaa", sum := "5b2063d6d483d0e0b0901e915b048fc7edf759739d21ce2d1adc7a0b0d03f836", func := "loop.example/g00747/laws.FnExactFromBits", spec := "fnExactFromBits", inPlace := ["math.Float64frombits"], apart := false }
def FnExactFromBitsSaid : Prop := fnExactFromBitsRow.holds Try.pinned (OpenSpec.ofChange fnExactFromBitsSpec)

/-- ITS FALSE NEIGHBOUR: 'it returns false'. Refute it at one input. -/
def fnExactFromBitsWrong : ChangeSpec := { name := "fnExactFromBits", fn := fun _ => fun
  | [d] => { results := [.lit (.bool false)], args := [d] }
  | _ => none }
def FnExactFromBitsWrongFalsely : Prop := fnExactFromBitsRow.holds Try.pinned (OpenSpec.ofChange fnExactFromBitsWrong)

/-- 'laws.FnExactSameValue': WHATEVER THE INPUT: true; the input reads as it did. -/
def fnExactSameValueSpec : ChangeSpec := { name := "fnExactSameValue", fn := fun _ => fun
  | [d1, d2] => { results := [.lit (.bool true)], args := [d1, d2] }
  | _ => none }
def fnExactSameValueRow : OpenClaim := { program := "ytkpfjjkblfjodaa", sum := "5b2063d6d483d0e0b0901e915b048fc7edf759739d21ce2d1adc7a0b0d03f836", func := "loop.example/g00747/laws.FnExactSameValue", spec := "fnExactSameValue", inPlace := ["math.Float64bits"], apart := false }
def FnExactSameValueSaid : Prop := fnExactSameValueRow.holds Try.pinned (OpenSpec.ofChange fnExactSameValueSpec)

/-- ITS FALSE NEIGHBOUR: 'it returns false'. Refute it at one input. -/
def fnExactSameValueWrong : ChangeSpec := { name := "fnExactSameValue", fn := fun _ => fun
  | [d1, d2] => { results := [.lit (.bool false)], args := [d1, d2] }
  | _ => none }
def FnExactSameValueWrongFalsely : Prop := fnExactSameValueRow.holds Try.pinned (OpenSpec.ofChange fnExactSameValueWrong)

/-- 'laws.FnExactKindOf': WHATEVER THE INPUT: true; the input reads as it did. -/
def fnExactKindOfSpec : ChangeSpec := { name := "fnExactKindOf", fn := fun _ => fun
  | [d] => { results := [.lit (.bool true)], args := [d] }
  | _ => none }
def fnExactKindOfRow : OpenClaim := { program := "ytkpfjjkblfjodaa", sum := "5b2063d6d483d0e0b0901e915b048fc7edf759739d21ce2d1adc7a0b0d03f836", func := "loop.example/g00747/laws.FnExactKindOf", spec := "fnExactKindOf", inPlace := ["math.Float64bits"], apart := false }
def FnExactKindOfSaid : Prop := fnExactKindOfRow.holds Try.pinned (OpenSpec.ofChange fnExactKindOfSpec)

/-- ITS FALSE NEIGHBOUR: 'it returns false'. Refute it at one input. -/
def fnExactKindOfWrong : ChangeSpec := { name := "fnExactKindOf", fn := fun _ => fun
  | [d] => { results := [.lit (.bool false)], args := [d] }
  | _ => none }
def FnExactKindOfWrongFalsely : Prop := fnExactKindOfRow.holds Try.pinned (OpenSpec.ofChange fnExactKindOfWrong)

/-- 'laws.FnExactLessValue': WHATEVER THE INPUT: true; the input reads as it did. -/
def fnExactLessValueSpec : ChangeSpec := { name := "fnExactLessValue", fn := fun _ => fun
  | [d1, d2] => { results := [.lit (.bool true)], args := [d1, d2] }
  | _ => none }
def fnExactLessValueRow : OpenClaim := { program := "ytkpfjjkblfjodaa", sum := "5b2063d6d483d0e0b0901e915b048fc7edf759739d21ce2d1adc7a0b0d03f836", func := "loop.example/g00747/laws.FnExactLessValue", spec := "fnExactLessValue", inPlace := ["math.Float64bits"], apart := false }
def FnExactLessValueSaid : Prop := fnExactLessValueRow.holds Try.pinned (OpenSpec.ofChange fnExactLessValueSpec)

/-- ITS FALSE NEIGHBOUR: 'it returns false'. Refute it at one input. -/
def fnExactLessValueWrong : ChangeSpec := { name := "fnExactLessValue", fn := fun _ => fun
  | [d1, d2] => { results := [.lit (.bool false)], args := [d1, d2] }
  | _ => none }
def FnExactLessValueWrongFalsely : Prop := fnExactLessValueRow.holds Try.pinned (OpenSpec.ofChange fnExactLessValueWrong)

/-- 'laws.FnExactSumValues': WHATEVER THE INPUT: true; the input reads as it did. -/
def fnExactSumValuesSpec : ChangeSpec := { name := "fnExactSumValues", fn := fun _ => fun
  | [d] => { results := [.lit (.bool true)], args := [d] }
  | _ => none }
def fnExactSumValuesRow : OpenClaim := { program := "ytkpfjjkblfjodaa", sum := "5b2063d6d483d0e0b0901e915b048fc7edf759739d21ce2d1adc7a0b0d03f836", func := "loop.example/g00747/laws.FnExactSumValues", spec := "fnExactSumValues", inPlace := ["math.Float64bits", "math.Float64frombits"], apart := false }
def FnExactSumValuesSaid : Prop := fnExactSumValuesRow.holds Try.pinned (OpenSpec.ofChange fnExactSumValuesSpec)

/-- ITS FALSE NEIGHBOUR: 'it returns false'. Refute it at one input. -/
def fnExactSumValuesWrong : ChangeSpec := { name := "fnExactSumValues", fn := fun _ => fun
  | [d] => { results := [.lit (.bool false)], args := [d] }
  | _ => none }
def FnExactSumValuesWrongFalsely : Prop := fnExactSumValuesRow.holds Try.pinned (OpenSpec.ofChange fnExactSumValuesWrong)

/-- 'laws.FnExactRangeOf': WHATEVER THE INPUT: true; the input reads as it did. -/
def fnExactRangeOfSpec : ChangeSpec := { name := "fnExactRangeOf", fn := fun _ => fun
  | [d] => { results := [.lit (.bool true)], args := [d] }
  | _ => none }
def fnExactRangeOfRow : OpenClaim := { program := "ytkpfjjkblfjodaa", sum := "5b2063d6d483d0e0b0901e915b048fc7edf759739d21ce2d1adc7a0b0d03f836", func := "loop.example/g00747/laws.FnExactRangeOf", spec := "fnExactRangeOf", inPlace := ["math.Float64bits"], apart := false }
def FnExactRangeOfSaid : Prop := fnExactRangeOfRow.holds Try.pinned (OpenSpec.ofChange fnExactRangeOfSpec)

/-- ITS FALSE NEIGHBOUR: 'it returns false'. Refute it at one input. -/
def fnExactRangeOfWrong : ChangeSpec := { name := "fnExactRangeOf", fn := fun _ => fun
  | [d] => { results := [.lit (.bool false)], args := [d] }
  | _ => none }
def FnExactRangeOfWrongFalsely : Prop := fnExactRangeOfRow.holds Try.pinned (OpenSpec.ofChange fnExactRangeOfWrong)

/-- 'laws.FnExactMarkStale': WHATEVER THE INPUT: true; the input reads as it did. -/
def fnExactMarkStaleSpec : ChangeSpec := { name := "fnExactMarkStale", fn := fun _ => fun
  | [] => { results := [.lit (.bool true)], args := [] }
  | _ => none }
def fnExactMarkStaleRow : OpenClaim := { program := "ytkpfjjkblfjodaa", sum := "5b2063d6d483d0e0b0901e915b048fc7edf759739d21ce2d1adc7a0b0d03f836", func := "loop.example/g00747/laws.FnExactMarkStale", spec := "fnExactMarkStale", inPlace := ["math.Float64frombits"], apart := false }
def FnExactMarkStaleSaid : Prop := fnExactMarkStaleRow.holds Try.pinned (OpenSpec.ofChange fnExactMarkStaleSpec)

/-- ITS FALSE NEIGHBOUR: 'it returns false'. Refute it at one input. -/
def fnExactMarkStaleWrong : ChangeSpec := { name := "fnExactMarkStale", fn := fun _ => fun
  | [] => { results := [.lit (.bool false)], args := [] }
  | _ => none }
def FnExactMarkStaleWrongFalsely : Prop := fnExactMarkStaleRow.holds Try.pinned (OpenSpec.ofChange fnExactMarkStaleWrong)

/-- 'laws.FnExactIsStale': WHATEVER THE INPUT: true; the input reads as it did. -/
def fnExactIsStaleSpec : ChangeSpec := { name := "fnExactIsStale", fn := fun _ => fun
  | [d] => { results := [.lit (.bool true)], args := [d] }
  | _ => none }
def fnExactIsStaleRow : OpenClaim := { program := "ytkpfjjkblfjodaa", sum := "5b2063d6d483d0e0b0901e915b048fc7edf759739d21ce2d1adc7a0b0d03f836", func := "loop.example/g00747/laws.FnExactIsStale", spec := "fnExactIsStale", inPlace := ["math.Float64bits"], apart := false }
def FnExactIsStaleSaid : Prop := fnExactIsStaleRow.holds Try.pinned (OpenSpec.ofChange fnExactIsStaleSpec)

/-- ITS FALSE NEIGHBOUR: 'it returns false'. Refute it at one input. -/
def fnExactIsStaleWrong : ChangeSpec := { name := "fnExactIsStale", fn := fun _ => fun
  | [d] => { results := [.lit (.bool false)], args := [d] }
  | _ => none }
def FnExactIsStaleWrongFalsely : Prop := fnExactIsStaleRow.holds Try.pinned (OpenSpec.ofChange fnExactIsStaleWrong)

/- THE SECOND FORM. 'bulk': how many values and letters a reading holds, each counted each time it is reached (what is shared counts as often as it is met; a slice's spare places count too). A statement '..UptoSaid' is the law's where the arguments, and the package variables that the reading takes, are together of bulk at most 1048576: NARROWER than '..Said'. Prove '..Said' where nothing that the law and all that it calls make is longer than what came in: it says more and counts as full. Else prove '..UptoSaid'. A law counts once. -/
mutual
def uptoBulk {H : Type} : DataW H → Nat
  | .lit (.string bytes) => bytes.length + 1
  | .lit _ => 1
  | .nil => 1
  | .ptr d => uptoBulk d + 1
  | .slice elems spare => uptoBulkAll elems + uptoBulkAll spare + 1
  | .agg parts => uptoBulkAll parts + 1
  | .iface _ d => uptoBulk d + 1
  | .map entries => uptoBulkEntries entries + 1
  | .held _ => 1
def uptoBulkAll {H : Type} : List (DataW H) → Nat
  | [] => 0
  | d :: r => uptoBulk d + uptoBulkAll r
def uptoBulkEntries {H : Type} : List (Lit × DataW H) → Nat
  | [] => 0
  | x :: r => uptoBulkEntry x + uptoBulkEntries r
def uptoBulkEntry {H : Type} : Lit × DataW H → Nat
  | (.string bytes, d) => bytes.length + uptoBulk d + 1
  | (_, d) => uptoBulk d + 1
 end
def uptoSmall : (H : Type) → List (DataW H) → Bool := fun _ ds => decide (uptoBulkAll ds ≤ 1048576)
def OpenSpec.upto (s : _root_.Go.ChangeSpec) : _root_.Go.OpenSpec := { _root_.Go.OpenSpec.ofChange s with cond := some uptoSmall }

/-- 'laws.FnEdges', WHERE WHAT IT READS IS OF BULK AT MOST 1048576: true; the input reads as it did. -/
def fnEdgesUptoRow : OpenClaim := { program := "ytkpfjjkblfjodaa", sum := "5b2063d6d483d0e0b0901e915b048fc7edf759739d21ce2d1adc7a0b0d03f836", func := "loop.example/g00747/laws.FnEdges", spec := "fnEdges", inPlace := ["math.Float64frombits", "math.Float64bits"], apart := false, narrowed := true }
def FnEdgesUptoSaid : Prop := fnEdgesUptoRow.holds Try.pinned (OpenSpec.upto fnEdgesSpec)

/-- 'laws.FnRanges', WHERE WHAT IT READS IS OF BULK AT MOST 1048576: true; the input reads as it did. -/
def fnRangesUptoRow : OpenClaim := { program := "ytkpfjjkblfjodaa", sum := "5b2063d6d483d0e0b0901e915b048fc7edf759739d21ce2d1adc7a0b0d03f836", func := "loop.example/g00747/laws.FnRanges", spec := "fnRanges", inPlace := ["math.Float64frombits", "math.Float64bits"], apart := false, narrowed := true }
def FnRangesUptoSaid : Prop := fnRangesUptoRow.holds Try.pinned (OpenSpec.upto fnRangesSpec)

/-- 'laws.FnExactConstants', WHERE WHAT IT READS IS OF BULK AT MOST 1048576: true; the input reads as it did. -/
def fnExactConstantsUptoRow : OpenClaim := { program := "ytkpfjjkblfjodaa", sum := "5b2063d6d483d0e0b0901e915b048fc7edf759739d21ce2d1adc7a0b0d03f836", func := "loop.example/g00747/laws.FnExactConstants", spec := "fnExactConstants", apart := false, narrowed := true }
def FnExactConstantsUptoSaid : Prop := fnExactConstantsUptoRow.holds Try.pinned (OpenSpec.upto fnExactConstantsSpec)

/-- 'laws.FnExactBitsOf', WHERE WHAT IT READS IS OF BULK AT MOST 1048576: true; the input reads as it did. -/
def fnExactBitsOfUptoRow : OpenClaim := { program := "ytkpfjjkblfjodaa", sum := "5b2063d6d483d0e0b0901e915b048fc7edf759739d21ce2d1adc7a0b0d03f836", func := "loop.example/g00747/laws.FnExactBitsOf", spec := "fnExactBitsOf", inPlace := ["math.Float64bits"], apart := false, narrowed := true }
def FnExactBitsOfUptoSaid : Prop := fnExactBitsOfUptoRow.holds Try.pinned (OpenSpec.upto fnExactBitsOfSpec)

/-- 'laws.FnExactFromBits', WHERE WHAT IT READS IS OF BULK AT MOST 1048576: true; the input reads as it did. -/
def fnExactFromBitsUptoRow : OpenClaim := { program := "ytkpfjjkblfjodaa", sum := "5b2063d6d483d0e0b0901e915b048fc7edf759739d21ce2d1adc7a0b0d03f836", func := "loop.example/g00747/laws.FnExactFromBits", spec := "fnExactFromBits", inPlace := ["math.Float64frombits"], apart := false, narrowed := true }
def FnExactFromBitsUptoSaid : Prop := fnExactFromBitsUptoRow.holds Try.pinned (OpenSpec.upto fnExactFromBitsSpec)

/-- 'laws.FnExactSameValue', WHERE WHAT IT READS IS OF BULK AT MOST 1048576: true; the input reads as it did. -/
def fnExactSameValueUptoRow : OpenClaim := { program := "ytkpfjjkblfjodaa", sum := "5b2063d6d483d0e0b0901e915b048fc7edf759739d21ce2d1adc7a0b0d03f836", func := "loop.example/g00747/laws.FnExactSameValue", spec := "fnExactSameValue", inPlace := ["math.Float64bits"], apart := false, narrowed := true }
def FnExactSameValueUptoSaid : Prop := fnExactSameValueUptoRow.holds Try.pinned (OpenSpec.upto fnExactSameValueSpec)

/-- 'laws.FnExactKindOf', WHERE WHAT IT READS IS OF BULK AT MOST 1048576: true; the input reads as it did. -/
def fnExactKindOfUptoRow : OpenClaim := { program := "ytkpfjjkblfjodaa", sum := "5b2063d6d483d0e0b0901e915b048fc7edf759739d21ce2d1adc7a0b0d03f836", func := "loop.example/g00747/laws.FnExactKindOf", spec := "fnExactKindOf", inPlace := ["math.Float64bits"], apart := false, narrowed := true }
def FnExactKindOfUptoSaid : Prop := fnExactKindOfUptoRow.holds Try.pinned (OpenSpec.upto fnExactKindOfSpec)

/-- 'laws.FnExactLessValue', WHERE WHAT IT READS IS OF BULK AT MOST 1048576: true; the input reads as it did. -/
def fnExactLessValueUptoRow : OpenClaim := { program := "ytkpfjjkblfjodaa", sum := "5b2063d6d483d0e0b0901e915b048fc7edf759739d21ce2d1adc7a0b0d03f836", func := "loop.example/g00747/laws.FnExactLessValue", spec := "fnExactLessValue", inPlace := ["math.Float64bits"], apart := false, narrowed := true }
def FnExactLessValueUptoSaid : Prop := fnExactLessValueUptoRow.holds Try.pinned (OpenSpec.upto fnExactLessValueSpec)

/-- 'laws.FnExactSumValues', WHERE WHAT IT READS IS OF BULK AT MOST 1048576: true; the input reads as it did. -/
def fnExactSumValuesUptoRow : OpenClaim := { program := "ytkpfjjkblfjodaa", sum := "5b2063d6d483d0e0b0901e915b048fc7edf759739d21ce2d1adc7a0b0d03f836", func := "loop.example/g00747/laws.FnExactSumValues", spec := "fnExactSumValues", inPlace := ["math.Float64bits", "math.Float64frombits"], apart := false, narrowed := true }
def FnExactSumValuesUptoSaid : Prop := fnExactSumValuesUptoRow.holds Try.pinned (OpenSpec.upto fnExactSumValuesSpec)

/-- 'laws.FnExactRangeOf', WHERE WHAT IT READS IS OF BULK AT MOST 1048576: true; the input reads as it did. -/
def fnExactRangeOfUptoRow : OpenClaim := { program := "ytkpfjjkblfjodaa", sum := "5b2063d6d483d0e0b0901e915b048fc7edf759739d21ce2d1adc7a0b0d03f836", func := "loop.example/g00747/laws.FnExactRangeOf", spec := "fnExactRangeOf", inPlace := ["math.Float64bits"], apart := false, narrowed := true }
def FnExactRangeOfUptoSaid : Prop := fnExactRangeOfUptoRow.holds Try.pinned (OpenSpec.upto fnExactRangeOfSpec)

/-- 'laws.FnExactMarkStale', WHERE WHAT IT READS IS OF BULK AT MOST 1048576: true; the input reads as it did. -/
def fnExactMarkStaleUptoRow : OpenClaim := { program := "ytkpfjjkblfjodaa", sum := "5b2063d6d483d0e0b0901e915b048fc7edf759739d21ce2d1adc7a0b0d03f836", func := "loop.example/g00747/laws.FnExactMarkStale", spec := "fnExactMarkStale", inPlace := ["math.Float64frombits"], apart := false, narrowed := true }
def FnExactMarkStaleUptoSaid : Prop := fnExactMarkStaleUptoRow.holds Try.pinned (OpenSpec.upto fnExactMarkStaleSpec)

/-- 'laws.FnExactIsStale', WHERE WHAT IT READS IS OF BULK AT MOST 1048576: true; the input reads as it did. -/
def fnExactIsStaleUptoRow : OpenClaim := { program := "ytkpfjjkblfjodaa", sum := "5b2063d6d483d0e0b0901e915b048fc7edf759739d21ce2d1adc7a0b0d03f836", func := "loop.example/g00747/laws.FnExactIsStale", spec := "fnExactIsStale", inPlace := ["math.Float64bits"], apart := false, narrowed := true }
def FnExactIsStaleUptoSaid : Prop := fnExactIsStaleUptoRow.holds Try.pinned (OpenSpec.upto fnExactIsStaleSpec)

end Rows
end Go.Proofs.Ytkpfjjkblfjodaa
