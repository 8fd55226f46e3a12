/-
  No cell of these rows narrows 'for every input' (looked for: loops, veiled, ifaces, maps, wideKeys, modest, calm, conditions, laid).
  DERIVED. THE GIVEN ROWS OF THIS SEAT. 9 by the template 'for every input the law returns true; each argument reads behind the call as it read before'; 0 by the template 'total and deterministic' (their statements: YteiefngamccapaaTotals.lean).
  GIVEN WITH THE SEED: the statements are not yours to turn. If you find one false, say at which input.
  Laid BY PROGRAM, IN A SANDBOX (cutbox-rows.mjs): the forced cells as the released guide's own fill.sh prints them over the translation 1df2eafe7b1a0056… (all of the seat's roots in one cut). By AI agents, Wed Nov 11 2026. No macro, syntax, notation, axiom, sorry.
-/
import Derived.Test.YteiefngamccapaaChecked
import GoSem.Claim
import GoSem.ClaimJoined
import GoSem.ClaimMapViews
import Derived.JoinedTies
import Derived.KernelRfl
namespace Go.Proofs.Yteiefngamccapaa
/- THE CELL 'sum', in the pinned program and in every row, IS THE sha256 OF THE DUMP (.gsa) THAT YteiefngamccapaaProg.lean LOADS. Nothing in Lean hashes anything: it is a label: what it is worth is what the hold of that sum in a sandbox is worth. -/
noncomputable def Try.pinned : Pinned := { name := "yteiefngamccapaa", sum := "1df2eafe7b1a005614108faba2e9862d017a6bb3cb2953ec9bc4f739583747d2", checked := Try.checked }
namespace Rows
def none {H : Type} : Left H := { results := [], args := [] }

/-- 'laws.FnExactGoodSeries': WHATEVER THE INPUT: true; the input reads as it did. -/
def fnExactGoodSeriesSpec : ChangeSpec := { name := "fnExactGoodSeries", fn := fun _ => fun
  | [d] => { results := [.lit (.bool true)], args := [d] }
  | _ => none }
def fnExactGoodSeriesRow : OpenClaim := { program := "yteiefngamccapaa", sum := "1df2eafe7b1a005614108faba2e9862d017a6bb3cb2953ec9bc4f739583747d2", func := "loop.example/g00747/laws.FnExactGoodSeries", spec := "fnExactGoodSeries", inPlace := ["math.Float64frombits", "math.Float64bits", "internal/abi.NoEscape"], unfollowed := true, recurses := true, apart := false }
def FnExactGoodSeriesSaid : Prop := fnExactGoodSeriesRow.holds Try.pinned (OpenSpec.ofChange fnExactGoodSeriesSpec)

/-- ITS FALSE NEIGHBOUR: 'it returns false'. Refute it at one input. -/
def fnExactGoodSeriesWrong : ChangeSpec := { name := "fnExactGoodSeries", fn := fun _ => fun
  | [d] => { results := [.lit (.bool false)], args := [d] }
  | _ => none }
def FnExactGoodSeriesWrongFalsely : Prop := fnExactGoodSeriesRow.holds Try.pinned (OpenSpec.ofChange fnExactGoodSeriesWrong)

/-- 'laws.FnExactNewSeries': WHATEVER THE INPUT: true; the input reads as it did. -/
def fnExactNewSeriesSpec : ChangeSpec := { name := "fnExactNewSeries", fn := fun _ => fun
  | [d] => { results := [.lit (.bool true)], args := [d] }
  | _ => none }
def fnExactNewSeriesRow : OpenClaim := { program := "yteiefngamccapaa", sum := "1df2eafe7b1a005614108faba2e9862d017a6bb3cb2953ec9bc4f739583747d2", func := "loop.example/g00747/laws.FnExactNewSeries", spec := "fnExactNewSeries", apart := false }
def FnExactNewSeriesSaid : Prop := fnExactNewSeriesRow.holds Try.pinned (OpenSpec.ofChange fnExactNewSeriesSpec)

/-- ITS FALSE NEIGHBOUR: 'it returns false'. Refute it at one input. -/
def fnExactNewSeriesWrong : ChangeSpec := { name := "fnExactNewSeries", fn := fun _ => fun
  | [d] => { results := [.lit (.bool false)], args := [d] }
  | _ => none }
def FnExactNewSeriesWrongFalsely : Prop := fnExactNewSeriesRow.holds Try.pinned (OpenSpec.ofChange fnExactNewSeriesWrong)

/-- 'laws.FnExactPutSample': WHATEVER THE INPUT: true; the input reads as it did. -/
def fnExactPutSampleSpec : ChangeSpec := { name := "fnExactPutSample", fn := fun _ => fun
  | [d1, d2] => { results := [.lit (.bool true)], args := [d1, d2] }
  | _ => none }
def fnExactPutSampleRow : OpenClaim := { program := "yteiefngamccapaa", sum := "1df2eafe7b1a005614108faba2e9862d017a6bb3cb2953ec9bc4f739583747d2", func := "loop.example/g00747/laws.FnExactPutSample", spec := "fnExactPutSample", inPlace := ["math.Float64frombits", "math.Float64bits", "internal/abi.NoEscape"], unfollowed := true, recurses := true, apart := false }
def FnExactPutSampleSaid : Prop := fnExactPutSampleRow.holds Try.pinned (OpenSpec.ofChange fnExactPutSampleSpec)

/-- ITS FALSE NEIGHBOUR: 'it returns false'. Refute it at one input. -/
def fnExactPutSampleWrong : ChangeSpec := { name := "fnExactPutSample", fn := fun _ => fun
  | [d1, d2] => { results := [.lit (.bool false)], args := [d1, d2] }
  | _ => none }
def FnExactPutSampleWrongFalsely : Prop := fnExactPutSampleRow.holds Try.pinned (OpenSpec.ofChange fnExactPutSampleWrong)

/-- 'laws.FnExactPutAll': WHATEVER THE INPUT: true; the input reads as it did. -/
def fnExactPutAllSpec : ChangeSpec := { name := "fnExactPutAll", fn := fun _ => fun
  | [d1, d2] => { results := [.lit (.bool true)], args := [d1, d2] }
  | _ => none }
def fnExactPutAllRow : OpenClaim := { program := "yteiefngamccapaa", sum := "1df2eafe7b1a005614108faba2e9862d017a6bb3cb2953ec9bc4f739583747d2", func := "loop.example/g00747/laws.FnExactPutAll", spec := "fnExactPutAll", inPlace := ["math.Float64frombits", "math.Float64bits", "internal/abi.NoEscape"], unfollowed := true, recurses := true, apart := false }
def FnExactPutAllSaid : Prop := fnExactPutAllRow.holds Try.pinned (OpenSpec.ofChange fnExactPutAllSpec)

/-- ITS FALSE NEIGHBOUR: 'it returns false'. Refute it at one input. -/
def fnExactPutAllWrong : ChangeSpec := { name := "fnExactPutAll", fn := fun _ => fun
  | [d1, d2] => { results := [.lit (.bool false)], args := [d1, d2] }
  | _ => none }
def FnExactPutAllWrongFalsely : Prop := fnExactPutAllRow.holds Try.pinned (OpenSpec.ofChange fnExactPutAllWrong)

/-- 'laws.FnExactReadRange': WHATEVER THE INPUT: true; the input reads as it did. -/
def fnExactReadRangeSpec : ChangeSpec := { name := "fnExactReadRange", fn := fun _ => fun
  | [d1, d2, d3] => { results := [.lit (.bool true)], args := [d1, d2, d3] }
  | _ => none }
def fnExactReadRangeRow : OpenClaim := { program := "yteiefngamccapaa", sum := "1df2eafe7b1a005614108faba2e9862d017a6bb3cb2953ec9bc4f739583747d2", func := "loop.example/g00747/laws.FnExactReadRange", spec := "fnExactReadRange", inPlace := ["math.Float64frombits", "math.Float64bits", "internal/abi.NoEscape"], unfollowed := true, recurses := true, apart := false }
def FnExactReadRangeSaid : Prop := fnExactReadRangeRow.holds Try.pinned (OpenSpec.ofChange fnExactReadRangeSpec)

/-- ITS FALSE NEIGHBOUR: 'it returns false'. Refute it at one input. -/
def fnExactReadRangeWrong : ChangeSpec := { name := "fnExactReadRange", fn := fun _ => fun
  | [d1, d2, d3] => { results := [.lit (.bool false)], args := [d1, d2, d3] }
  | _ => none }
def FnExactReadRangeWrongFalsely : Prop := fnExactReadRangeRow.holds Try.pinned (OpenSpec.ofChange fnExactReadRangeWrong)

/-- 'laws.FnExactTruncate': WHATEVER THE INPUT: true; the input reads as it did. -/
def fnExactTruncateSpec : ChangeSpec := { name := "fnExactTruncate", fn := fun _ => fun
  | [d1, d2] => { results := [.lit (.bool true)], args := [d1, d2] }
  | _ => none }
def fnExactTruncateRow : OpenClaim := { program := "yteiefngamccapaa", sum := "1df2eafe7b1a005614108faba2e9862d017a6bb3cb2953ec9bc4f739583747d2", func := "loop.example/g00747/laws.FnExactTruncate", spec := "fnExactTruncate", inPlace := ["math.Float64frombits", "math.Float64bits", "internal/abi.NoEscape"], unfollowed := true, recurses := true, apart := false }
def FnExactTruncateSaid : Prop := fnExactTruncateRow.holds Try.pinned (OpenSpec.ofChange fnExactTruncateSpec)

/-- ITS FALSE NEIGHBOUR: 'it returns false'. Refute it at one input. -/
def fnExactTruncateWrong : ChangeSpec := { name := "fnExactTruncate", fn := fun _ => fun
  | [d1, d2] => { results := [.lit (.bool false)], args := [d1, d2] }
  | _ => none }
def FnExactTruncateWrongFalsely : Prop := fnExactTruncateRow.holds Try.pinned (OpenSpec.ofChange fnExactTruncateWrong)

/-- 'laws.FnExactCutHead': WHATEVER THE INPUT: true; the input reads as it did. -/
def fnExactCutHeadSpec : ChangeSpec := { name := "fnExactCutHead", fn := fun _ => fun
  | [d] => { results := [.lit (.bool true)], args := [d] }
  | _ => none }
def fnExactCutHeadRow : OpenClaim := { program := "yteiefngamccapaa", sum := "1df2eafe7b1a005614108faba2e9862d017a6bb3cb2953ec9bc4f739583747d2", func := "loop.example/g00747/laws.FnExactCutHead", spec := "fnExactCutHead", inPlace := ["math.Float64frombits", "math.Float64bits", "internal/abi.NoEscape"], unfollowed := true, recurses := true, apart := false }
def FnExactCutHeadSaid : Prop := fnExactCutHeadRow.holds Try.pinned (OpenSpec.ofChange fnExactCutHeadSpec)

/-- ITS FALSE NEIGHBOUR: 'it returns false'. Refute it at one input. -/
def fnExactCutHeadWrong : ChangeSpec := { name := "fnExactCutHead", fn := fun _ => fun
  | [d] => { results := [.lit (.bool false)], args := [d] }
  | _ => none }
def FnExactCutHeadWrongFalsely : Prop := fnExactCutHeadRow.holds Try.pinned (OpenSpec.ofChange fnExactCutHeadWrong)

/-- 'laws.FnExactLastOf': WHATEVER THE INPUT: true; the input reads as it did. -/
def fnExactLastOfSpec : ChangeSpec := { name := "fnExactLastOf", fn := fun _ => fun
  | [d] => { results := [.lit (.bool true)], args := [d] }
  | _ => none }
def fnExactLastOfRow : OpenClaim := { program := "yteiefngamccapaa", sum := "1df2eafe7b1a005614108faba2e9862d017a6bb3cb2953ec9bc4f739583747d2", func := "loop.example/g00747/laws.FnExactLastOf", spec := "fnExactLastOf", inPlace := ["math.Float64frombits", "math.Float64bits", "internal/abi.NoEscape"], unfollowed := true, recurses := true, apart := false }
def FnExactLastOfSaid : Prop := fnExactLastOfRow.holds Try.pinned (OpenSpec.ofChange fnExactLastOfSpec)

/-- ITS FALSE NEIGHBOUR: 'it returns false'. Refute it at one input. -/
def fnExactLastOfWrong : ChangeSpec := { name := "fnExactLastOf", fn := fun _ => fun
  | [d] => { results := [.lit (.bool false)], args := [d] }
  | _ => none }
def FnExactLastOfWrongFalsely : Prop := fnExactLastOfRow.holds Try.pinned (OpenSpec.ofChange fnExactLastOfWrong)

/-- 'laws.FnExactCompact': WHATEVER THE INPUT: true; the input reads as it did. -/
def fnExactCompactSpec : ChangeSpec := { name := "fnExactCompact", fn := fun _ => fun
  | [d] => { results := [.lit (.bool true)], args := [d] }
  | _ => none }
def fnExactCompactRow : OpenClaim := { program := "yteiefngamccapaa", sum := "1df2eafe7b1a005614108faba2e9862d017a6bb3cb2953ec9bc4f739583747d2", func := "loop.example/g00747/laws.FnExactCompact", spec := "fnExactCompact", inPlace := ["math.Float64frombits", "math.Float64bits", "internal/abi.NoEscape"], unfollowed := true, recurses := true, apart := false }
def FnExactCompactSaid : Prop := fnExactCompactRow.holds Try.pinned (OpenSpec.ofChange fnExactCompactSpec)

/-- ITS FALSE NEIGHBOUR: 'it returns false'. Refute it at one input. -/
def fnExactCompactWrong : ChangeSpec := { name := "fnExactCompact", fn := fun _ => fun
  | [d] => { results := [.lit (.bool false)], args := [d] }
  | _ => none }
def FnExactCompactWrongFalsely : Prop := fnExactCompactRow.holds Try.pinned (OpenSpec.ofChange fnExactCompactWrong)

/- THE SECOND FORM. 'bulk': how many values and letters a reading holds, each counted each time it is reached (what is shared counts as often as it is met; a slice's spare places count too). A statement '..UptoSaid' is the law's where the arguments, and the package variables that the reading takes, are together of bulk at most 1048576: NARROWER than '..Said'. Prove '..Said' where nothing that the law and all that it calls make is longer than what came in: it says more and counts as full. Else prove '..UptoSaid'. A law counts once. -/
mutual
def uptoBulk {H : Type} : DataW H → Nat
  | .lit (.string bytes) => bytes.length + 1
  | .lit _ => 1
  | .nil => 1
  | .ptr d => uptoBulk d + 1
  | .slice elems spare => uptoBulkAll elems + uptoBulkAll spare + 1
  | .agg parts => uptoBulkAll parts + 1
  | .iface _ d => uptoBulk d + 1
  | .map entries => uptoBulkEntries entries + 1
  | .held _ => 1
def uptoBulkAll {H : Type} : List (DataW H) → Nat
  | [] => 0
  | d :: r => uptoBulk d + uptoBulkAll r
def uptoBulkEntries {H : Type} : List (Lit × DataW H) → Nat
  | [] => 0
  | x :: r => uptoBulkEntry x + uptoBulkEntries r
def uptoBulkEntry {H : Type} : Lit × DataW H → Nat
  | (.string bytes, d) => bytes.length + uptoBulk d + 1
  | (_, d) => uptoBulk d + 1
 end
def uptoSmall : (H : Type) → List (DataW H) → Bool := fun _ ds => decide (uptoBulkAll ds ≤ 1048576)
def OpenSpec.upto (s : _root_.Go.ChangeSpec) : _root_.Go.OpenSpec := { _root_.Go.OpenSpec.ofChange s with cond := some uptoSmall }

/-- 'laws.FnExactGoodSeries', WHERE WHAT IT READS IS OF BULK AT MOST 1048576: true; the input reads as it did. -/
def fnExactGoodSeriesUptoRow : OpenClaim := { program := "yteiefngamccapaa", sum := "1df2eafe7b1a005614108faba2e9862d017a6bb3cb2953ec9bc4f739583747d2", func := "loop.example/g00747/laws.FnExactGoodSeries", spec := "fnExactGoodSeries", inPlace := ["math.Float64frombits", "math.Float64bits", "internal/abi.NoEscape"], unfollowed := true, recurses := true, apart := false, narrowed := true }
def FnExactGoodSeriesUptoSaid : Prop := fnExactGoodSeriesUptoRow.holds Try.pinned (OpenSpec.upto fnExactGoodSeriesSpec)

/-- 'laws.FnExactNewSeries', WHERE WHAT IT READS IS OF BULK AT MOST 1048576: true; the input reads as it did. -/
def fnExactNewSeriesUptoRow : OpenClaim := { program := "yteiefngamccapaa", sum := "1df2eafe7b1a005614108faba2e9862d017a6bb3cb2953ec9bc4f739583747d2", func := "loop.example/g00747/laws.FnExactNewSeries", spec := "fnExactNewSeries", apart := false, narrowed := true }
def FnExactNewSeriesUptoSaid : Prop := fnExactNewSeriesUptoRow.holds Try.pinned (OpenSpec.upto fnExactNewSeriesSpec)

/-- 'laws.FnExactPutSample', WHERE WHAT IT READS IS OF BULK AT MOST 1048576: true; the input reads as it did. -/
def fnExactPutSampleUptoRow : OpenClaim := { program := "yteiefngamccapaa", sum := "1df2eafe7b1a005614108faba2e9862d017a6bb3cb2953ec9bc4f739583747d2", func := "loop.example/g00747/laws.FnExactPutSample", spec := "fnExactPutSample", inPlace := ["math.Float64frombits", "math.Float64bits", "internal/abi.NoEscape"], unfollowed := true, recurses := true, apart := false, narrowed := true }
def FnExactPutSampleUptoSaid : Prop := fnExactPutSampleUptoRow.holds Try.pinned (OpenSpec.upto fnExactPutSampleSpec)

/-- 'laws.FnExactPutAll', WHERE WHAT IT READS IS OF BULK AT MOST 1048576: true; the input reads as it did. -/
def fnExactPutAllUptoRow : OpenClaim := { program := "yteiefngamccapaa", sum := "1df2eafe7b1a005614108faba2e9862d017a6bb3cb2953ec9bc4f739583747d2", func := "loop.example/g00747/laws.FnExactPutAll", spec := "fnExactPutAll", inPlace := ["math.Float64frombits", "math.Float64bits", "internal/abi.NoEscape"], unfollowed := true, recurses := true, apart := false, narrowed := true }
def FnExactPutAllUptoSaid : Prop := fnExactPutAllUptoRow.holds Try.pinned (OpenSpec.upto fnExactPutAllSpec)

/-- 'laws.FnExactReadRange', WHERE WHAT IT READS IS OF BULK AT MOST 1048576: true; the input reads as it did. -/
def fnExactReadRangeUptoRow : OpenClaim := { program := "yteiefngamccapaa", sum := "1df2eafe7b1a005614108faba2e9862d017a6bb3cb2953ec9bc4f739583747d2", func := "loop.example/g00747/laws.FnExactReadRange", spec := "fnExactReadRange", inPlace := ["math.Float64frombits", "math.Float64bits", "internal/abi.NoEscape"], unfollowed := true, recurses := true, apart := false, narrowed := true }
def FnExactReadRangeUptoSaid : Prop := fnExactReadRangeUptoRow.holds Try.pinned (OpenSpec.upto fnExactReadRangeSpec)

/-- 'laws.FnExactTruncate', WHERE WHAT IT READS IS OF BULK AT MOST 1048576: true; the input reads as it did. -/
def fnExactTruncateUptoRow : OpenClaim := { program := "yteiefngamccapaa", sum := "1df2eafe7b1a005614108faba2e9862d017a6bb3cb2953ec9bc4f739583747d2", func := "loop.example/g00747/laws.FnExactTruncate", spec := "fnExactTruncate", inPlace := ["math.Float64frombits", "math.Float64bits", "internal/abi.NoEscape"], unfollowed := true, recurses := true, apart := false, narrowed := true }
def FnExactTruncateUptoSaid : Prop := fnExactTruncateUptoRow.holds Try.pinned (OpenSpec.upto fnExactTruncateSpec)

/-- 'laws.FnExactCutHead', WHERE WHAT IT READS IS OF BULK AT MOST 1048576: true; the input reads as it did. -/
def fnExactCutHeadUptoRow : OpenClaim := { program := "yteiefngamccapaa", sum := "1df2eafe7b1a005614108faba2e9862d017a6bb3cb2953ec9bc4f739583747d2", func := "loop.example/g00747/laws.FnExactCutHead", spec := "fnExactCutHead", inPlace := ["math.Float64frombits", "math.Float64bits", "internal/abi.NoEscape"], unfollowed := true, recurses := true, apart := false, narrowed := true }
def FnExactCutHeadUptoSaid : Prop := fnExactCutHeadUptoRow.holds Try.pinned (OpenSpec.upto fnExactCutHeadSpec)

/-- 'laws.FnExactLastOf', WHERE WHAT IT READS IS OF BULK AT MOST 1048576: true; the input reads as it did. -/
def fnExactLastOfUptoRow : OpenClaim := { program := "yteiefngamccapaa", sum := "1df2eafe7b1a005614108faba2e9862d017a6bb3cb2953ec9bc4f739583747d2", func := "loop.example/g00747/laws.FnExactLastOf", spec := "fnExactLastOf", inPlace := ["math.Float64frombits", "math.Float64bits", "internal/abi.NoEscape"], unfollowed := true, recurses := true, apart := false, narrowed := true }
def FnExactLastOfUptoSaid : Prop := fnExactLastOfUptoRow.holds Try.pinned (OpenSpec.upto fnExactLastOfSpec)

/-- 'laws.FnExactCompact', WHERE WHAT IT READS IS OF BULK AT MOST 1048576: true; the input reads as it did. -/
def fnExactCompactUptoRow : OpenClaim := { program := "yteiefngamccapaa", sum := "1df2eafe7b1a005614108faba2e9862d017a6bb3cb2953ec9bc4f739583747d2", func := "loop.example/g00747/laws.FnExactCompact", spec := "fnExactCompact", inPlace := ["math.Float64frombits", "math.Float64bits", "internal/abi.NoEscape"], unfollowed := true, recurses := true, apart := false, narrowed := true }
def FnExactCompactUptoSaid : Prop := fnExactCompactUptoRow.holds Try.pinned (OpenSpec.upto fnExactCompactSpec)

end Rows
end Go.Proofs.Yteiefngamccapaa
