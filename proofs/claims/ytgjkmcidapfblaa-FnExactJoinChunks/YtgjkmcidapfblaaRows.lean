/-
  No cell of these rows narrows 'for every input' (looked for: loops, veiled, ifaces, maps, wideKeys, modest, calm, conditions, laid).
  DERIVED. THE GIVEN ROWS OF THIS SEAT. 8 by the template 'for every input the law returns true; each argument reads behind the call as it read before'; 0 by the template 'total and deterministic' (their statements: YtgjkmcidapfblaaTotals.lean).
  GIVEN WITH THE SEED: the statements are not yours to turn. If you find one false, say at which input.
  Laid BY PROGRAM, IN A SANDBOX (cutbox-rows.mjs): the forced cells as the released guide's own fill.sh prints them over the translation d4e8667da4077628… (all of the seat's roots in one cut). By AI agents, Wed Nov 11 2026. No macro, syntax, notation, axiom, sorry.
-/
import Derived.Test.YtgjkmcidapfblaaChecked
import GoSem.Claim
import GoSem.ClaimJoined
import GoSem.ClaimMapViews
import Derived.JoinedTies
import Derived.KernelRfl
namespace Go.Proofs.Ytgjkmcidapfblaa
/- THE CELL 'sum', in the pinned program and in every row, IS THE sha256 OF THE DUMP (.gsa) THAT YtgjkmcidapfblaaProg.lean LOADS. Nothing in Lean hashes anything: it is a label: what it is worth is what the hold of that sum in a sandbox is worth. -/
noncomputable def Try.pinned : Pinned := { name := "ytgjkmcidapfblaa", sum := "d4e8667da4077628be10fbf8e63e9a4a9bcc8355cedea933ffa5d63d1545f3f3", checked := Try.checked }
namespace Rows
def none {H : Type} : Left H := { results := [], args := [] }

/-- 'laws.FnExactGoodSamples': WHATEVER THE INPUT: true; the input reads as it did. -/
def fnExactGoodSamplesSpec : ChangeSpec := { name := "fnExactGoodSamples", fn := fun _ => fun
  | [d] => { results := [.lit (.bool true)], args := [d] }
  | _ => none }
def fnExactGoodSamplesRow : OpenClaim := { program := "ytgjkmcidapfblaa", sum := "d4e8667da4077628be10fbf8e63e9a4a9bcc8355cedea933ffa5d63d1545f3f3", func := "loop.example/g00747/laws.FnExactGoodSamples", spec := "fnExactGoodSamples", apart := false }
def FnExactGoodSamplesSaid : Prop := fnExactGoodSamplesRow.holds Try.pinned (OpenSpec.ofChange fnExactGoodSamplesSpec)

/-- ITS FALSE NEIGHBOUR: 'it returns false'. Refute it at one input. -/
def fnExactGoodSamplesWrong : ChangeSpec := { name := "fnExactGoodSamples", fn := fun _ => fun
  | [d] => { results := [.lit (.bool false)], args := [d] }
  | _ => none }
def FnExactGoodSamplesWrongFalsely : Prop := fnExactGoodSamplesRow.holds Try.pinned (OpenSpec.ofChange fnExactGoodSamplesWrong)

/-- 'laws.FnExactGoodChunk': WHATEVER THE INPUT: true; the input reads as it did. -/
def fnExactGoodChunkSpec : ChangeSpec := { name := "fnExactGoodChunk", fn := fun _ => fun
  | [d] => { results := [.lit (.bool true)], args := [d] }
  | _ => none }
def fnExactGoodChunkRow : OpenClaim := { program := "ytgjkmcidapfblaa", sum := "d4e8667da4077628be10fbf8e63e9a4a9bcc8355cedea933ffa5d63d1545f3f3", func := "loop.example/g00747/laws.FnExactGoodChunk", spec := "fnExactGoodChunk", inPlace := ["math.Float64frombits", "math.Float64bits", "internal/abi.NoEscape"], unfollowed := true, recurses := true, apart := false }
def FnExactGoodChunkSaid : Prop := fnExactGoodChunkRow.holds Try.pinned (OpenSpec.ofChange fnExactGoodChunkSpec)

/-- ITS FALSE NEIGHBOUR: 'it returns false'. Refute it at one input. -/
def fnExactGoodChunkWrong : ChangeSpec := { name := "fnExactGoodChunk", fn := fun _ => fun
  | [d] => { results := [.lit (.bool false)], args := [d] }
  | _ => none }
def FnExactGoodChunkWrongFalsely : Prop := fnExactGoodChunkRow.holds Try.pinned (OpenSpec.ofChange fnExactGoodChunkWrong)

/-- 'laws.FnExactAddSample': WHATEVER THE INPUT: true; the input reads as it did. -/
def fnExactAddSampleSpec : ChangeSpec := { name := "fnExactAddSample", fn := fun _ => fun
  | [d1, d2] => { results := [.lit (.bool true)], args := [d1, d2] }
  | _ => none }
def fnExactAddSampleRow : OpenClaim := { program := "ytgjkmcidapfblaa", sum := "d4e8667da4077628be10fbf8e63e9a4a9bcc8355cedea933ffa5d63d1545f3f3", func := "loop.example/g00747/laws.FnExactAddSample", spec := "fnExactAddSample", inPlace := ["math.Float64frombits", "math.Float64bits", "internal/abi.NoEscape"], unfollowed := true, recurses := true, apart := false }
def FnExactAddSampleSaid : Prop := fnExactAddSampleRow.holds Try.pinned (OpenSpec.ofChange fnExactAddSampleSpec)

/-- ITS FALSE NEIGHBOUR: 'it returns false'. Refute it at one input. -/
def fnExactAddSampleWrong : ChangeSpec := { name := "fnExactAddSample", fn := fun _ => fun
  | [d1, d2] => { results := [.lit (.bool false)], args := [d1, d2] }
  | _ => none }
def FnExactAddSampleWrongFalsely : Prop := fnExactAddSampleRow.holds Try.pinned (OpenSpec.ofChange fnExactAddSampleWrong)

/-- 'laws.FnExactSamplesOf': WHATEVER THE INPUT: true; the input reads as it did. -/
def fnExactSamplesOfSpec : ChangeSpec := { name := "fnExactSamplesOf", fn := fun _ => fun
  | [d] => { results := [.lit (.bool true)], args := [d] }
  | _ => none }
def fnExactSamplesOfRow : OpenClaim := { program := "ytgjkmcidapfblaa", sum := "d4e8667da4077628be10fbf8e63e9a4a9bcc8355cedea933ffa5d63d1545f3f3", func := "loop.example/g00747/laws.FnExactSamplesOf", spec := "fnExactSamplesOf", inPlace := ["math.Float64frombits", "math.Float64bits", "internal/abi.NoEscape"], unfollowed := true, recurses := true, apart := false }
def FnExactSamplesOfSaid : Prop := fnExactSamplesOfRow.holds Try.pinned (OpenSpec.ofChange fnExactSamplesOfSpec)

/-- ITS FALSE NEIGHBOUR: 'it returns false'. Refute it at one input. -/
def fnExactSamplesOfWrong : ChangeSpec := { name := "fnExactSamplesOf", fn := fun _ => fun
  | [d] => { results := [.lit (.bool false)], args := [d] }
  | _ => none }
def FnExactSamplesOfWrongFalsely : Prop := fnExactSamplesOfRow.holds Try.pinned (OpenSpec.ofChange fnExactSamplesOfWrong)

/-- 'laws.FnExactPackSamples': WHATEVER THE INPUT: true; the input reads as it did. -/
def fnExactPackSamplesSpec : ChangeSpec := { name := "fnExactPackSamples", fn := fun _ => fun
  | [d] => { results := [.lit (.bool true)], args := [d] }
  | _ => none }
def fnExactPackSamplesRow : OpenClaim := { program := "ytgjkmcidapfblaa", sum := "d4e8667da4077628be10fbf8e63e9a4a9bcc8355cedea933ffa5d63d1545f3f3", func := "loop.example/g00747/laws.FnExactPackSamples", spec := "fnExactPackSamples", inPlace := ["math.Float64bits", "internal/abi.NoEscape"], apart := false }
def FnExactPackSamplesSaid : Prop := fnExactPackSamplesRow.holds Try.pinned (OpenSpec.ofChange fnExactPackSamplesSpec)

/-- ITS FALSE NEIGHBOUR: 'it returns false'. Refute it at one input. -/
def fnExactPackSamplesWrong : ChangeSpec := { name := "fnExactPackSamples", fn := fun _ => fun
  | [d] => { results := [.lit (.bool false)], args := [d] }
  | _ => none }
def FnExactPackSamplesWrongFalsely : Prop := fnExactPackSamplesRow.holds Try.pinned (OpenSpec.ofChange fnExactPackSamplesWrong)

/-- 'laws.FnExactCutAt': WHATEVER THE INPUT: true; the input reads as it did. -/
def fnExactCutAtSpec : ChangeSpec := { name := "fnExactCutAt", fn := fun _ => fun
  | [d1, d2] => { results := [.lit (.bool true)], args := [d1, d2] }
  | _ => none }
def fnExactCutAtRow : OpenClaim := { program := "ytgjkmcidapfblaa", sum := "d4e8667da4077628be10fbf8e63e9a4a9bcc8355cedea933ffa5d63d1545f3f3", func := "loop.example/g00747/laws.FnExactCutAt", spec := "fnExactCutAt", inPlace := ["math.Float64frombits", "math.Float64bits", "internal/abi.NoEscape"], unfollowed := true, recurses := true, apart := false }
def FnExactCutAtSaid : Prop := fnExactCutAtRow.holds Try.pinned (OpenSpec.ofChange fnExactCutAtSpec)

/-- ITS FALSE NEIGHBOUR: 'it returns false'. Refute it at one input. -/
def fnExactCutAtWrong : ChangeSpec := { name := "fnExactCutAt", fn := fun _ => fun
  | [d1, d2] => { results := [.lit (.bool false)], args := [d1, d2] }
  | _ => none }
def FnExactCutAtWrongFalsely : Prop := fnExactCutAtRow.holds Try.pinned (OpenSpec.ofChange fnExactCutAtWrong)

/-- 'laws.FnExactJoinChunks': WHATEVER THE INPUT: true; the input reads as it did. -/
def fnExactJoinChunksSpec : ChangeSpec := { name := "fnExactJoinChunks", fn := fun _ => fun
  | [d1, d2] => { results := [.lit (.bool true)], args := [d1, d2] }
  | _ => none }
def fnExactJoinChunksRow : OpenClaim := { program := "ytgjkmcidapfblaa", sum := "d4e8667da4077628be10fbf8e63e9a4a9bcc8355cedea933ffa5d63d1545f3f3", func := "loop.example/g00747/laws.FnExactJoinChunks", spec := "fnExactJoinChunks", inPlace := ["math.Float64frombits", "math.Float64bits", "internal/abi.NoEscape"], unfollowed := true, recurses := true, apart := false }
def FnExactJoinChunksSaid : Prop := fnExactJoinChunksRow.holds Try.pinned (OpenSpec.ofChange fnExactJoinChunksSpec)

/-- ITS FALSE NEIGHBOUR: 'it returns false'. Refute it at one input. -/
def fnExactJoinChunksWrong : ChangeSpec := { name := "fnExactJoinChunks", fn := fun _ => fun
  | [d1, d2] => { results := [.lit (.bool false)], args := [d1, d2] }
  | _ => none }
def FnExactJoinChunksWrongFalsely : Prop := fnExactJoinChunksRow.holds Try.pinned (OpenSpec.ofChange fnExactJoinChunksWrong)

/-- 'laws.FnExactSameSamples': WHATEVER THE INPUT: true; the input reads as it did. -/
def fnExactSameSamplesSpec : ChangeSpec := { name := "fnExactSameSamples", fn := fun _ => fun
  | [d1, d2] => { results := [.lit (.bool true)], args := [d1, d2] }
  | _ => none }
def fnExactSameSamplesRow : OpenClaim := { program := "ytgjkmcidapfblaa", sum := "d4e8667da4077628be10fbf8e63e9a4a9bcc8355cedea933ffa5d63d1545f3f3", func := "loop.example/g00747/laws.FnExactSameSamples", spec := "fnExactSameSamples", inPlace := ["math.Float64bits"], unfollowed := true, recurses := true, apart := false }
def FnExactSameSamplesSaid : Prop := fnExactSameSamplesRow.holds Try.pinned (OpenSpec.ofChange fnExactSameSamplesSpec)

/-- ITS FALSE NEIGHBOUR: 'it returns false'. Refute it at one input. -/
def fnExactSameSamplesWrong : ChangeSpec := { name := "fnExactSameSamples", fn := fun _ => fun
  | [d1, d2] => { results := [.lit (.bool false)], args := [d1, d2] }
  | _ => none }
def FnExactSameSamplesWrongFalsely : Prop := fnExactSameSamplesRow.holds Try.pinned (OpenSpec.ofChange fnExactSameSamplesWrong)

/- THE SECOND FORM. 'bulk': how many values and letters a reading holds, each counted each time it is reached (what is shared counts as often as it is met; a slice's spare places count too). A statement '..UptoSaid' is the law's where the arguments, and the package variables that the reading takes, are together of bulk at most 1048576: NARROWER than '..Said'. Prove '..Said' where nothing that the law and all that it calls make is longer than what came in: it says more and counts as full. Else prove '..UptoSaid'. A law counts once. -/
mutual
def uptoBulk {H : Type} : DataW H → Nat
  | .lit (.string bytes) => bytes.length + 1
  | .lit _ => 1
  | .nil => 1
  | .ptr d => uptoBulk d + 1
  | .slice elems spare => uptoBulkAll elems + uptoBulkAll spare + 1
  | .agg parts => uptoBulkAll parts + 1
  | .iface _ d => uptoBulk d + 1
  | .map entries => uptoBulkEntries entries + 1
  | .held _ => 1
def uptoBulkAll {H : Type} : List (DataW H) → Nat
  | [] => 0
  | d :: r => uptoBulk d + uptoBulkAll r
def uptoBulkEntries {H : Type} : List (Lit × DataW H) → Nat
  | [] => 0
  | x :: r => uptoBulkEntry x + uptoBulkEntries r
def uptoBulkEntry {H : Type} : Lit × DataW H → Nat
  | (.string bytes, d) => bytes.length + uptoBulk d + 1
  | (_, d) => uptoBulk d + 1
 end
def uptoSmall : (H : Type) → List (DataW H) → Bool := fun _ ds => decide (uptoBulkAll ds ≤ 1048576)
def OpenSpec.upto (s : _root_.Go.ChangeSpec) : _root_.Go.OpenSpec := { _root_.Go.OpenSpec.ofChange s with cond := some uptoSmall }

/-- 'laws.FnExactGoodSamples', WHERE WHAT IT READS IS OF BULK AT MOST 1048576: true; the input reads as it did. -/
def fnExactGoodSamplesUptoRow : OpenClaim := { program := "ytgjkmcidapfblaa", sum := "d4e8667da4077628be10fbf8e63e9a4a9bcc8355cedea933ffa5d63d1545f3f3", func := "loop.example/g00747/laws.FnExactGoodSamples", spec := "fnExactGoodSamples", apart := false, narrowed := true }
def FnExactGoodSamplesUptoSaid : Prop := fnExactGoodSamplesUptoRow.holds Try.pinned (OpenSpec.upto fnExactGoodSamplesSpec)

/-- 'laws.FnExactGoodChunk', WHERE WHAT IT READS IS OF BULK AT MOST 1048576: true; the input reads as it did. -/
def fnExactGoodChunkUptoRow : OpenClaim := { program := "ytgjkmcidapfblaa", sum := "d4e8667da4077628be10fbf8e63e9a4a9bcc8355cedea933ffa5d63d1545f3f3", func := "loop.example/g00747/laws.FnExactGoodChunk", spec := "fnExactGoodChunk", inPlace := ["math.Float64frombits", "math.Float64bits", "internal/abi.NoEscape"], unfollowed := true, recurses := true, apart := false, narrowed := true }
def FnExactGoodChunkUptoSaid : Prop := fnExactGoodChunkUptoRow.holds Try.pinned (OpenSpec.upto fnExactGoodChunkSpec)

/-- 'laws.FnExactAddSample', WHERE WHAT IT READS IS OF BULK AT MOST 1048576: true; the input reads as it did. -/
def fnExactAddSampleUptoRow : OpenClaim := { program := "ytgjkmcidapfblaa", sum := "d4e8667da4077628be10fbf8e63e9a4a9bcc8355cedea933ffa5d63d1545f3f3", func := "loop.example/g00747/laws.FnExactAddSample", spec := "fnExactAddSample", inPlace := ["math.Float64frombits", "math.Float64bits", "internal/abi.NoEscape"], unfollowed := true, recurses := true, apart := false, narrowed := true }
def FnExactAddSampleUptoSaid : Prop := fnExactAddSampleUptoRow.holds Try.pinned (OpenSpec.upto fnExactAddSampleSpec)

/-- 'laws.FnExactSamplesOf', WHERE WHAT IT READS IS OF BULK AT MOST 1048576: true; the input reads as it did. -/
def fnExactSamplesOfUptoRow : OpenClaim := { program := "ytgjkmcidapfblaa", sum := "d4e8667da4077628be10fbf8e63e9a4a9bcc8355cedea933ffa5d63d1545f3f3", func := "loop.example/g00747/laws.FnExactSamplesOf", spec := "fnExactSamplesOf", inPlace := ["math.Float64frombits", "math.Float64bits", "internal/abi.NoEscape"], unfollowed := true, recurses := true, apart := false, narrowed := true }
def FnExactSamplesOfUptoSaid : Prop := fnExactSamplesOfUptoRow.holds Try.pinned (OpenSpec.upto fnExactSamplesOfSpec)

/-- 'laws.FnExactPackSamples', WHERE WHAT IT READS IS OF BULK AT MOST 1048576: true; the input reads as it did. -/
def fnExactPackSamplesUptoRow : OpenClaim := { program := "ytgjkmcidapfblaa", sum := "d4e8667da4077628be10fbf8e63e9a4a9bcc8355cedea933ffa5d63d1545f3f3", func := "loop.example/g00747/laws.FnExactPackSamples", spec := "fnExactPackSamples", inPlace := ["math.Float64bits", "internal/abi.NoEscape"], apart := false, narrowed := true }
def FnExactPackSamplesUptoSaid : Prop := fnExactPackSamplesUptoRow.holds Try.pinned (OpenSpec.upto fnExactPackSamplesSpec)

/-- 'laws.FnExactCutAt', WHERE WHAT IT READS IS OF BULK AT MOST 1048576: true; the input reads as it did. -/
def fnExactCutAtUptoRow : OpenClaim := { program := "ytgjkmcidapfblaa", sum := "d4e8667da4077628be10fbf8e63e9a4a9bcc8355cedea933ffa5d63d1545f3f3", func := "loop.example/g00747/laws.FnExactCutAt", spec := "fnExactCutAt", inPlace := ["math.Float64frombits", "math.Float64bits", "internal/abi.NoEscape"], unfollowed := true, recurses := true, apart := false, narrowed := true }
def FnExactCutAtUptoSaid : Prop := fnExactCutAtUptoRow.holds Try.pinned (OpenSpec.upto fnExactCutAtSpec)

/-- 'laws.FnExactJoinChunks', WHERE WHAT IT READS IS OF BULK AT MOST 1048576: true; the input reads as it did. -/
def fnExactJoinChunksUptoRow : OpenClaim := { program := "ytgjkmcidapfblaa", sum := "d4e8667da4077628be10fbf8e63e9a4a9bcc8355cedea933ffa5d63d1545f3f3", func := "loop.example/g00747/laws.FnExactJoinChunks", spec := "fnExactJoinChunks", inPlace := ["math.Float64frombits", "math.Float64bits", "internal/abi.NoEscape"], unfollowed := true, recurses := true, apart := false, narrowed := true }
def FnExactJoinChunksUptoSaid : Prop := fnExactJoinChunksUptoRow.holds Try.pinned (OpenSpec.upto fnExactJoinChunksSpec)

/-- 'laws.FnExactSameSamples', WHERE WHAT IT READS IS OF BULK AT MOST 1048576: true; the input reads as it did. -/
def fnExactSameSamplesUptoRow : OpenClaim := { program := "ytgjkmcidapfblaa", sum := "d4e8667da4077628be10fbf8e63e9a4a9bcc8355cedea933ffa5d63d1545f3f3", func := "loop.example/g00747/laws.FnExactSameSamples", spec := "fnExactSameSamples", inPlace := ["math.Float64bits"], unfollowed := true, recurses := true, apart := false, narrowed := true }
def FnExactSameSamplesUptoSaid : Prop := fnExactSameSamplesUptoRow.holds Try.pinned (OpenSpec.upto fnExactSameSamplesSpec)

end Rows
end Go.Proofs.Ytgjkmcidapfblaa
