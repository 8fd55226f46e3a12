/-
  No cell of these rows narrows 'for every input' (looked for: loops, veiled, ifaces, maps, wideKeys, modest, calm, conditions, laid).
  DERIVED. THE GIVEN ROWS OF THIS SEAT. 8 by the template 'for every input the law returns true; each argument reads behind the call as it read before'; 0 by the template 'total and deterministic' (their statements: YtabkjjbhnapgpaaTotals.lean).
  GIVEN WITH THE SEED: the statements are not yours to turn. If you find one false, say at which input.
  Laid BY PROGRAM, IN A SANDBOX (cutbox-rows.mjs): the forced cells as the released guide's own fill.sh prints them over the translation 0a26cd237bf5bce6… (all of the seat's roots in one cut). By AI agents, Wed Nov 11 2026. No macro, syntax, notation, axiom, sorry.
-/
import Derived.Test.YtabkjjbhnapgpaaChecked
import GoSem.Claim
import GoSem.ClaimJoined
import GoSem.ClaimMapViews
import Derived.JoinedTies
import Derived.KernelRfl
namespace Go.Proofs.Ytabkjjbhnapgpaa
/- THE CELL 'sum', in the pinned program and in every row, IS THE sha256 OF THE DUMP (.gsa) THAT YtabkjjbhnapgpaaProg.lean LOADS. Nothing in Lean hashes anything: it is a label: what it is worth is what the hold of that sum in a sandbox is worth. -/
noncomputable def Try.pinned : Pinned := { name := "ytabkjjbhnapgpaa", sum := "0a26cd237bf5bce62ba3199c63cc2aa345029ac4350eb5a922bd972a50e44831", checked := Try.checked }
namespace Rows
def none {H : Type} : Left H := { results := [], args := [] }

/-- 'laws.FnExactGoodMarks': WHATEVER THE INPUT: true; the input reads as it did. -/
def fnExactGoodMarksSpec : ChangeSpec := { name := "fnExactGoodMarks", fn := fun _ => fun
  | [d] => { results := [.lit (.bool true)], args := [d] }
  | _ => none }
def fnExactGoodMarksRow : OpenClaim := { program := "ytabkjjbhnapgpaa", sum := "0a26cd237bf5bce62ba3199c63cc2aa345029ac4350eb5a922bd972a50e44831", func := "loop.example/g00747/laws.FnExactGoodMarks", spec := "fnExactGoodMarks", unfollowed := true, recurses := true, apart := false }
def FnExactGoodMarksSaid : Prop := fnExactGoodMarksRow.holds Try.pinned (OpenSpec.ofChange fnExactGoodMarksSpec)

/-- ITS FALSE NEIGHBOUR: 'it returns false'. Refute it at one input. -/
def fnExactGoodMarksWrong : ChangeSpec := { name := "fnExactGoodMarks", fn := fun _ => fun
  | [d] => { results := [.lit (.bool false)], args := [d] }
  | _ => none }
def FnExactGoodMarksWrongFalsely : Prop := fnExactGoodMarksRow.holds Try.pinned (OpenSpec.ofChange fnExactGoodMarksWrong)

/-- 'laws.FnExactBeginAppend': WHATEVER THE INPUT: true; the input reads as it did. -/
def fnExactBeginAppendSpec : ChangeSpec := { name := "fnExactBeginAppend", fn := fun _ => fun
  | [d] => { results := [.lit (.bool true)], args := [d] }
  | _ => none }
def fnExactBeginAppendRow : OpenClaim := { program := "ytabkjjbhnapgpaa", sum := "0a26cd237bf5bce62ba3199c63cc2aa345029ac4350eb5a922bd972a50e44831", func := "loop.example/g00747/laws.FnExactBeginAppend", spec := "fnExactBeginAppend", unfollowed := true, recurses := true, apart := false }
def FnExactBeginAppendSaid : Prop := fnExactBeginAppendRow.holds Try.pinned (OpenSpec.ofChange fnExactBeginAppendSpec)

/-- ITS FALSE NEIGHBOUR: 'it returns false'. Refute it at one input. -/
def fnExactBeginAppendWrong : ChangeSpec := { name := "fnExactBeginAppend", fn := fun _ => fun
  | [d] => { results := [.lit (.bool false)], args := [d] }
  | _ => none }
def FnExactBeginAppendWrongFalsely : Prop := fnExactBeginAppendRow.holds Try.pinned (OpenSpec.ofChange fnExactBeginAppendWrong)

/-- 'laws.FnExactEndAppend': WHATEVER THE INPUT: true; the input reads as it did. -/
def fnExactEndAppendSpec : ChangeSpec := { name := "fnExactEndAppend", fn := fun _ => fun
  | [d1, d2] => { results := [.lit (.bool true)], args := [d1, d2] }
  | _ => none }
def fnExactEndAppendRow : OpenClaim := { program := "ytabkjjbhnapgpaa", sum := "0a26cd237bf5bce62ba3199c63cc2aa345029ac4350eb5a922bd972a50e44831", func := "loop.example/g00747/laws.FnExactEndAppend", spec := "fnExactEndAppend", unfollowed := true, recurses := true, apart := false }
def FnExactEndAppendSaid : Prop := fnExactEndAppendRow.holds Try.pinned (OpenSpec.ofChange fnExactEndAppendSpec)

/-- ITS FALSE NEIGHBOUR: 'it returns false'. Refute it at one input. -/
def fnExactEndAppendWrong : ChangeSpec := { name := "fnExactEndAppend", fn := fun _ => fun
  | [d1, d2] => { results := [.lit (.bool false)], args := [d1, d2] }
  | _ => none }
def FnExactEndAppendWrongFalsely : Prop := fnExactEndAppendRow.holds Try.pinned (OpenSpec.ofChange fnExactEndAppendWrong)

/-- 'laws.FnExactLowMark': WHATEVER THE INPUT: true; the input reads as it did. -/
def fnExactLowMarkSpec : ChangeSpec := { name := "fnExactLowMark", fn := fun _ => fun
  | [d] => { results := [.lit (.bool true)], args := [d] }
  | _ => none }
def fnExactLowMarkRow : OpenClaim := { program := "ytabkjjbhnapgpaa", sum := "0a26cd237bf5bce62ba3199c63cc2aa345029ac4350eb5a922bd972a50e44831", func := "loop.example/g00747/laws.FnExactLowMark", spec := "fnExactLowMark", unfollowed := true, recurses := true, apart := false }
def FnExactLowMarkSaid : Prop := fnExactLowMarkRow.holds Try.pinned (OpenSpec.ofChange fnExactLowMarkSpec)

/-- ITS FALSE NEIGHBOUR: 'it returns false'. Refute it at one input. -/
def fnExactLowMarkWrong : ChangeSpec := { name := "fnExactLowMark", fn := fun _ => fun
  | [d] => { results := [.lit (.bool false)], args := [d] }
  | _ => none }
def FnExactLowMarkWrongFalsely : Prop := fnExactLowMarkRow.holds Try.pinned (OpenSpec.ofChange fnExactLowMarkWrong)

/-- 'laws.FnExactOpenView': WHATEVER THE INPUT: true; the input reads as it did. -/
def fnExactOpenViewSpec : ChangeSpec := { name := "fnExactOpenView", fn := fun _ => fun
  | [d1, d2] => { results := [.lit (.bool true)], args := [d1, d2] }
  | _ => none }
def fnExactOpenViewRow : OpenClaim := { program := "ytabkjjbhnapgpaa", sum := "0a26cd237bf5bce62ba3199c63cc2aa345029ac4350eb5a922bd972a50e44831", func := "loop.example/g00747/laws.FnExactOpenView", spec := "fnExactOpenView", inPlace := ["slices.overlaps[loop.example/g00747/impl.reading]"], unfollowed := true, recurses := true, apart := false }
def FnExactOpenViewSaid : Prop := fnExactOpenViewRow.holds Try.pinned (OpenSpec.ofChange fnExactOpenViewSpec)

/-- ITS FALSE NEIGHBOUR: 'it returns false'. Refute it at one input. -/
def fnExactOpenViewWrong : ChangeSpec := { name := "fnExactOpenView", fn := fun _ => fun
  | [d1, d2] => { results := [.lit (.bool false)], args := [d1, d2] }
  | _ => none }
def FnExactOpenViewWrongFalsely : Prop := fnExactOpenViewRow.holds Try.pinned (OpenSpec.ofChange fnExactOpenViewWrong)

/-- 'laws.FnExactCloseView': WHATEVER THE INPUT: true; the input reads as it did. -/
def fnExactCloseViewSpec : ChangeSpec := { name := "fnExactCloseView", fn := fun _ => fun
  | [d1, d2] => { results := [.lit (.bool true)], args := [d1, d2] }
  | _ => none }
def fnExactCloseViewRow : OpenClaim := { program := "ytabkjjbhnapgpaa", sum := "0a26cd237bf5bce62ba3199c63cc2aa345029ac4350eb5a922bd972a50e44831", func := "loop.example/g00747/laws.FnExactCloseView", spec := "fnExactCloseView", unfollowed := true, recurses := true, apart := false }
def FnExactCloseViewSaid : Prop := fnExactCloseViewRow.holds Try.pinned (OpenSpec.ofChange fnExactCloseViewSpec)

/-- ITS FALSE NEIGHBOUR: 'it returns false'. Refute it at one input. -/
def fnExactCloseViewWrong : ChangeSpec := { name := "fnExactCloseView", fn := fun _ => fun
  | [d1, d2] => { results := [.lit (.bool false)], args := [d1, d2] }
  | _ => none }
def FnExactCloseViewWrongFalsely : Prop := fnExactCloseViewRow.holds Try.pinned (OpenSpec.ofChange fnExactCloseViewWrong)

/-- 'laws.FnExactSeesId': WHATEVER THE INPUT: true; the input reads as it did. -/
def fnExactSeesIdSpec : ChangeSpec := { name := "fnExactSeesId", fn := fun _ => fun
  | [d1, d2] => { results := [.lit (.bool true)], args := [d1, d2] }
  | _ => none }
def fnExactSeesIdRow : OpenClaim := { program := "ytabkjjbhnapgpaa", sum := "0a26cd237bf5bce62ba3199c63cc2aa345029ac4350eb5a922bd972a50e44831", func := "loop.example/g00747/laws.FnExactSeesId", spec := "fnExactSeesId", apart := false }
def FnExactSeesIdSaid : Prop := fnExactSeesIdRow.holds Try.pinned (OpenSpec.ofChange fnExactSeesIdSpec)

/-- ITS FALSE NEIGHBOUR: 'it returns false'. Refute it at one input. -/
def fnExactSeesIdWrong : ChangeSpec := { name := "fnExactSeesId", fn := fun _ => fun
  | [d1, d2] => { results := [.lit (.bool false)], args := [d1, d2] }
  | _ => none }
def FnExactSeesIdWrongFalsely : Prop := fnExactSeesIdRow.holds Try.pinned (OpenSpec.ofChange fnExactSeesIdWrong)

/-- 'laws.FnExactKeepFrom': WHATEVER THE INPUT: true; the input reads as it did. -/
def fnExactKeepFromSpec : ChangeSpec := { name := "fnExactKeepFrom", fn := fun _ => fun
  | [d] => { results := [.lit (.bool true)], args := [d] }
  | _ => none }
def fnExactKeepFromRow : OpenClaim := { program := "ytabkjjbhnapgpaa", sum := "0a26cd237bf5bce62ba3199c63cc2aa345029ac4350eb5a922bd972a50e44831", func := "loop.example/g00747/laws.FnExactKeepFrom", spec := "fnExactKeepFrom", unfollowed := true, recurses := true, apart := false }
def FnExactKeepFromSaid : Prop := fnExactKeepFromRow.holds Try.pinned (OpenSpec.ofChange fnExactKeepFromSpec)

/-- ITS FALSE NEIGHBOUR: 'it returns false'. Refute it at one input. -/
def fnExactKeepFromWrong : ChangeSpec := { name := "fnExactKeepFrom", fn := fun _ => fun
  | [d] => { results := [.lit (.bool false)], args := [d] }
  | _ => none }
def FnExactKeepFromWrongFalsely : Prop := fnExactKeepFromRow.holds Try.pinned (OpenSpec.ofChange fnExactKeepFromWrong)

/- THE SECOND FORM. 'bulk': how many values and letters a reading holds, each counted each time it is reached (what is shared counts as often as it is met; a slice's spare places count too). A statement '..UptoSaid' is the law's where the arguments, and the package variables that the reading takes, are together of bulk at most 1048576: NARROWER than '..Said'. Prove '..Said' where nothing that the law and all that it calls make is longer than what came in: it says more and counts as full. Else prove '..UptoSaid'. A law counts once. -/
mutual
def uptoBulk {H : Type} : DataW H → Nat
  | .lit (.string bytes) => bytes.length + 1
  | .lit _ => 1
  | .nil => 1
  | .ptr d => uptoBulk d + 1
  | .slice elems spare => uptoBulkAll elems + uptoBulkAll spare + 1
  | .agg parts => uptoBulkAll parts + 1
  | .iface _ d => uptoBulk d + 1
  | .map entries => uptoBulkEntries entries + 1
  | .held _ => 1
def uptoBulkAll {H : Type} : List (DataW H) → Nat
  | [] => 0
  | d :: r => uptoBulk d + uptoBulkAll r
def uptoBulkEntries {H : Type} : List (Lit × DataW H) → Nat
  | [] => 0
  | x :: r => uptoBulkEntry x + uptoBulkEntries r
def uptoBulkEntry {H : Type} : Lit × DataW H → Nat
  | (.string bytes, d) => bytes.length + uptoBulk d + 1
  | (_, d) => uptoBulk d + 1
 end
def uptoSmall : (H : Type) → List (DataW H) → Bool := fun _ ds => decide (uptoBulkAll ds ≤ 1048576)
def OpenSpec.upto (s : _root_.Go.ChangeSpec) : _root_.Go.OpenSpec := { _root_.Go.OpenSpec.ofChange s with cond := some uptoSmall }

/-- 'laws.FnExactGoodMarks', WHERE WHAT IT READS IS OF BULK AT MOST 1048576: true; the input reads as it did. -/
def fnExactGoodMarksUptoRow : OpenClaim := { program := "ytabkjjbhnapgpaa", sum := "0a26cd237bf5bce62ba3199c63cc2aa345029ac4350eb5a922bd972a50e44831", func := "loop.example/g00747/laws.FnExactGoodMarks", spec := "fnExactGoodMarks", unfollowed := true, recurses := true, apart := false, narrowed := true }
def FnExactGoodMarksUptoSaid : Prop := fnExactGoodMarksUptoRow.holds Try.pinned (OpenSpec.upto fnExactGoodMarksSpec)

/-- 'laws.FnExactBeginAppend', WHERE WHAT IT READS IS OF BULK AT MOST 1048576: true; the input reads as it did. -/
def fnExactBeginAppendUptoRow : OpenClaim := { program := "ytabkjjbhnapgpaa", sum := "0a26cd237bf5bce62ba3199c63cc2aa345029ac4350eb5a922bd972a50e44831", func := "loop.example/g00747/laws.FnExactBeginAppend", spec := "fnExactBeginAppend", unfollowed := true, recurses := true, apart := false, narrowed := true }
def FnExactBeginAppendUptoSaid : Prop := fnExactBeginAppendUptoRow.holds Try.pinned (OpenSpec.upto fnExactBeginAppendSpec)

/-- 'laws.FnExactEndAppend', WHERE WHAT IT READS IS OF BULK AT MOST 1048576: true; the input reads as it did. -/
def fnExactEndAppendUptoRow : OpenClaim := { program := "ytabkjjbhnapgpaa", sum := "0a26cd237bf5bce62ba3199c63cc2aa345029ac4350eb5a922bd972a50e44831", func := "loop.example/g00747/laws.FnExactEndAppend", spec := "fnExactEndAppend", unfollowed := true, recurses := true, apart := false, narrowed := true }
def FnExactEndAppendUptoSaid : Prop := fnExactEndAppendUptoRow.holds Try.pinned (OpenSpec.upto fnExactEndAppendSpec)

/-- 'laws.FnExactLowMark', WHERE WHAT IT READS IS OF BULK AT MOST 1048576: true; the input reads as it did. -/
def fnExactLowMarkUptoRow : OpenClaim := { program := "ytabkjjbhnapgpaa", sum := "0a26cd237bf5bce62ba3199c63cc2aa345029ac4350eb5a922bd972a50e44831", func := "loop.example/g00747/laws.FnExactLowMark", spec := "fnExactLowMark", unfollowed := true, recurses := true, apart := false, narrowed := true }
def FnExactLowMarkUptoSaid : Prop := fnExactLowMarkUptoRow.holds Try.pinned (OpenSpec.upto fnExactLowMarkSpec)

/-- 'laws.FnExactOpenView', WHERE WHAT IT READS IS OF BULK AT MOST 1048576: true; the input reads as it did. -/
def fnExactOpenViewUptoRow : OpenClaim := { program := "ytabkjjbhnapgpaa", sum := "0a26cd237bf5bce62ba3199c63cc2aa345029ac4350eb5a922bd972a50e44831", func := "loop.example/g00747/laws.FnExactOpenView", spec := "fnExactOpenView", inPlace := ["slices.overlaps[loop.example/g00747/impl.reading]"], unfollowed := true, recurses := true, apart := false, narrowed := true }
def FnExactOpenViewUptoSaid : Prop := fnExactOpenViewUptoRow.holds Try.pinned (OpenSpec.upto fnExactOpenViewSpec)

/-- 'laws.FnExactCloseView', WHERE WHAT IT READS IS OF BULK AT MOST 1048576: true; the input reads as it did. -/
def fnExactCloseViewUptoRow : OpenClaim := { program := "ytabkjjbhnapgpaa", sum := "0a26cd237bf5bce62ba3199c63cc2aa345029ac4350eb5a922bd972a50e44831", func := "loop.example/g00747/laws.FnExactCloseView", spec := "fnExactCloseView", unfollowed := true, recurses := true, apart := false, narrowed := true }
def FnExactCloseViewUptoSaid : Prop := fnExactCloseViewUptoRow.holds Try.pinned (OpenSpec.upto fnExactCloseViewSpec)

/-- 'laws.FnExactSeesId', WHERE WHAT IT READS IS OF BULK AT MOST 1048576: true; the input reads as it did. -/
def fnExactSeesIdUptoRow : OpenClaim := { program := "ytabkjjbhnapgpaa", sum := "0a26cd237bf5bce62ba3199c63cc2aa345029ac4350eb5a922bd972a50e44831", func := "loop.example/g00747/laws.FnExactSeesId", spec := "fnExactSeesId", apart := false, narrowed := true }
def FnExactSeesIdUptoSaid : Prop := fnExactSeesIdUptoRow.holds Try.pinned (OpenSpec.upto fnExactSeesIdSpec)

/-- 'laws.FnExactKeepFrom', WHERE WHAT IT READS IS OF BULK AT MOST 1048576: true; the input reads as it did. -/
def fnExactKeepFromUptoRow : OpenClaim := { program := "ytabkjjbhnapgpaa", sum := "0a26cd237bf5bce62ba3199c63cc2aa345029ac4350eb5a922bd972a50e44831", func := "loop.example/g00747/laws.FnExactKeepFrom", spec := "fnExactKeepFrom", unfollowed := true, recurses := true, apart := false, narrowed := true }
def FnExactKeepFromUptoSaid : Prop := fnExactKeepFromUptoRow.holds Try.pinned (OpenSpec.upto fnExactKeepFromSpec)

end Rows
end Go.Proofs.Ytabkjjbhnapgpaa
