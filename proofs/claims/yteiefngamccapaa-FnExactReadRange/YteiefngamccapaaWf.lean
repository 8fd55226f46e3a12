/- The walk of the law FnExactSamplesOf: the call returns true, and nothing that was there has changed. -/
import Derived.Test.YteiefngamccapaaMk
namespace Go.Proofs.Yteiefngamccapaa
open Go.RowKit Go.Deep

theorem own_srow {w : World} {base : Nat} {ao : Option Addr} {n c : Nat} {l : List Smp} (h : w.ownsRow base 42 2 (.slice ao n c) n (cellsS l)) : SRow w w.heap.size ao l := (SRow.of_own h).2

end Go.Proofs.Yteiefngamccapaa
