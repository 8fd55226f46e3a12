/- Contract of GoodChunk in the program, and the walk of the law FnExactGoodChunk. -/
import Derived.Test.YteiefngamccapaaK14
namespace Go.Proofs.Yteiefngamccapaa
open Go.RowKit Go.Deep

end Go.Proofs.Yteiefngamccapaa
