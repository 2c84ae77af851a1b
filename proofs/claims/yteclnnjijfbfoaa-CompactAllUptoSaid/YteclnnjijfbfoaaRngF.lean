/-
  The walk over glacierlaw5.from, over whatever From does, if only the sequence keeps its contract.
-/
import Derived.Test.YteclnnjijfbfoaaRngA
namespace Go.Proofs.Yteclnnjijfbfoaa
open Go.RowKit Go.Shelf
attribute [local go_sem] Oper.semAt_some

end Go.Proofs.Yteclnnjijfbfoaa
