/-
  The walk over glacierlaw6.few.
-/
import Derived.Test.YtbjdopbbejgkiaaMgZ
import Derived.Test.YtbjdopbbejgkiaaMgL
namespace Go.Proofs.Ytbjdopbbejgkiaa
open Go.RowKit

def fewL (ls : List (List Ent)) : Bool := decide (ls.length ≤ 30) && (ls.all (fun l => fewE l 1000) && decide (ls.flatten.length ≤ 3000))

end Go.Proofs.Ytbjdopbbejgkiaa
