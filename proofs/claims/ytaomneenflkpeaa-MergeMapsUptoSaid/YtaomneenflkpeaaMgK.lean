/-
  The walks over glacierref6.Prune, and over glacierref6.Seen where the list is not right.
-/
import Derived.Test.YtaomneenflkpeaaMgC
namespace Go.Proofs.Ytaomneenflkpeaa
open Go.RowKit

end Go.Proofs.Ytaomneenflkpeaa
