/-
  The walk over glacierref6.two.
-/
import Derived.Test.YtaomneenflkpeaaMhA
import Derived.Test.YtaomneenflkpeaaEnS
namespace Go.Proofs.Ytaomneenflkpeaa
open Go.RowKit

end Go.Proofs.Ytaomneenflkpeaa
