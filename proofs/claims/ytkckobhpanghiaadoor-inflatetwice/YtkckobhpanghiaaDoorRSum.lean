/-
  The document's Little, Turn, Big, Adler32, in this seat.
-/
import Derived.Test.YtkckobhpanghiaaDoorJStoB
import Derived.Laws.AppendOwn
namespace Go.Proofs.YtkckobhpanghiaaDoor
open Go.RowKit

end Go.Proofs.YtkckobhpanghiaaDoor
