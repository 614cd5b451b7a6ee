/-
  The document's names of labels and metrics: the walks, the second part.
-/
import Derived.Test.YtknlnllcpdiglabDoorLbR
namespace Go.Proofs.YtknlnllcpdiglabDoor
open Go.RowKit

end Go.Proofs.YtknlnllcpdiglabDoor
