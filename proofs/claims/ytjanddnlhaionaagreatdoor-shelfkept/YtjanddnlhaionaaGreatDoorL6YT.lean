/-
  TapeWhole for every input. No condition.
-/
import Derived.Test.YtjanddnlhaionaaGreatDoorL6YS
namespace Go.Proofs.YtjanddnlhaionaaGreatDoor.L6
open Go.RowKit

end Go.Proofs.YtjanddnlhaionaaGreatDoor.L6
