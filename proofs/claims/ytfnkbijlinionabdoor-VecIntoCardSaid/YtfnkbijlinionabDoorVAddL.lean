/-
  Add, walked.
-/
import Derived.Test.YtfnkbijlinionabDoorVSum
namespace Go.Proofs.YtfnkbijlinionabDoor
open Go.RowKit

end Go.Proofs.YtfnkbijlinionabDoor
