/-
  Add, walked.
-/
import Derived.Test.YtbdoppgcelihcaaDoorVSum
namespace Go.Proofs.YtbdoppgcelihcaaDoor
open Go.RowKit

end Go.Proofs.YtbdoppgcelihcaaDoor
