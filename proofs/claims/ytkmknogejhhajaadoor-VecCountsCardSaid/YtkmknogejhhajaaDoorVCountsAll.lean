/-
  VecCounts, walked whole.
-/
import Derived.Test.YtkmknogejhhajaaDoorVLCounts
import Derived.Test.YtkmknogejhhajaaDoorVCount
namespace Go.Proofs.YtkmknogejhhajaaDoor
open Go.RowKit

theorem counts_all (A : Option Addr) (l : List V3) (cap : Nat) (w : World) (hs : SegV w w.heap.size A l) (hw : Env w) :
    Calls Tryd.prog 6 #[.slice A l.length cap] w fun e w' => e = .returned (.bool true) ∧ Below w.heap.size w w' :=
  counts_walk A l cap w hs hw fun W hW h5 => Count_any l A cap W (SegV.more (SegV.below hs hW) hW.size) (by omega)
end Go.Proofs.YtkmknogejhhajaaDoor
