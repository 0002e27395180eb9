/-
  append at a step of a region that draws its order.
-/
import Derived.Test.YtajpnjapfiffmaaBase
import Derived.Deep.RegionLaw
import Derived.Deep.DeepMust
namespace Go.Proofs.Ytajpnjapfiffmaa
open Go.RowKit

end Go.Proofs.Ytajpnjapfiffmaa
