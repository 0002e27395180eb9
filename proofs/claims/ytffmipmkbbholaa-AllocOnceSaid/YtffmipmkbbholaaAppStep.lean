/-
  append at a step of a region that draws its order.
-/
import Derived.Test.YtffmipmkbbholaaBase
import Derived.Deep.RegionLaw
import Derived.Deep.DeepMust
namespace Go.Proofs.Ytffmipmkbbholaa
open Go.RowKit

end Go.Proofs.Ytffmipmkbbholaa
