/-
  The second saying's writers: byte strings, records.
-/
import Derived.Test.YtlficcdbnmheeaaDoorLow
import Derived.Test.YtlficcdbnmheeaaDoorKBase
import Derived.Test.YtlficcdbnmheeaaDoorKStep
import Derived.Test.YtlficcdbnmheeaaDoorKPageSpec
namespace Go.Proofs.YtlficcdbnmheeaaDoor
open Go.RowKit

end Go.Proofs.YtlficcdbnmheeaaDoor
