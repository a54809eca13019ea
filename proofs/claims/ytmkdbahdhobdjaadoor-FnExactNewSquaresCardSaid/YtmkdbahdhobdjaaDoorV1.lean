/-
  ValidPile and ValidRack: the program's and the model's.
-/
import Derived.Test.YtmkdbahdhobdjaaDoorQ8
import Derived.Test.YtmkdbahdhobdjaaDoorU1
namespace Go.Proofs.YtmkdbahdhobdjaaDoor
open Go.RowKit


/-- A text is a rack. -/
def rackB (s : ByteArray) : Bool := pileB s.data.toList && decide (s.size ≤ 7)
end Go.Proofs.YtmkdbahdhobdjaaDoor
