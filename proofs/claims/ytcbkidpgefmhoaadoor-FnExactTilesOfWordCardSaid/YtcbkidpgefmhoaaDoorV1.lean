/-
  ValidPile and ValidRack: the program's and the model's.
-/
import Derived.Test.YtcbkidpgefmhoaaDoorQ8
import Derived.Test.YtcbkidpgefmhoaaDoorU1
namespace Go.Proofs.YtcbkidpgefmhoaaDoor
open Go.RowKit


/-- A text is a rack. -/
def rackB (s : ByteArray) : Bool := pileB s.data.toList && decide (s.size ≤ 7)
end Go.Proofs.YtcbkidpgefmhoaaDoor
