/-
  Whether a text of at most 120 tiles is a pile: the program's, where it is none.
-/
import Derived.Test.YtcbkidpgefmhoaaDoorQ6
namespace Go.Proofs.YtcbkidpgefmhoaaDoor
open Go.RowKit


end Go.Proofs.YtcbkidpgefmhoaaDoor
