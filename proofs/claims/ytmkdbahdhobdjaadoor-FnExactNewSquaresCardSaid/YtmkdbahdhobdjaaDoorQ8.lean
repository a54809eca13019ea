/-
  Whether a text of at most 120 tiles is a pile: the program's, where it is one; and the whole.
-/
import Derived.Test.YtmkdbahdhobdjaaDoorQ7
namespace Go.Proofs.YtmkdbahdhobdjaaDoor
open Go.RowKit



end Go.Proofs.YtmkdbahdhobdjaaDoor
