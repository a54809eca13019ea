/-
  Whether a text of at most 120 tiles is a pile: the program's, where it is none.
-/
import Derived.Test.YtmkdbahdhobdjaaDoorQ6
namespace Go.Proofs.YtmkdbahdhobdjaaDoor
open Go.RowKit


end Go.Proofs.YtmkdbahdhobdjaaDoor
