/-
  What the rows list of the tables of unicode/utf8.
-/
import Derived.Test.YtmkdbahdhobdjaaDoorWO
import Derived.Lib.LaidTab
import Derived.Lib.LaidU8
namespace Go.Proofs.YtmkdbahdhobdjaaDoor
theorem tw_first : Rows.laid_unicode_utf8_first = Lib.firstData := by kernel_rfl
theorem tw_accept : (Rows.laid_unicode_utf8_acceptRanges : DataW Unit) = Lib.acceptData := by kernel_rfl
end Go.Proofs.YtmkdbahdhobdjaaDoor
