/-
  SameTiles: the program's answer, all cases.
-/
import Derived.Test.YtaipfampkgpnpaaX2
import Derived.Test.YtaipfampkgpnpaaX3
import Derived.Test.YtaipfampkgpnpaaX4
import Derived.Test.YtaipfampkgpnpaaX5
namespace Go.Proofs.Ytaipfampkgpnpaa
open Go.ChangeShapes Go.WideShapes Go.ChangeAt Go.RowKit Go.Joins

theorem implSameTiles_any (L1 L2 : ByteArray) {x1 x2 y1 y2 : Value} {v1 v2 c1 c2 : List Int} (b1 b2 : Int) (w : World)
    (h1 : Ints .i64 w x1 v1) (h2 : Ints .i64 w x2 v2) (h3 : Ints .i64 w y1 c1) (h4 : Ints .i64 w y2 c2) :
    Calls Try.prog 8 #[.agg #[.string L1, x1, y1, .int .i64 b1], .agg #[.string L2, x2, y2, .int .i64 b2]] w fun e w' => e = .returned (.bool (sameB L1 L2 v1 v2 c1 c2 b1 b2)) ∧ Below w.heap.size w w' := by
  unfold sameB
  cases hL : (L1.toList == L2.toList)
  · simpa using implSame_letters L1 L2 b1 b2 w rfl rfl hL h1 h2 h3 h4
  · cases hV : decide (v1 = v2)
    · by_cases hb : (b1 == b2) = true
      · simpa using implSame_values L1 L2 b1 b2 w hV rfl hL hb h1 h2 h3 h4
      · simpa using implSame_blanks L1 L2 b1 b2 w rfl rfl hL (by simpa using hb) h1 h2 h3 h4
    · cases hb : (b1 == b2)
      · simpa using implSame_blanks L1 L2 b1 b2 w rfl rfl hL hb h1 h2 h3 h4
      · simpa using implSame_counts L1 L2 b1 b2 w hb hV rfl hL h1 h2 h3 h4
end Go.Proofs.Ytaipfampkgpnpaa
