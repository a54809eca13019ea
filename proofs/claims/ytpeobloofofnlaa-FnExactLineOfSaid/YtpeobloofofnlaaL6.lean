/-
  What the frames of the laws on lexicons lean on: a struct of one field opened; copies and comparisons against one older world.
-/
import Derived.Test.YtpeobloofofnlaaL5
import Derived.Test.YtpeobloofofnlaaK6
import Derived.Deep.Fields
import Derived.Deep.RegionWith
import Derived.Deep.RegionHeld3
namespace Go.Proofs.Ytpeobloofofnlaa
open Go.ChangeShapes Go.WideShapes Go.ChangeAt Go.RowKit Go.Joins Go.Deep

/-- What the cells of two lexicons hold. -/
theorem twoLex {b1 b2 : Nat} {t1 t2 : TypeId} {x1 x2 : Value} {w w' : World} (p1 : Blk w b1 t1 #[x1]) (p2 : Blk w b2 t2 #[x2]) (hb : Below w.heap.size w w') : w'.cell? ⟨b1, 0, none⟩ = some x1 ∧ w'.cell? ⟨b2, 0, none⟩ = some x2 :=
  ⟨(p1.kept hb p1.lt).cells 0, (p2.kept hb p2.lt).cells 0⟩
theorem strsW_len (ss : List ByteArray) : ss.length ≤ strsW ss := by unfold strsW; omega
theorem strsW_at {ss : List ByteArray} {j : Nat} (h : j < ss.length) : (strAt ss j).size ≤ strsW ss := by
  have := sumTo_at (fun j => (strAt ss j).size) h
  unfold strsW
  omega
end Go.Proofs.Ytpeobloofofnlaa
