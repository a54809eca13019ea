/-
  What the frames of the laws on lexicons lean on: a struct of one field opened; copies and comparisons against one older world.
-/
import Derived.Test.YtpjekfebpgjgnaaL5
import Derived.Test.YtpjekfebpgjgnaaK6
import Derived.Deep.Fields
import Derived.Deep.RegionWith
import Derived.Deep.RegionHeld3
namespace Go.Proofs.Ytpjekfebpgjgnaa
open Go.ChangeShapes Go.WideShapes Go.ChangeAt Go.RowKit Go.Joins Go.Deep

theorem toL_on {v : Value} {us : List ByteArray} (w0 W : World) (hb : Below w0.heap.size w0 W) (h : Strs w0 v us) (hn : us.length ≤ 1048576) :
    Calls Try.prog 50 #[.agg #[v]] W fun e w' => ∃ a cap, e = .returned (.agg #[.slice a us.length cap]) ∧ Strs w' (.slice a us.length cap) us ∧ Below w0.heap.size w0 w' ∧ Below W.heap.size W w' :=
  (toLexicon_any us W (h.below hb) hn).mono fun _ _ ⟨a, s, h1, h2, h3⟩ => ⟨a, s, h1, h2.strs, hb.trans (h3.mono hb.size), h3⟩
theorem eqL_on {va vb : Value} {us : List ByteArray} (w0 W : World) (hb : Below w0.heap.size w0 W) (hx : Strs W va us) (hy : Strs W vb us) :
    Calls Try.prog 53 #[.agg #[va], .agg #[vb]] W fun e w' => e = .returned (.bool true) ∧ Below w0.heap.size w0 w' :=
  (eqLexicon_same us W hx hy).mono fun _ _ ⟨h1, h2⟩ => ⟨h1, hb.trans (h2.mono hb.size)⟩
/-- What the cells of two lexicons hold. -/
theorem twoLex {b1 b2 : Nat} {t1 t2 : TypeId} {x1 x2 : Value} {w w' : World} (p1 : Blk w b1 t1 #[x1]) (p2 : Blk w b2 t2 #[x2]) (hb : Below w.heap.size w w') : w'.cell? ⟨b1, 0, none⟩ = some x1 ∧ w'.cell? ⟨b2, 0, none⟩ = some x2 :=
  ⟨(p1.kept hb p1.lt).cells 0, (p2.kept hb p2.lt).cells 0⟩
theorem strsW_len (ss : List ByteArray) : ss.length ≤ strsW ss := by unfold strsW; omega
theorem strsW_at {ss : List ByteArray} {j : Nat} (h : j < ss.length) : (strAt ss j).size ≤ strsW ss := by
  have := sumTo_at (fun j => (strAt ss j).size) h
  unfold strsW
  omega
end Go.Proofs.Ytpjekfebpgjgnaa
