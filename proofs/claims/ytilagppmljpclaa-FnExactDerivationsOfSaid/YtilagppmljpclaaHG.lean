/-
  The laws' helpers on grammars: calls in regions that draw.
-/
import Derived.Test.YtilagppmljpclaaHA
import Derived.Deep.RegionHeld3
namespace Go.Proofs.Ytilagppmljpclaa
open Go.RowKit

theorem toG_on {va vs : Value} {xs : List Aff} {ss : List Stm} (w0 W : World) (hb : Below w0.heap.size w0 W) (h : Gram w0 va vs xs ss) (hs : Small xs ss) :
    Calls Try.prog 23 #[.agg #[va, vs]] W fun e w' => ∃ a s, e = .returned (.agg #[.slice a xs.length xs.length, .slice s ss.length ss.length]) ∧ Gram w' (.slice a xs.length xs.length) (.slice s ss.length ss.length) xs ss ∧ Below w0.heap.size w0 w' ∧ Below W.heap.size W w' :=
  (toGrammar_any W (h.below hb) hs).mono fun _ _ ⟨a, s, h1, h2, h3⟩ => ⟨a, s, h1, h2, hb.trans (h3.mono hb.size), h3⟩
theorem eqG_on {va vb vs vt : Value} {xs : List Aff} {ss : List Stm} (w0 W : World) (hb : Below w0.heap.size w0 W) (hx : Gram W va vs xs ss) (hy : Gram W vb vt xs ss) :
    Calls Try.prog 26 #[.agg #[va, vs], .agg #[vb, vt]] W fun e w' => e = .returned (.bool true) ∧ Below w0.heap.size w0 w' :=
  (eqGrammar_same W hx hy).mono fun _ _ ⟨h1, h2⟩ => ⟨h1, hb.trans (h2.mono hb.size)⟩
/-- What the four cells of two grammars hold. -/
def TwoGrams (b1 b2 : Nat) (x1 y1 x2 y2 : Value) (w : World) : Prop :=
  (w.cell? ⟨b1, 0, none⟩ = some x1 ∧ w.cell? ⟨b1, 1, none⟩ = some y1) ∧ (w.cell? ⟨b2, 0, none⟩ = some x2 ∧ w.cell? ⟨b2, 1, none⟩ = some y2)
theorem twoGrams {b1 b2 : Nat} {t1 t2 : TypeId} {x1 y1 x2 y2 : Value} {w w' : World} (p1 : Blk w b1 t1 #[x1, y1]) (p2 : Blk w b2 t2 #[x2, y2]) (hb : Below w.heap.size w w') : TwoGrams b1 b2 x1 y1 x2 y2 w' := by
  have q1 := (p1.kept hb p1.lt).cells
  have q2 := (p2.kept hb p2.lt).cells
  exact ⟨⟨q1 0, q1 1⟩, ⟨q2 0, q2 1⟩⟩
end Go.Proofs.Ytilagppmljpclaa
