/-
  The program's small functions on affixes; the model's making and undoing.
-/
import Derived.Test.YtilagppmljpclaaF4
namespace Go.Proofs.Ytilagppmljpclaa
open Go.RowKit

theorem apply_is {g o : Nat} {f : Bool} {n w s a word : ByteArray} {p : ByteArray × Int} (h : applyX f w s a word = p) (W : World) (hg : AffAt W g o f n w s a) (hw : w.size ≤ maxLen) (hs : s.size ≤ maxLen) (ha : a.size ≤ 1000) (hwd : word.size ≤ 1000) :
    Calls Try.prog 125 #[.pointer (some ⟨g, o, none⟩), .string word] W fun e w' => e = .returned (retX p) ∧ ∃ k, w' = W.drewN k := by
  rw [← h]; exact l04Apply_any W hg word hw hs ha hwd

end Go.Proofs.Ytilagppmljpclaa
