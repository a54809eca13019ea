/-
  Grammars that are the same: stems; the program's comparison.
-/
import Derived.Test.YtilagppmljpclaaH7
namespace Go.Proofs.Ytilagppmljpclaa
open Go.RowKit

theorem sameT_word {x y : Stm} (h : (x.word.toList == y.word.toList) = false) : sameT x y = false := by simp [sameT, h]
theorem sameT_same {x y : Stm} (h : (x.word.toList == y.word.toList) = true) : sameT x y = sameStrs x.uses y.uses := by simp [sameT, h]


def sameG (xs ys : List Aff) (ss ts : List Stm) : Bool := sameAs xs ys && sameTs ss ts
theorem sameG_no {xs ys : List Aff} {ss ts : List Stm} (h : sameAs xs ys = false) : sameG xs ys ss ts = false := by simp [sameG, h]
theorem sameG_yes {xs ys : List Aff} {ss ts : List Stm} (h : sameAs xs ys = true) : sameG xs ys ss ts = sameTs ss ts := by simp [sameG, h]

end Go.Proofs.Ytilagppmljpclaa
