/-
  Grammars that are the same: plain facts, lists of strings, affixes.
-/
import Derived.Test.YtilagppmljpclaaH6
namespace Go.Proofs.Ytilagppmljpclaa
open Go.RowKit

def sameA (x y : Aff) : Bool := (x.n.toList == y.n.toList) && (x.f == y.f) && (x.w.toList == y.w.toList) && (x.s.toList == y.s.toList) && (x.a.toList == y.a.toList)
def sameAs (xs ys : List Aff) : Bool := decide (xs.length = ys.length) && allTo (fun j => sameA (affG xs j) (affG ys j)) xs.length
theorem sameAs_len {xs ys : List Aff} (h : ¬ xs.length = ys.length) : sameAs xs ys = false := by simp [sameAs, h]
theorem sameAs_all {xs ys : List Aff} (h : xs.length = ys.length) : sameAs xs ys = allTo (fun j => sameA (affG xs j) (affG ys j)) xs.length := by simp [sameAs, h]
def sameT (x y : Stm) : Bool := (x.word.toList == y.word.toList) && sameStrs x.uses y.uses
def sameTs (xs ys : List Stm) : Bool := decide (xs.length = ys.length) && allTo (fun j => sameT (stmG xs j) (stmG ys j)) xs.length
theorem sameTs_len {xs ys : List Stm} (h : ¬ xs.length = ys.length) : sameTs xs ys = false := by simp [sameTs, h]
theorem sameTs_all {xs ys : List Stm} (h : xs.length = ys.length) : sameTs xs ys = allTo (fun j => sameT (stmG xs j) (stmG ys j)) xs.length := by simp [sameTs, h]



end Go.Proofs.Ytilagppmljpclaa
