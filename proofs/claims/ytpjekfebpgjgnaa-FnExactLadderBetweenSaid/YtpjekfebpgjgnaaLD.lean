/-
  What the frames of the laws with a result of their own lean on: a cell beside what is marked.
-/
import Derived.Test.YtpjekfebpgjgnaaL6
namespace Go.Proofs.Ytpjekfebpgjgnaa
open Go.RowKit

theorem Blk.grown {w w' : World} {g : Nat} {t : TypeId} {cs : Array Value} {r : Option Nat} (h : Blk w g t cs) (hg : w.grownBy w' r) (hne : ∀ k, r = some k → k ≠ g) : Blk w' g t cs := (hg.block g h.lt (fun e => hne g e.symm rfl)).trans h
end Go.Proofs.Ytpjekfebpgjgnaa
