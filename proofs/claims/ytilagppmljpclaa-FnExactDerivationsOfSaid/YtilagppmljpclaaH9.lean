/-
  Grammars that are the same: the model's comparison; the laws' own of what is the same.
-/
import Derived.Test.YtilagppmljpclaaH8
namespace Go.Proofs.Ytilagppmljpclaa
open Go.RowKit

theorem Affs.drewN {W : World} {v : Value} {xs : List Aff} (h : Affs W v xs) (m : Nat) : Affs (W.drewN m) v xs := h.below (below_drewN (Below.refl _ _) m)
theorem sameG_lens {xs ys : List Aff} {ss ts : List Stm} (h : ¬ (xs.length = ys.length ∧ ss.length = ts.length)) : sameG xs ys ss ts = false := by
  unfold sameG
  by_cases h1 : xs.length = ys.length
  · rw [sameTs_len (fun e => h ⟨h1, e⟩), Bool.and_false]
  · rw [sameAs_len h1, Bool.false_and]

end Go.Proofs.Ytilagppmljpclaa
