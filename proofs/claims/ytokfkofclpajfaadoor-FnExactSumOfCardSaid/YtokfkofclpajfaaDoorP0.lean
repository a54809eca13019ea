/-
  The model's splitting of a text at a byte.
-/
import Derived.Test.YtokfkofclpajfaaDoorS1
import Derived.Test.YtokfkofclpajfaaDoorP1
import Derived.WalkSpells
namespace Go.Proofs.YtokfkofclpajfaaDoor
open Go.RowKit

theorem own_block {B n : Nat} {e : TypeId} {w : World} {v : Value} {xs : List Value} (h : w.ownsRow B e 1 v n xs) : ∀ k, v.ownBlock = some k → B ≤ k := by
  intro k hk
  rcases h.2 with ⟨rfl, _⟩ | ⟨g, cap, cur, rfl, hB, _⟩
  · simp [Value.ownBlock] at hk
  · simp [Value.ownBlock] at hk
    omega

def pc (s : ByteArray) (l : List (Nat × Nat)) : List ByteArray := l.map fun x => s.extract x.1 x.2
theorem info_str : (Tryd.prog.info? 9).map (fun i => (i.zero, i.size, i.bytes)) = some (some (.string ByteArray.empty), 1, 16) := by kernel_rfl
theorem pc_snoc (s : ByteArray) (l : List (Nat × Nat)) (a b : Nat) : pc s (l ++ [(a, b)]) = pc s l ++ [s.extract a b] := by simp [pc]
/-- One string more on a row of strings. -/
theorem own_snoc {B n : Nat} {w : World} {v : Value} {ss : List ByteArray} {x : ByteArray} (h : w.ownsRow B 9 1 v (n + 1) (ss.map Value.string ++ [.string x])) (hn : n = ss.length) : OwnS B w v (ss ++ [x]) := by
  unfold OwnS
  simpa [hn] using h


end Go.Proofs.YtokfkofclpajfaaDoor
