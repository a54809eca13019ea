/-
  The model's sorting of tiles.
-/
import Derived.Test.YtomofgebobabnaaO1
namespace Go.Proofs.Ytomofgebobabnaa
open Go.RowKit

theorem own_store {B g n cap : Nat} {w : World} {l : List UInt8} (h : OwnB B w (.slice (some ⟨g, 0, none⟩) n cap) l) (hn : n = l.length) (j : Nat) (c : UInt8) :
    OwnB B (w.setCell ⟨g, j, none⟩ (.int .u8 (c.toNat : Int))) (.slice (some ⟨g, 0, none⟩) n cap) (l.set j c) := by
  subst hn
  unfold OwnB at h ⊢
  have := (World.ownsRow.stored h j (.int .u8 (c.toNat : Int))).1
  rw [byte_cells_set] at this
  rw [List.length_set]
  exact this
theorem own_cell {B g n cap : Nat} {w : World} {l : List UInt8} (h : OwnB B w (.slice (some ⟨g, 0, none⟩) n cap) l) (hn : n = l.length) {j : Nat} {c : UInt8} (hj : l[j]? = some c) : w.cell? ⟨g, j, none⟩ = some (.int .u8 (c.toNat : Int)) := by
  subst hn
  unfold OwnB at h
  have hlt : j < l.length := by
    rcases Nat.lt_or_ge j l.length with h | h
    · exact h
    · rw [List.getElem?_eq_none h] at hj; cases hj
  rw [World.ownsRow.cellAt h j (by omega)]
  exact byte_cell_at hj
theorem own_mark {B g n cap : Nat} {w : World} {l : List UInt8} (h : OwnB B w (.slice (some ⟨g, 0, none⟩) n cap) l) (hn : n = l.length) (j : Nat) : w.frozen? ⟨g, j, none⟩ = false := by
  subst hn
  unfold OwnB at h
  exact World.ownsRow.frozenAt h j
/-- The form of a row that is not empty. -/
theorem own_is {B : Nat} {w : World} {v : Value} {l : List UInt8} (h : OwnB B w v l) (hl : 0 < l.length) : ∃ g cap, v = .slice (some ⟨g, 0, none⟩) l.length cap ∧ l.length ≤ cap ∧ cap ≤ maxLen ∧ B ≤ g ∧ g < w.heap.size := by
  obtain ⟨a, cap, rfl, h1, h2, h3⟩ := own_formQ h
  obtain ⟨g, rfl, h4, h5⟩ := h3 hl
  exact ⟨g, cap, rfl, h1, h2, h4, h5⟩

end Go.Proofs.Ytomofgebobabnaa
