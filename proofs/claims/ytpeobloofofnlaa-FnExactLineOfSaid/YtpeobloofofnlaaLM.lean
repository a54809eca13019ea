/-
  Words picked from a list.
-/
import Derived.Test.YtpeobloofofnlaaLB
namespace Go.Proofs.Ytpeobloofofnlaa
open Go.RowKit Go.Lib

theorem LexAt.belowG {W W' : World} {g : Nat} {v : Value} {ss : List ByteArray} (h : LexAt W g v ss) (hb : Below W.heap.size W W') : LexAt W' g v ss := ⟨h.blk.kept hb h.blk.lt, h.strs.below hb⟩
theorem OwnS.voidG (B : Nat) (w : World) : OwnS B w (.slice none 0 0) [] := ⟨rfl, .inl ⟨rfl, rfl⟩⟩
def retS (v : Value) (c : Int) : Ending := .returned (.tuple #[v, .int .i64 c])
/-- Those of the first k words that are wanted. -/
def pickTo (q : ByteArray → Bool) (us : List ByteArray) (k : Nat) : List ByteArray := (us.take k).filter q
theorem pickTo_skip {q : ByteArray → Bool} {us : List ByteArray} {k : Nat} (h : k < us.length) (e : q (strAt us k) = false) : pickTo q us (k + 1) = pickTo q us k := by
  unfold pickTo
  rw [List.take_succ_eq_append_getElem h, List.filter_append, ← strAt_eq h]
  simp [e]
theorem pickTo_more {q : ByteArray → Bool} {us : List ByteArray} {k : Nat} (h : k < us.length) (e : q (strAt us k) = true) : pickTo q us (k + 1) = pickTo q us k ++ [strAt us k] := by
  unfold pickTo
  rw [List.take_succ_eq_append_getElem h, List.filter_append, ← strAt_eq h]
  simp [e]
theorem pickTo_len (q : ByteArray → Bool) (us : List ByteArray) (k : Nat) : (pickTo q us k).length ≤ us.length := by
  unfold pickTo
  have h1 := List.length_filter_le q (us.take k)
  rw [List.length_take] at h1
  omega
theorem long_word {s : ByteArray} (h : longB s = true) : isWordB s.data.toList = true := by
  unfold longB at h
  simp only [Bool.and_eq_true] at h
  exact h.2
theorem long_small {us : List ByteArray} (h : okL us = true) {k : Nat} (hk : k < us.length) : longB (strAt us k) = true ∧ (strAt us k).size ≤ 1048576 := by
  have h1 := okL_long h hk
  have := longB_size h1
  exact ⟨h1, by omega⟩
end Go.Proofs.Ytpeobloofofnlaa
