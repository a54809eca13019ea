/-
  Plain facts: what an affix makes of a word can be undone, and what is undone can be made again.
-/
import Derived.Test.YtpdphimlpeiifaaF1
namespace Go.Proofs.Ytpdphimlpeiifaa
open Go.RowKit

theorem bytes_eqF {a b : ByteArray} (h : a.data.toList = b.data.toList) : a = b := Go.WideShapes.bytes_inj h
theorem ext_listF (s : ByteArray) (a b : Nat) : (s.extract a b).data.toList = (s.data.toList.take b).drop a := by
  simp [ByteArray.data_extract, List.extract_eq_take_drop, List.drop_take]
theorem end_list (f : Bool) (w : ByteArray) (n : Nat) : (endX f w n).data.toList = if f then w.data.toList.take n else w.data.toList.drop (w.data.toList.length - n) := by
  unfold endX
  cases f
  · simp only [Bool.false_eq_true, if_false, ext_listF, len_list]
    rw [List.take_of_length_le (by simp)]
  · simp only [if_true, ext_listF, List.drop_zero]
theorem rest_list (f : Bool) (w : ByteArray) (n : Nat) : (restX f w n).data.toList = if f then w.data.toList.drop n else w.data.toList.take (w.data.toList.length - n) := by
  unfold restX
  cases f
  · simp only [Bool.false_eq_true, if_false, ext_listF, len_list, List.drop_zero]
  · simp only [if_true, ext_listF]
    rw [List.take_of_length_le (by simp)]
theorem join_list (f : Bool) (r p : ByteArray) : (joinX f r p).data.toList = if f then p.data.toList ++ r.data.toList else r.data.toList ++ p.data.toList := by
  unfold joinX
  cases f
  · simp
  · simp
theorem fit_list {f : Bool} {w p : ByteArray} (h : fitX f w p = true) : (endX f w p.size) = p := by
  simp only [fitX, Bool.and_eq_true, beq_iff_eq] at h
  have := h.2
  rw [ByteArray.toList_eq, ByteArray.toList_eq] at this
  exact bytes_eqF this
theorem refit {f : Bool} {w p : ByteArray} (h : fitX f w p = true) : joinX f (restX f w p.size) p = w := by
  have he := fit_list h
  apply bytes_eqF
  rw [join_list, rest_list]
  have h2 : p.data.toList = (endX f w p.size).data.toList := by rw [he]
  rw [end_list] at h2
  cases f
  · simp only [Bool.false_eq_true, if_false] at h2 ⊢
    conv => lhs; rhs; rw [h2]
    exact List.take_append_drop _ _
  · simp only [if_true] at h2 ⊢
    conv => lhs; lhs; rw [h2]
    exact List.take_append_drop _ _
theorem rejoin_rest (f : Bool) (r p : ByteArray) : restX f (joinX f r p) p.size = r := by
  apply bytes_eqF
  rw [rest_list, join_list]
  have hl : p.data.toList.length = p.size := len_list p
  cases f
  · simp only [Bool.false_eq_true, if_false, List.length_append, hl, Nat.add_sub_cancel]
    rw [List.take_left']
    rfl
  · simp only [if_true]
    rw [← hl, List.drop_left']
    rfl
theorem rejoin_fit (f : Bool) (r p : ByteArray) : fitX f (joinX f r p) p = true := by
  rw [fitX_short (by rw [joinX_size]; omega), beq_iff_eq, ByteArray.toList_eq, ByteArray.toList_eq, end_list, join_list]
  have hl : p.data.toList.length = p.size := len_list p
  cases f
  · simp only [Bool.false_eq_true, if_false, List.length_append, hl, Nat.add_sub_cancel]
    rw [List.drop_left']
    rfl
  · simp only [if_true]
    rw [← hl, List.take_left']
    rfl

/-- What an affix has made can be undone. -/
theorem apply_undo {f : Bool} {n w s a word y : ByteArray} (h : applyOut f n w s a word = (y, 0)) : undoOut f n w s a y = (word, 0) ∧ matchB f n w s a word = true := by
  cases h1 : affB n w s a
  · rw [applyOut_aff h1] at h; simp at h
  · cases h2 : longB word
    · rw [applyOut_long h1 h2] at h; simp at h
    · rw [applyOut_yes h1 h2] at h
      cases h3 : matchX f w s word
      · rw [applyX_no h3] at h; simp at h
      · cases h4 : longB (joinX f (restX f word s.size) a)
        · rw [applyX_short h3 h4] at h; simp at h
        · rw [applyX_yes h3 h4] at h
          obtain rfl : joinX f (restX f word s.size) a = y := (Prod.mk.inj h).1
          have hr : joinX f (restX f (joinX f (restX f word s.size) a) a.size) s = word := by rw [rejoin_rest, refit (matchX_fits h3)]
          refine ⟨?_, by rw [matchB_yes h1 h2]; exact h3⟩
          rw [undoOut_yes h1 h4, undoX_yes (rejoin_fit f _ a) (by rw [hr, h2, h3]; rfl), hr]
/-- What was undone is made again. -/
theorem undo_apply {f : Bool} {n w s a word x : ByteArray} (h : undoOut f n w s a word = (x, 0)) : applyOut f n w s a x = (word, 0) := by
  cases h1 : affB n w s a
  · rw [undoOut_aff h1] at h; simp at h
  · cases h2 : longB word
    · rw [undoOut_long h1 h2] at h; simp at h
    · rw [undoOut_yes h1 h2] at h
      cases h3 : fitX f word a
      · rw [undoX_fit h3] at h; simp at h
      · cases h4 : (longB (joinX f (restX f word a.size) s) && matchX f w s (joinX f (restX f word a.size) s))
        · rw [undoX_no h3 h4] at h; simp at h
        · rw [undoX_yes h3 h4] at h
          obtain rfl : joinX f (restX f word a.size) s = x := (Prod.mk.inj h).1
          rw [Bool.and_eq_true] at h4
          have hr : joinX f (restX f (joinX f (restX f word a.size) s) s.size) a = word := by rw [rejoin_rest, refit h3]
          rw [applyOut_yes h1 h4.1, applyX_yes h4.2 (by rw [hr]; exact h2), hr]
/-- A word that does not match is told so. -/
theorem apply_code {f : Bool} {n w s a word : ByteArray} (h : (applyOut f n w s a word).2 = 3) : matchB f n w s a word = false := by
  cases h1 : affB n w s a
  · exact matchB_aff h1
  · cases h2 : longB word
    · exact matchB_long h2
    · rw [applyOut_yes h1 h2] at h
      rw [matchB_yes h1 h2]
      cases h3 : matchX f w s word
      · rfl
      · cases h4 : longB (joinX f (restX f word s.size) a)
        · rw [applyX_short h3 h4] at h; simp at h
        · rw [applyX_yes h3 h4] at h; simp at h
end Go.Proofs.Ytpdphimlpeiifaa
