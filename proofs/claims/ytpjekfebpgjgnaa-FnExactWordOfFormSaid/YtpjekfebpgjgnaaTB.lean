/-
  The word of a form: plain facts, a text cut at one byte, both sides.
-/
import Derived.Test.YtpjekfebpgjgnaaTA
import Derived.Test.YtpjekfebpgjgnaaRA
import Derived.Test.YtpjekfebpgjgnaaP0
import Derived.Test.YtpjekfebpgjgnaaL3
import Derived.Test.YtpjekfebpgjgnaaC1
import Derived.Test.YtpjekfebpgjgnaaUA
import Derived.Test.YtpjekfebpgjgnaaShelfJ
import Derived.Test.YtpjekfebpgjgnaaLK
import Derived.Deep.QuietTactic
namespace Go.Proofs.Ytpjekfebpgjgnaa
open Go.RowKit

def gtS : ByteArray := ⟨#[62]⟩
theorem indexByte_cases (c : UInt8) : ∀ l : List UInt8, (c ∉ l ∧ Lib.indexByte l c = -1) ∨ (∃ i : Nat, Lib.indexByte l c = (i : Int) ∧ i < l.length ∧ l = l.take i ++ c :: l.drop (i + 1) ∧ c ∉ l.take i)
  | [] => .inl ⟨by simp, rfl⟩
  | b :: l => by
    by_cases h : b = c
    · subst h
      exact .inr ⟨0, by simp [Lib.indexByte], by simp, by simp, by simp⟩
    · have hb : (b == c) = false := beq_eq_false_iff_ne.2 h
      rcases indexByte_cases c l with ⟨h1, h2⟩ | ⟨i, h1, h2, h3, h4⟩
      · refine .inl ⟨?_, by simp [Lib.indexByte, hb, h2]⟩
        intro hm
        rcases List.mem_cons.1 hm with e | e
        · exact h e.symm
        · exact h1 e
      · have hn : ((i : Int) == -1) = false := beq_eq_false_iff_ne.2 (by omega)
        refine .inr ⟨i + 1, by simp [Lib.indexByte, hb, h1, hn], by simp; omega, ?_, ?_⟩
        · simp only [List.take_succ_cons, List.cons_append, List.drop_succ_cons]
          rw [← h3]
        · rw [List.take_succ_cons]
          intro hm
          rcases List.mem_cons.1 hm with e | e
          · exact h e.symm
          · exact h4 e
/-- How a form is cut: no turn in it, or what stands before the first one and behind it. -/
inductive GtCut (s : ByteArray) : Prop
  | none (h : (62 : UInt8) ∉ s.data.toList) (hi : Lib.indexByte s.data.toList 62 = -1) : GtCut s
  | some (i : Nat) (hi : Lib.indexByte s.data.toList 62 = (i : Int)) (hl : i < s.size) (hs : s.data.toList = (s.extract 0 i).data.toList ++ 62 :: (s.extract (i + 1) s.size).data.toList) (hf : (62 : UInt8) ∉ (s.extract 0 i).data.toList) : GtCut s
theorem gtCut (s : ByteArray) : GtCut s := by
  rcases indexByte_cases 62 s.data.toList with ⟨h1, h2⟩ | ⟨i, h1, h2, h3, h4⟩
  · exact .none h1 h2
  · have hx : (s.extract 0 i).data.toList = s.data.toList.take i := by rw [ext_listY]; simp
    have hy : (s.extract (i + 1) s.size).data.toList = s.data.toList.drop (i + 1) := by
      rw [ext_listY, List.take_of_length_le (by simp)]
    exact .some i h1 (by simpa using h2) (by rw [hx, hy]; exact h3) (by rw [hx]; exact h4)
theorem split_none {s : ByteArray} (h : (62 : UInt8) ∉ s.data.toList) : pc s (cuts s 62) = [s] := by
  apply map_bytesOf_inj
  have := cuts_split s 62
  rw [splitL_free h] at this
  unfold pc
  rw [List.map_map]
  exact this
theorem split_two {s x y : ByteArray} (hs : s.data.toList = x.data.toList ++ 62 :: y.data.toList) (hx : (62 : UInt8) ∉ x.data.toList) (hy : (62 : UInt8) ∉ y.data.toList) : pc s (cuts s 62) = [x, y] := by
  apply map_bytesOf_inj
  have := cuts_split s 62
  rw [hs, splitL_cat _ hx, splitL_free hy] at this
  unfold pc
  rw [List.map_map]
  exact this
theorem split_more {s x y : ByteArray} (hs : s.data.toList = x.data.toList ++ 62 :: y.data.toList) (hx : (62 : UInt8) ∉ x.data.toList) (hy : (62 : UInt8) ∈ y.data.toList) : 2 < (pc s (cuts s 62)).length := by
  have h := congrArg List.length (cuts_split s 62)
  rw [hs, splitL_cat _ hx] at h
  have h2 : ∃ x2 y2, y.data.toList = x2 ++ 62 :: y2 ∧ (62 : UInt8) ∉ x2 := by
    rcases indexByte_cases 62 y.data.toList with ⟨h1, _⟩ | ⟨i, _, _, h3, h4⟩
    · exact absurd hy h1
    · exact ⟨_, _, h3, h4⟩
  obtain ⟨x2, y2, e, hf⟩ := h2
  rw [e, splitL_cat _ hf] at h
  have hp := List.length_pos_iff.2 (splitL_ne 62 y2)
  unfold pc
  simp at h ⊢
  omega
theorem no_gt {w : ByteArray} (h : (62 : UInt8) ∈ w.data.toList) : isWordB w.data.toList = false := by
  rw [Bool.eq_false_iff]
  intro hw
  have := isWordB_small hw
  unfold allSmall at this
  rw [List.all_eq_true] at this
  have h2 := this _ h
  revert h2
  decide
theorem cat_list (x y : ByteArray) : (x ++ y).data.toList = x.data.toList ++ y.data.toList := by simp
theorem back_cat {x y : ByteArray} : (backS x ++ y).data.toList = x.data.toList.reverse ++ y.data.toList := by rw [cat_list, backS_list]
theorem word_take (x y : ByteArray) : (backS x ++ y).extract 0 x.size = backS x := by
  apply bytesOf_inj
  unfold bytesOf
  rw [ext_listY, List.drop_zero, back_cat, List.take_append_of_le_length (by simp), List.take_of_length_le (by simp), backS_list]
theorem word_drop (x y : ByteArray) : (backS x ++ y).extract x.size (backS x ++ y).size = y := by
  apply bytesOf_inj
  unfold bytesOf
  rw [ext_listY, List.take_of_length_le (by simp), back_cat, List.drop_append_of_le_length (by simp), List.drop_of_length_le (by simp)]
  rfl
theorem form_back {s x y : ByteArray} (hs : s.data.toList = x.data.toList ++ 62 :: y.data.toList) : (backS (backS x) ++ gtS) ++ y = s := by
  apply bytesOf_inj
  unfold bytesOf
  rw [backS_back, hs, cat_list, cat_list]
  simp [gtS]
theorem cut_size {s x y : ByteArray} (hs : s.data.toList = x.data.toList ++ 62 :: y.data.toList) : s.size = x.size + 1 + y.size := by
  have := congrArg List.length hs
  simp at this
  omega
end Go.Proofs.Ytpjekfebpgjgnaa
