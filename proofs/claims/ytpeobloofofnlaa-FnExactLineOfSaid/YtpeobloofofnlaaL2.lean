/-
  Plain facts on lists of words: order, validity, the place of a text, a text more and a text less.
-/
import Derived.Test.YtpeobloofofnlaaL0
namespace Go.Proofs.Ytpeobloofofnlaa
open Go.RowKit

/-! ### The order of texts -/
theorem less_irr (x : List UInt8) : Op.bytesLess x x = false := by
  have h := less_or_same x x
  cases hx : Op.bytesLess x x
  · rfl
  · rw [hx] at h; simp at h
theorem less_trans : ∀ x y z : List UInt8, Op.bytesLess x y = true → Op.bytesLess y z = true → Op.bytesLess x z = true
  | [], [], _, h, _ => by simp [Op.bytesLess] at h
  | [], _ :: _, [], _, h => by simp [Op.bytesLess] at h
  | [], _ :: _, _ :: _, _, _ => rfl
  | _ :: _, [], _, h, _ => by simp [Op.bytesLess] at h
  | _ :: _, _ :: _, [], _, h => by simp [Op.bytesLess] at h
  | a :: x, b :: y, c :: z, h1, h2 => by
    simp only [Op.bytesLess, Bool.or_eq_true, Bool.and_eq_true, decide_eq_true_eq, beq_iff_eq] at h1 h2 ⊢
    rcases h1 with h1 | ⟨rfl, h1⟩
    · rcases h2 with h2 | ⟨rfl, h2⟩
      · exact .inl (UInt8.lt_trans h1 h2)
      · exact .inl h1
    · rcases h2 with h2 | ⟨rfl, h2⟩
      · exact .inl h2
      · exact .inr ⟨rfl, less_trans _ _ _ h1 h2⟩
theorem upS_irr (a : ByteArray) : upS a a = false := less_irr _
theorem upS_trans {a b c : ByteArray} (h1 : upS a b = true) (h2 : upS b c = true) : upS a c = true := less_trans _ _ _ h1 h2
theorem upS_asymm {a b : ByteArray} (h : upS a b = true) : upS b a = false := by
  cases hb : upS b a
  · rfl
  · have := upS_trans h hb
    rw [upS_irr] at this
    cases this
theorem upS_ne {a b : ByteArray} (h : upS a b = true) : ¬ a = b := fun e => by rw [e, upS_irr] at h; cases h
theorem upS_tri {a b : ByteArray} (h1 : upS a b = false) (h2 : ¬ a = b) : upS b a = true := by
  have h := not_le (a := b) (b := a)
  unfold upS at h1 ⊢
  rw [h1, strNe h2] at h
  cases hb : Op.bytesLess b.toList a.toList
  · unfold upS at h; rw [hb] at h; simp at h
  · rfl
theorem upS_same {a b : ByteArray} (h1 : upS a b = false) (h2 : upS b a = false) : a = b := by
  by_cases h : a = b
  · exact h
  · rw [upS_tri h1 h] at h2; cases h2

/-! ### What is valid -/
def okW (ss : List ByteArray) (j : Nat) : Bool := longB (strAt ss j) && (decide (j = 0) || upS (strAt ss (j - 1)) (strAt ss j))
/-- A list of words is that of a lexicon. -/
def okL (ss : List ByteArray) : Bool := allTo (okW ss) ss.length && decide (ss.length ≤ 200)
theorem okW_no {ss : List ByteArray} {j : Nat} (h : longB (strAt ss j) = false) : okW ss j = false := by simp [okW, h]
theorem okW_first {ss : List ByteArray} (h : longB (strAt ss 0) = true) : okW ss 0 = true := by simp [okW, h]
theorem okW_next {ss : List ByteArray} {j : Nat} (h : longB (strAt ss (j + 1)) = true) : okW ss (j + 1) = upS (strAt ss j) (strAt ss (j + 1)) := by simp [okW, h]
theorem okW_last {ss : List ByteArray} {k : Nat} (h : longB (strAt ss k) = true) : okW ss k = upS (lastS ss k) (strAt ss k) := by
  cases k with
  | zero => rw [okW_first h, lastS_zero, upS_empty (by have := (longB_size h).1; omega)]
  | succ k => rw [okW_next h, lastS_succ]
theorem okL_bad {ss : List ByteArray} {k : Nat} (hk : k < ss.length) (h : okW ss k = false) : okL ss = false := by
  unfold okL
  rw [allTo_not hk h, Bool.false_and]
theorem okL_len {ss : List ByteArray} (h : ¬ ss.length ≤ 200) : okL ss = false := by simp [okL, h]
theorem okL_rest {ss : List ByteArray} (h : allTo (okW ss) ss.length = true) : okL ss = decide (ss.length ≤ 200) := by simp [okL, h]
theorem okL_all {ss : List ByteArray} (h : allTo (okW ss) ss.length = true) (h2 : ss.length ≤ 200) : okL ss = true := by simp [okL, h, h2]
theorem okL_size {ss : List ByteArray} (h : okL ss = true) : ss.length ≤ 200 := by
  unfold okL at h
  rw [Bool.and_eq_true, decide_eq_true_eq] at h
  exact h.2
theorem okL_long {ss : List ByteArray} (h : okL ss = true) {k : Nat} (hk : k < ss.length) : longB (strAt ss k) = true := by
  unfold okL at h
  rw [Bool.and_eq_true] at h
  have := allTo_at h.1 hk
  unfold okW at this
  rw [Bool.and_eq_true] at this
  exact this.1
/-- A list of texts that rise. -/
def Rise (ss : List ByteArray) : Prop := ∀ i j, i < j → j < ss.length → upS (strAt ss i) (strAt ss j) = true
theorem rise_of {ss : List ByteArray} (h : ∀ j, j + 1 < ss.length → upS (strAt ss j) (strAt ss (j + 1)) = true) : Rise ss := by
  intro i j hij hj
  induction j with
  | zero => omega
  | succ j ih =>
    rcases Nat.lt_or_ge i j with h1 | h1
    · exact upS_trans (ih h1 (by omega)) (h j hj)
    · obtain rfl : i = j := by omega
      exact h i hj
theorem okL_rise {ss : List ByteArray} (h : okL ss = true) : Rise ss := by
  refine rise_of fun j hj => ?_
  have hl := okL_long h hj
  unfold okL at h
  rw [Bool.and_eq_true] at h
  have := allTo_at h.1 hj
  rwa [okW_next hl] at this

/-! ### The place of a text -/
/-- How many leading texts are less than a text. -/
def firstG (ss : List ByteArray) (s : ByteArray) : Nat := (ss.takeWhile fun x => upS x s).length
theorem firstG_nil (s : ByteArray) : firstG [] s = 0 := rfl
theorem strAt_zero (x : ByteArray) (l : List ByteArray) : strAt (x :: l) 0 = x := rfl
theorem strAt_succ (x : ByteArray) (l : List ByteArray) (j : Nat) : strAt (x :: l) (j + 1) = strAt l j := by simp [strAt]
theorem firstG_is {s : ByteArray} : ∀ {ss : List ByteArray} {k : Nat}, k ≤ ss.length → (∀ j, j < k → upS (strAt ss j) s = true) → (k < ss.length → upS (strAt ss k) s = false) → firstG ss s = k
  | [], k, hk, _, _ => by
    obtain rfl : k = 0 := by simpa using hk
    rfl
  | x :: l, 0, _, _, h2 => by
    have := h2 (by simp)
    rw [strAt_zero] at this
    unfold firstG
    rw [List.takeWhile_cons, this]
    rfl
  | x :: l, k + 1, hk, h1, h2 => by
    have hx := h1 0 (by omega)
    rw [strAt_zero] at hx
    have ih := firstG_is (ss := l) (s := s) (k := k) (by simpa using hk) (fun j hj => by have := h1 (j + 1) (by omega); rwa [strAt_succ] at this) (fun hj => by have := h2 (by simpa using hj); rwa [strAt_succ] at this)
    unfold firstG at ih ⊢
    rw [List.takeWhile_cons, hx]
    simpa using ih
theorem firstG_le (ss : List ByteArray) (s : ByteArray) : firstG ss s ≤ ss.length := by
  unfold firstG
  exact (List.takeWhile_sublist _).length_le
theorem firstG_less {s : ByteArray} : ∀ {ss : List ByteArray} {j : Nat}, j < firstG ss s → upS (strAt ss j) s = true
  | [], j, h => by simp [firstG] at h
  | x :: l, j, h => by
    unfold firstG at h
    rw [List.takeWhile_cons] at h
    cases hx : upS x s
    · rw [hx] at h; simp at h
    · rw [hx] at h
      cases j with
      | zero => exact hx
      | succ j => rw [strAt_succ]; exact firstG_less (by simpa [firstG] using h)
theorem firstG_stop {s : ByteArray} : ∀ {ss : List ByteArray}, firstG ss s < ss.length → upS (strAt ss (firstG ss s)) s = false
  | [], h => by simp [firstG] at h
  | x :: l, h => by
    cases hx : upS x s
    · have e : firstG (x :: l) s = 0 := by unfold firstG; rw [List.takeWhile_cons, hx]; rfl
      rw [e]; exact hx
    · have e : firstG (x :: l) s = firstG l s + 1 := by unfold firstG; rw [List.takeWhile_cons, hx]; rfl
      rw [e] at h ⊢
      rw [strAt_succ]
      exact firstG_stop (by simpa using h)
theorem firstG_more {ss : List ByteArray} {s : ByteArray} (hr : Rise ss) {j : Nat} (h : firstG ss s ≤ j) (hj : j < ss.length) : upS (strAt ss j) s = false := by
  have h0 := firstG_stop (ss := ss) (s := s) (by omega)
  rcases Nat.lt_or_ge (firstG ss s) j with h1 | h1
  · cases hx : upS (strAt ss j) s
    · rfl
    · have := upS_trans (hr _ _ h1 hj) hx
      rw [h0] at this; cases this
  · obtain rfl : j = firstG ss s := by omega
    exact h0
/-- A rising list has a text. -/
def hasL (ss : List ByteArray) (s : ByteArray) : Bool := decide (firstG ss s < ss.length) && ((strAt ss (firstG ss s)).toList == s.toList)
theorem hasL_end {ss : List ByteArray} {s : ByteArray} (h : ¬ firstG ss s < ss.length) : hasL ss s = false := by simp [hasL, h]
theorem hasL_at {ss : List ByteArray} {s : ByteArray} (h : firstG ss s < ss.length) : hasL ss s = ((strAt ss (firstG ss s)).toList == s.toList) := by simp [hasL, h]
theorem hasL_is {ss : List ByteArray} {s : ByteArray} : hasL ss s = decide (firstG ss s < ss.length ∧ strAt ss (firstG ss s) = s) := by
  by_cases h : firstG ss s < ss.length
  · rw [hasL_at h]
    by_cases e : strAt ss (firstG ss s) = s
    · rw [e, strSame]; simp [h]
    · rw [strNe e]; simp [e]
  · rw [hasL_end h]; simp [h]
theorem hasL_no {ss : List ByteArray} {s : ByteArray} (h : hasL ss s = false) {j : Nat} (hr : Rise ss) (hj : j < ss.length) : ¬ strAt ss j = s := by
  intro e
  have hk : firstG ss s = j := by
    refine firstG_is (by omega) (fun i hi => by rw [← e]; exact hr i j hi hj) (fun _ => by rw [e]; exact upS_irr s)
  rw [hasL_at (by omega), hk, e, strSame] at h
  cases h
theorem hasL_mem {ss : List ByteArray} {s : ByteArray} (hr : Rise ss) : hasL ss s = true ↔ s ∈ ss := by
  constructor
  · intro h
    rw [hasL_is, decide_eq_true_eq] at h
    rw [← h.2]
    exact strAt_mem h.1
  · intro h
    cases hh : hasL ss s
    · obtain ⟨j, hj, e⟩ := List.mem_iff_getElem.1 h
      refine absurd ?_ (hasL_no hh hr hj)
      simp [strAt, List.getD_eq_getElem?_getD, hj, e]
    · rfl

/-! ### A text more, a text less -/
def insL (ss : List ByteArray) (s : ByteArray) : List ByteArray := ss.take (firstG ss s) ++ s :: ss.drop (firstG ss s)
/-- A text is put to its place among rising ones, once. -/
def insS (ss : List ByteArray) (s : ByteArray) : List ByteArray := if hasL ss s = true then ss else insL ss s
theorem insS_has {ss : List ByteArray} {s : ByteArray} (h : hasL ss s = true) : insS ss s = ss := if_pos h
theorem insS_new {ss : List ByteArray} {s : ByteArray} (h : hasL ss s = false) : insS ss s = insL ss s := by
  unfold insS
  rw [if_neg (by rw [h]; exact Bool.false_ne_true)]
theorem insL_len (ss : List ByteArray) (s : ByteArray) : (insL ss s).length = ss.length + 1 := by
  have := firstG_le ss s
  unfold insL
  simp
  omega
def delL (ss : List ByteArray) (s : ByteArray) : List ByteArray := ss.take (firstG ss s) ++ ss.drop (firstG ss s + 1)
theorem strAt_eq {ss : List ByteArray} {j : Nat} (h : j < ss.length) : strAt ss j = ss[j] := by
  simp [strAt, List.getD_eq_getElem?_getD, h]
theorem del_filter {ss : List ByteArray} {s : ByteArray} (hr : Rise ss) (h : hasL ss s = true) : ss.filter (fun x => !decide (x = s)) = delL ss s := by
  rw [hasL_is, decide_eq_true_eq] at h
  obtain ⟨h1, h2⟩ := h
  have e : ss = ss.take (firstG ss s) ++ strAt ss (firstG ss s) :: ss.drop (firstG ss s + 1) := by
    rw [strAt_eq h1, ← List.drop_eq_getElem_cons h1, List.take_append_drop]
  have ha : (ss.take (firstG ss s)).filter (fun x => !decide (x = s)) = ss.take (firstG ss s) := by
    rw [List.filter_eq_self]
    intro x hx
    obtain ⟨j, hj, rfl⟩ := List.mem_iff_getElem.1 hx
    rw [List.length_take] at hj
    have hu := firstG_less (ss := ss) (s := s) (j := j) (by omega)
    rw [strAt_eq (by omega)] at hu
    rw [List.getElem_take]
    simpa using upS_ne hu
  have hb : (ss.drop (firstG ss s + 1)).filter (fun x => !decide (x = s)) = ss.drop (firstG ss s + 1) := by
    rw [List.filter_eq_self]
    intro x hx
    obtain ⟨j, hj, rfl⟩ := List.mem_iff_getElem.1 hx
    rw [List.length_drop] at hj
    have hu := hr (firstG ss s) (firstG ss s + 1 + j) (by omega) (by omega)
    rw [h2, strAt_eq (by omega)] at hu
    rw [List.getElem_drop]
    simpa using fun e => upS_ne hu e.symm
  conv => lhs; rw [e]
  rw [List.filter_append, List.filter_cons, ha, hb, h2]
  simp [delL]
end Go.Proofs.Ytpeobloofofnlaa
