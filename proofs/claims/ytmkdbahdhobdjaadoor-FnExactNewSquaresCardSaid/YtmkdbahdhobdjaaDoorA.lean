/-
  Plain facts on bytes, lists and numbers that the proofs of chapter 1 lean on; no program in sight.
-/
import Derived.WalkKit
import Derived.WalkSpells
import Derived.WalkLawsBesides
namespace Go.Proofs.YtmkdbahdhobdjaaDoor
open Go.RowKit

/-- A fact put out of the walk's sight. -/
theorem hid {p : Prop} (h : p) : Hid p := h

/-- A number is the code of a small letter. -/
def smallB (c : Int) : Bool := decide (97 ≤ c) && decide (c ≤ 122)
/-- A number is the code of a digit. -/
def digitB (c : Int) : Bool := decide (48 ≤ c) && decide (c ≤ 57)
/-- A number lies within bounds. -/
def inB (n low high : Int) : Bool := decide (low ≤ n) && decide (n ≤ high)

theorem smallB_yes {c : Int} (h1 : 97 ≤ c) (h2 : c ≤ 122) : smallB c = true := by simp [smallB, h1, h2]
theorem smallB_no {c : Int} (h : ¬ (97 ≤ c ∧ c ≤ 122)) : smallB c = false := by
  unfold smallB
  by_cases h1 : 97 ≤ c
  · have h2 : ¬ c ≤ 122 := fun h2 => h ⟨h1, h2⟩
    simp [h2]
  · simp [h1]
theorem smallB_iff {c : Int} : smallB c = true ↔ 97 ≤ c ∧ c ≤ 122 := by simp [smallB]
theorem digitB_yes {c : Int} (h1 : 48 ≤ c) (h2 : c ≤ 57) : digitB c = true := by simp [digitB, h1, h2]
theorem digitB_no {c : Int} (h : ¬ (48 ≤ c ∧ c ≤ 57)) : digitB c = false := by
  unfold digitB
  by_cases h1 : 48 ≤ c
  · have h2 : ¬ c ≤ 57 := fun h2 => h ⟨h1, h2⟩
    simp [h2]
  · simp [h1]
theorem digitB_iff {c : Int} : digitB c = true ↔ 48 ≤ c ∧ c ≤ 57 := by simp [digitB]
theorem inB_yes {n l h : Int} (h1 : l ≤ n) (h2 : n ≤ h) : inB n l h = true := by simp [inB, h1, h2]
theorem inB_no {n l h : Int} (hn : ¬ (l ≤ n ∧ n ≤ h)) : inB n l h = false := by
  unfold inB
  by_cases h1 : l ≤ n
  · have h2 : ¬ n ≤ h := fun h2 => hn ⟨h1, h2⟩
    simp [h2]
  · simp [h1]
theorem inB_iff {n l h : Int} : inB n l h = true ↔ l ≤ n ∧ n ≤ h := by simp [inB]

/-- Every byte of a text is a small letter. -/
def allSmall (l : List UInt8) : Bool := l.all fun c => smallB (c.toNat : Int)
/-- A text is a word. -/
def isWordB (l : List UInt8) : Bool := allSmall l && decide (1 ≤ l.length) && decide (l.length ≤ 12)

theorem take_grows (s : ByteArray) (k : Nat) (h : k < s.size) : s.data.toList.take (k + 1) = s.data.toList.take k ++ [s[k]] := by
  rw [List.take_succ_eq_append_getElem (by simpa using h)]
  rfl
theorem allSmall_grows (s : ByteArray) (k : Nat) (h : k < s.size) : allSmall (s.data.toList.take (k + 1)) = (allSmall (s.data.toList.take k) && smallB (s[k].toNat : Int)) := by
  rw [take_grows s k h]
  simp [allSmall]
/-- Every byte of a text is one of those that a test wants. -/
def allC (q : Int → Bool) (l : List UInt8) : Bool := l.all fun c => q (c.toNat : Int)
theorem allC_grows (q : Int → Bool) (s : ByteArray) (k : Nat) (h : k < s.size) : allC q (s.data.toList.take (k + 1)) = (allC q (s.data.toList.take k) && q (s[k].toNat : Int)) := by
  rw [take_grows s k h]
  simp [allC]
theorem take_all (s : ByteArray) : s.data.toList.take s.size = s.data.toList := List.take_of_length_le (by simp)
theorem at_mem (s : ByteArray) (k : Nat) (h : k < s.size) : s[k] ∈ s.data.toList := by
  have : s[k] = s.data.toList[k]'(by simpa using h) := rfl
  rw [this]
  exact List.getElem_mem _
theorem allC_not (q : Int → Bool) (s : ByteArray) (k : Nat) (h : k < s.size) (hb : q (s[k].toNat : Int) = false) : allC q s.data.toList = false := by
  rw [Bool.eq_false_iff]
  intro ha
  have := List.all_eq_true.1 ha _ (at_mem s k h)
  rw [hb] at this
  cases this
theorem isWordB_is {s : ByteArray} (h0 : 0 < s.size) (h : s.size ≤ 12) : isWordB s.data.toList = allC smallB s.data.toList := by
  have hl : s.data.toList.length = s.size := by rw [Array.length_toList]; rfl
  unfold isWordB
  rw [hl, decide_eq_true (show 1 ≤ s.size from h0), decide_eq_true h, Bool.and_true, Bool.and_true]
  rfl
theorem not_allSmall (s : ByteArray) (k : Nat) (h : k < s.size) (hs : smallB (s[k].toNat : Int) = false) : allSmall s.data.toList = false := by
  rw [Bool.eq_false_iff]
  intro hall
  unfold allSmall at hall
  rw [List.all_eq_true] at hall
  have := hall _ (at_mem s k h)
  rw [hs] at this
  cases this
theorem isWordB_not (s : ByteArray) (k : Nat) (h : k < s.size) (hs : smallB (s[k].toNat : Int) = false) : isWordB s.data.toList = false := by
  simp [isWordB, not_allSmall s k h hs]
theorem inB_word (s : ByteArray) (h : allSmall s.data.toList = true) : inB (s.size : Int) 1 12 = isWordB s.data.toList := by
  have hl : s.data.toList.length = s.size := by simp
  rw [Bool.eq_iff_iff]
  simp only [isWordB, h, inB, hl, Bool.true_and, Bool.and_eq_true, decide_eq_true_eq]
  omega
theorem empty_yes {s : ByteArray} (h : s.size = 0) : s.toList.isEmpty = true := by
  rw [ByteArray.toList_eq]
  have hl : s.data.toList.length = s.size := by simp
  rw [h] at hl
  rw [List.eq_nil_of_length_eq_zero hl]
  rfl
theorem empty_no {s : ByteArray} (h : 0 < s.size) : s.toList.isEmpty = false := by
  rw [ByteArray.toList_eq]
  have hl : s.data.toList.length = s.size := by simp
  cases hq : s.data.toList with
  | nil => rw [hq] at hl; simp at hl; omega
  | cons a l => rfl
theorem empty_nil {s : ByteArray} (h : s.size = 0) : s.toList = [] := List.isEmpty_iff.1 (empty_yes h)
theorem empty_notnil {s : ByteArray} (h : 0 < s.size) : ¬ s.toList = [] := fun e => by
  have := empty_no h
  rw [e] at this
  cases this
theorem isWordB_short {s : ByteArray} (h : s.size = 0) : isWordB s.data.toList = false := by
  have hl : s.data.toList.length = s.size := by simp
  simp only [isWordB, hl, h]
  simp
theorem isWordB_long {s : ByteArray} (h : 12 < s.size) : isWordB s.data.toList = false := by
  have hl : s.data.toList.length = s.size := by simp
  unfold isWordB
  rw [hl, decide_eq_false (p := s.size ≤ 12) (by omega)]
  simp
theorem isWordB_yes {s : ByteArray} (h0 : 0 < s.size) (h : s.size ≤ 12) (ha : allSmall s.data.toList = true) : isWordB s.data.toList = true := by
  have hl : s.data.toList.length = s.size := by simp
  unfold isWordB
  rw [hl, ha, decide_eq_true (p := s.size ≤ 12) h, decide_eq_true (p := 1 ≤ s.size) h0]
  rfl

/-! ### Names -/
/-- A byte may stand in a name. -/
def nameB (c : Int) : Bool := smallB c || digitB c || decide (c = 45)
def allName (l : List UInt8) : Bool := l.all fun c => nameB (c.toNat : Int)
def headSmall (l : List UInt8) : Bool := match l with | [] => false | c :: _ => smallB (c.toNat : Int)
def isNameB (l : List UInt8) : Bool := headSmall l && decide (l.length ≤ 12) && allName l
theorem allName_grows (s : ByteArray) (k : Nat) (h : k < s.size) : allName (s.data.toList.take (k + 1)) = (allName (s.data.toList.take k) && nameB (s[k].toNat : Int)) := by
  rw [take_grows s k h]
  simp [allName]
theorem headSmall_of {l : List UInt8} {c : UInt8} (h : l[0]? = some c) : headSmall l = smallB (c.toNat : Int) := by
  cases l with
  | nil => simp at h
  | cons a l => simp at h; subst h; rfl
theorem at_get (s : ByteArray) (k : Nat) (h : k < s.size) : s.data.toList[k]? = some (s[k]'h) := by
  rw [List.getElem?_eq_getElem (by simpa using h)]
  rfl
theorem headSmall_at (s : ByteArray) (h : 0 < s.size) : headSmall s.data.toList = smallB ((s[0]'h).toNat : Int) := headSmall_of (at_get s 0 h)
theorem isNameB_short {s : ByteArray} (h : s.size = 0) : isNameB s.data.toList = false := by
  have hl : s.data.toList.length = s.size := by simp
  rw [h] at hl
  rw [List.eq_nil_of_length_eq_zero hl]
  rfl
theorem isNameB_long {s : ByteArray} (h : 12 < s.size) : isNameB s.data.toList = false := by
  have hl : s.data.toList.length = s.size := by simp
  unfold isNameB
  rw [hl, decide_eq_false (p := s.size ≤ 12) (by omega)]
  simp
theorem isNameB_head {s : ByteArray} (h : 0 < s.size) (hs : smallB ((s[0]'h).toNat : Int) = false) : isNameB s.data.toList = false := by
  unfold isNameB
  rw [headSmall_at s h, hs]
  rfl
theorem isNameB_not (s : ByteArray) (k : Nat) (h : k < s.size) (hs : nameB (s[k].toNat : Int) = false) : isNameB s.data.toList = false := by
  have : allName s.data.toList = false := by
    rw [Bool.eq_false_iff]
    intro hall
    unfold allName at hall
    rw [List.all_eq_true] at hall
    have := hall _ (at_mem s k h)
    rw [hs] at this
    cases this
  simp [isNameB, this]
theorem isNameB_yes {s : ByteArray} (h0 : 0 < s.size) (h : s.size ≤ 12) (hh : smallB ((s[0]'h0).toNat : Int) = true) (ha : allName s.data.toList = true) : isNameB s.data.toList = true := by
  have hl : s.data.toList.length = s.size := by simp
  unfold isNameB
  rw [hl, ha, headSmall_at s h0, hh, decide_eq_true (p := s.size ≤ 12) h]
  rfl
theorem nameB_small {c : Int} (h : smallB c = true) : nameB c = true := by simp [nameB, h]
theorem nameB_digit {c : Int} (h : digitB c = true) : nameB c = true := by simp [nameB, h]
theorem nameB_dash {c : Int} (h : c = 45) : nameB c = true := by simp [nameB, h]
theorem nameB_none {c : Int} (h1 : smallB c = false) (h2 : digitB c = false) (h3 : ¬ c = 45) : nameB c = false := by simp [nameB, h1, h2, h3]
theorem nameB_high {c : Int} (h : 128 ≤ c) : nameB c = false := nameB_none (smallB_no (by omega)) (by
  cases hd : digitB c
  · rfl
  · rw [digitB_iff] at hd; omega) (by omega)
theorem nameB_low {c : Int} (h : nameB c = true) : c < 128 := by
  rcases Int.lt_or_le c 128 with h1 | h1
  · exact h1
  · rw [nameB_high h1] at h; cases h

end Go.Proofs.YtmkdbahdhobdjaaDoor
