/-
  Plain facts on patterns: what is one, what matches it; no program in sight.
-/
import Derived.Test.YtpjekfebpgjgnaaA
namespace Go.Proofs.Ytpjekfebpgjgnaa

def vowB (c : Int) : Bool := decide (c = 97) || decide (c = 101) || decide (c = 105) || decide (c = 111) || decide (c = 117)
/-- The bytes of patterns. -/
def patB (c : Int) : Bool := smallB c || decide (c = 42) || decide (c = 46) || decide (c = 64) || decide (c = 35)
def allPat (l : List UInt8) : Bool := l.all fun c => patB (c.toNat : Int)
def starsN (l : List UInt8) : Nat := l.countP fun c => decide ((c.toNat : Int) = 42)
def okP (s : ByteArray) : Bool := allPat s.data.toList && (decide (1 ≤ s.size) && decide (s.size ≤ 12)) && decide (starsN s.data.toList ≤ 3)
theorem allPat_grows (s : ByteArray) (k : Nat) (h : k < s.size) : allPat (s.data.toList.take (k + 1)) = (allPat (s.data.toList.take k) && patB (s[k].toNat : Int)) := by
  rw [take_grows s k h]
  simp [allPat]
theorem starsN_grows (s : ByteArray) (k : Nat) (h : k < s.size) : starsN (s.data.toList.take (k + 1)) = starsN (s.data.toList.take k) + (if (s[k].toNat : Int) = 42 then 1 else 0) := by
  rw [take_grows s k h]
  unfold starsN
  rw [List.countP_append, List.countP_singleton]
  simp
theorem okP_not (s : ByteArray) (k : Nat) (h : k < s.size) (hs : patB (s[k].toNat : Int) = false) : okP s = false := by
  have : allPat s.data.toList = false := by
    rw [Bool.eq_false_iff]
    intro ha
    unfold allPat at ha
    rw [List.all_eq_true] at ha
    have := ha _ (at_mem s k h)
    rw [hs] at this
    cases this
  simp [okP, this]
theorem okP_all {s : ByteArray} (h : allPat s.data.toList = true) : okP s = (inB (s.size : Int) 1 12 && decide (starsN s.data.toList ≤ 3)) := by
  unfold okP inB
  rw [h, Bool.true_and]
  congr 1
  congr 1 <;> exact decide_eq_decide.2 (by omega)
theorem okP_short {s : ByteArray} (h : s.size = 0) : okP s = false := by simp [okP, h]
theorem okP_long {s : ByteArray} (h : 12 < s.size) : okP s = false := by
  have : ¬ s.size ≤ 12 := by omega
  simp [okP, this]
theorem okP_stars {s : ByteArray} (h : 3 < starsN s.data.toList) : okP s = false := by
  have : ¬ starsN s.data.toList ≤ 3 := by omega
  simp [okP, this]
theorem okP_size {s : ByteArray} (h : okP s = true) : 1 ≤ s.size ∧ s.size ≤ 12 := by
  simp only [okP, Bool.and_eq_true, decide_eq_true_eq] at h
  exact h.1.2
theorem okP_pat {s : ByteArray} (h : okP s = true) : allPat s.data.toList = true := by
  simp only [okP, Bool.and_eq_true, decide_eq_true_eq] at h
  exact h.1.1
theorem okP_yes {s : ByteArray} (h0 : 0 < s.size) (h1 : s.size ≤ 12) (h2 : starsN s.data.toList ≤ 3) (h3 : allPat s.data.toList = true) : okP s = true := by
  have : 1 ≤ s.size := h0
  simp [okP, this, h1, h2, h3]
theorem patB_high {c : Int} (h : 128 ≤ c) : patB c = false := by
  have h1 : smallB c = false := smallB_no (by omega)
  have h2 : ¬ c = 42 := by omega
  have h3 : ¬ c = 46 := by omega
  have h4 : ¬ c = 64 := by omega
  have h5 : ¬ c = 35 := by omega
  simp [patB, h1, h2, h3, h4, h5]
theorem patB_low {c : Int} (h : patB c = true) : c < 128 := by
  rcases Int.lt_or_le c 128 with h1 | h1
  · exact h1
  · rw [patB_high h1] at h; cases h
theorem patB_parts {c : Int} (h : patB c = false) : smallB c = false ∧ ¬ c = 42 ∧ ¬ c = 46 ∧ ¬ c = 64 ∧ ¬ c = 35 := by
  simp only [patB, Bool.or_eq_false_iff, decide_eq_false_iff_not] at h
  exact ⟨h.1.1.1.1, h.1.1.1.2, h.1.1.2, h.1.2, h.2⟩
theorem patB_none {c : Int} (h1 : smallB c = false) (h2 : ¬ c = 42) (h3 : ¬ c = 46) (h4 : ¬ c = 64) (h5 : ¬ c = 35) : patB c = false := by simp [patB, h1, h2, h3, h4, h5]
theorem patB_small {c : Int} (h : smallB c = true) : patB c = true := by simp [patB, h]
theorem starsN_byte (l : List UInt8) : starsN l = l.count 42 := by
  unfold starsN List.count
  congr 1
  funext c
  rw [show (c == (42 : UInt8)) = decide (c = 42) from rfl]
  exact decide_eq_decide.2 ⟨fun h => by
    apply UInt8.toNat_inj.1
    have : c.toNat = 42 := by omega
    rw [this]; rfl, fun h => by rw [h]; rfl⟩

/-- Whether a letter matches a byte of a pattern that is no star. -/
def byteP (p c : Int) : Bool := if p = 46 then true else if p = 64 then vowB c else if p = 35 then !vowB c else decide (p = c)
def matchL : List UInt8 → List UInt8 → Bool
  | [], w => w.isEmpty
  | b :: p, [] => if (b.toNat : Int) = 42 then matchL p [] else false
  | b :: p, c :: w => if (b.toNat : Int) = 42 then matchL p (c :: w) || matchL (b :: p) w else byteP (b.toNat : Int) (c.toNat : Int) && matchL p w
termination_by p w => p.length + w.length
theorem matchL_end (w : List UInt8) : matchL [] w = w.isEmpty := by rw [matchL]
theorem matchL_star_end {b : UInt8} {p : List UInt8} (h : (b.toNat : Int) = 42) : matchL (b :: p) [] = matchL p [] := by rw [matchL, if_pos h]
theorem matchL_star {b c : UInt8} {p w : List UInt8} (h : (b.toNat : Int) = 42) : matchL (b :: p) (c :: w) = (matchL p (c :: w) || matchL (b :: p) w) := by rw [matchL, if_pos h]
theorem matchL_byte_end {b : UInt8} {p : List UInt8} (h : ¬ (b.toNat : Int) = 42) : matchL (b :: p) [] = false := by rw [matchL, if_neg h]
theorem matchL_byte {b c : UInt8} {p w : List UInt8} (h : ¬ (b.toNat : Int) = 42) : matchL (b :: p) (c :: w) = (byteP (b.toNat : Int) (c.toNat : Int) && matchL p w) := by rw [matchL, if_neg h]
/-- Whether a word matches a pattern. -/
def fitsP (p s : ByteArray) : Bool := matchL p.data.toList s.data.toList
def matchB10 (p s : ByteArray) : Bool := okP p && isWordB s.data.toList && fitsP p s
theorem matchB10_pat {p s : ByteArray} (h : okP p = false) : matchB10 p s = false := by simp [matchB10, h]
theorem matchB10_word {p s : ByteArray} (h : isWordB s.data.toList = false) : matchB10 p s = false := by simp [matchB10, h]
theorem matchB10_yes {p s : ByteArray} (h : okP p = true) (h2 : isWordB s.data.toList = true) : matchB10 p s = fitsP p s := by simp [matchB10, h, h2]
/-- What is left of a string behind its first byte. -/
def tailS (s : ByteArray) : ByteArray := s.extract 1 s.size
theorem tailS_size (s : ByteArray) : (tailS s).size = s.size - 1 := by
  unfold tailS
  rw [ByteArray.size_extract]
  omega
theorem tailS_list (s : ByteArray) : (tailS s).data.toList = s.data.toList.drop 1 := by
  unfold tailS
  rw [ByteArray.data_extract, Array.toList_extract]
  simp only [List.extract]
  exact List.take_of_length_le (by simp)
theorem head_list (s : ByteArray) (h : 0 < s.size) : s.data.toList = s[0] :: (tailS s).data.toList := by
  rw [tailS_list]
  have := at_get s 0 h
  cases hl : s.data.toList with
  | nil => rw [hl] at this; simp at this
  | cons a l => rw [hl] at this; simp at this; rw [this]; rfl
theorem nil_list {s : ByteArray} (h : s.size = 0) : s.data.toList = [] := by
  apply List.eq_nil_of_length_eq_zero
  simpa using h
theorem fitsP_end {p s : ByteArray} (h : p.size = 0) : fitsP p s = decide (s.size = 0) := by
  unfold fitsP
  rw [nil_list h, matchL_end]
  cases hs : s.data.toList with
  | nil => rw [decide_eq_true (by rw [← List.length_nil (α := UInt8), ← hs]; simp)]; rfl
  | cons a l => rw [decide_eq_false (by intro h0; rw [nil_list h0] at hs; cases hs)]; rfl
theorem fitsP_star_end {p s : ByteArray} (hp : 0 < p.size) (hs : s.size = 0) (h : (p[0].toNat : Int) = 42) : fitsP p s = fitsP (tailS p) s := by
  unfold fitsP
  rw [head_list p hp, nil_list hs, matchL_star_end h]
theorem fitsP_star {p s : ByteArray} (hp : 0 < p.size) (hs : 0 < s.size) (h : (p[0].toNat : Int) = 42) : fitsP p s = (fitsP (tailS p) s || fitsP p (tailS s)) := by
  unfold fitsP
  rw [head_list p hp, head_list s hs, matchL_star h]
theorem fitsP_byte_end {p s : ByteArray} (hp : 0 < p.size) (hs : s.size = 0) (h : ¬ (p[0].toNat : Int) = 42) : fitsP p s = false := by
  unfold fitsP
  rw [head_list p hp, nil_list hs, matchL_byte_end h]
theorem fitsP_byte {p s : ByteArray} (hp : 0 < p.size) (hs : 0 < s.size) (h : ¬ (p[0].toNat : Int) = 42) : fitsP p s = (byteP (p[0].toNat : Int) (s[0].toNat : Int) && fitsP (tailS p) (tailS s)) := by
  unfold fitsP
  rw [head_list p hp, head_list s hs, matchL_byte h]
theorem allSmall_tail {s : ByteArray} (h : allSmall s.data.toList = true) : allSmall (tailS s).data.toList = true := by
  unfold allSmall at *
  rw [tailS_list, List.all_eq_true] at *
  exact fun x hx => h x (List.drop_subset _ _ hx)
theorem allSmall_head {s : ByteArray} (h : allSmall s.data.toList = true) (h0 : 0 < s.size) : smallB (s[0].toNat : Int) = true := by
  unfold allSmall at h
  rw [List.all_eq_true] at h
  exact h _ (at_mem s 0 h0)
theorem allPat_tail {s : ByteArray} (h : allPat s.data.toList = true) : allPat (tailS s).data.toList = true := by
  unfold allPat at *
  rw [tailS_list, List.all_eq_true] at *
  exact fun x hx => h x (List.drop_subset _ _ hx)
theorem isWordB_small {s : ByteArray} (h : isWordB s.data.toList = true) : allSmall s.data.toList = true := by
  unfold isWordB at h
  simp only [Bool.and_eq_true] at h
  exact h.1.1
end Go.Proofs.Ytpjekfebpgjgnaa
