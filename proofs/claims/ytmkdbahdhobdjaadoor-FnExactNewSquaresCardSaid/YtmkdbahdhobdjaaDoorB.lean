/-
  Plain facts on tile sets: what is valid; no program in sight.
-/
import Derived.Test.YtmkdbahdhobdjaaDoorA
namespace Go.Proofs.YtmkdbahdhobdjaaDoor
open Go.RowKit

/-- A text's byte as a number; 0 behind its end. -/
def byteAt (l : List UInt8) (k : Nat) : Int := ((l.getD k 0).toNat : Int)
/-- The byte ahead of a place; 0 ahead of the first one. -/
def lastAt (l : List UInt8) (k : Nat) : Int := if k = 0 then 0 else byteAt l (k - 1)
theorem byteAt_eq (s : ByteArray) (k : Nat) (h : k < s.size) : byteAt s.data.toList k = ((s[k]'h).toNat : Int) := by
  unfold byteAt
  rw [List.getD_eq_getElem?_getD, at_get s k h]
  rfl
theorem byteAt_nonneg (l : List UInt8) (k : Nat) : 0 ≤ byteAt l k := by unfold byteAt; omega
theorem byteAt_lt (l : List UInt8) (k : Nat) : byteAt l k < 256 := by
  unfold byteAt
  have := (l.getD k 0).toNat_lt
  omega
theorem lastAt_zero (l : List UInt8) : lastAt l 0 = 0 := rfl
theorem lastAt_succ (l : List UInt8) (k : Nat) : lastAt l (k + 1) = byteAt l k := by simp [lastAt]
theorem lastAt_nonneg (l : List UInt8) (k : Nat) : 0 ≤ lastAt l k := by
  cases k with
  | zero => exact Int.le_refl _
  | succ k => rw [lastAt_succ]; exact byteAt_nonneg _ _
theorem lastAt_lt (l : List UInt8) (k : Nat) : lastAt l k < 256 := by
  cases k with
  | zero => rw [lastAt_zero]; omega
  | succ k => rw [lastAt_succ]; exact byteAt_lt _ _

/-- The letter at a place is small, and greater than the one ahead of it. -/
def letterB (l : List UInt8) (k : Nat) : Bool := smallB (byteAt l k) && decide (lastAt l k < byteAt l k)
def lettersTo (l : List UInt8) (k : Nat) : Bool := (List.range k).all (letterB l)
/-- The value and the count at a place are within bounds. -/
def numB (zv zc : List Int) (k : Nat) : Bool := inB (zv.getD k 0) 0 20 && inB (zc.getD k 0) 1 20
def numsTo (zv zc : List Int) (k : Nat) : Bool := (List.range k).all (numB zv zc)
theorem lettersTo_succ (l : List UInt8) (k : Nat) : lettersTo l (k + 1) = (lettersTo l k && letterB l k) := by simp [lettersTo, List.range_succ]
theorem numsTo_succ (zv zc : List Int) (k : Nat) : numsTo zv zc (k + 1) = (numsTo zv zc k && numB zv zc k) := by simp [numsTo, List.range_succ]
theorem lettersTo_not {l : List UInt8} {k n : Nat} (hk : k < n) (h : letterB l k = false) : lettersTo l n = false := by
  rw [Bool.eq_false_iff]
  intro ha
  unfold lettersTo at ha
  rw [List.all_eq_true] at ha
  have := ha k (List.mem_range.2 hk)
  rw [h] at this
  cases this
theorem numsTo_not {zv zc : List Int} {k n : Nat} (hk : k < n) (h : numB zv zc k = false) : numsTo zv zc n = false := by
  rw [Bool.eq_false_iff]
  intro ha
  unfold numsTo at ha
  rw [List.all_eq_true] at ha
  have := ha k (List.mem_range.2 hk)
  rw [h] at this
  cases this
/-- Rising small letters are 26 at most. -/
theorem letters_rise {l : List UInt8} : ∀ {k : Nat}, lettersTo l (k + 1) = true → 97 + (k : Int) ≤ byteAt l k ∧ byteAt l k ≤ 122
  | 0, h => by
    rw [lettersTo_succ] at h
    simp only [Bool.and_eq_true, letterB, smallB_iff] at h
    omega
  | k + 1, h => by
    rw [lettersTo_succ] at h
    simp only [Bool.and_eq_true] at h
    have ih := letters_rise h.1
    have h2 := h.2
    simp only [letterB, Bool.and_eq_true, smallB_iff, lastAt_succ, decide_eq_true_eq] at h2
    omega
theorem letters_few {l : List UInt8} {n : Nat} (h : lettersTo l n = true) : n ≤ 26 := by
  cases n with
  | zero => omega
  | succ n => have := letters_rise h; omega

/-- A tile set is valid. -/
def okT (l : List UInt8) (zv zc : List Int) (b : Int) : Bool :=
  decide (1 ≤ l.length) && decide (zv.length = l.length) && decide (zc.length = l.length) && inB b 0 4 && lettersTo l l.length && numsTo zv zc l.length && decide (b + zc.sum ≤ 120)
theorem okT_yes {l : List UInt8} {zv zc : List Int} {b : Int} (h1 : 1 ≤ l.length) (h2 : zv.length = l.length) (h3 : zc.length = l.length) (h4 : inB b 0 4 = true) (h5 : lettersTo l l.length = true) (h6 : numsTo zv zc l.length = true) :
    okT l zv zc b = decide (b + zc.sum ≤ 120) := by
  unfold okT
  rw [decide_eq_true h1, decide_eq_true h2, decide_eq_true h3, h4, h5, h6]
  rfl
theorem okT_empty {l : List UInt8} {zv zc : List Int} {b : Int} (h : l.length = 0) : okT l zv zc b = false := by
  unfold okT
  rw [decide_eq_false (p := 1 ≤ l.length) (by omega)]
  rfl
theorem okT_long {l : List UInt8} {zv zc : List Int} {b : Int} (h : 26 < l.length) : okT l zv zc b = false := by
  have : lettersTo l l.length = false := by
    cases hb : lettersTo l l.length
    · rfl
    · have := letters_few hb; omega
  simp [okT, this]
theorem okT_values {l : List UInt8} {zv zc : List Int} {b : Int} (h : ¬ zv.length = l.length) : okT l zv zc b = false := by simp [okT, h]
theorem okT_counts {l : List UInt8} {zv zc : List Int} {b : Int} (h : ¬ zc.length = l.length) : okT l zv zc b = false := by simp [okT, h]
theorem okT_blanks {l : List UInt8} {zv zc : List Int} {b : Int} (h : inB b 0 4 = false) : okT l zv zc b = false := by simp [okT, h]
theorem okT_letters {l : List UInt8} {zv zc : List Int} {b : Int} (h : lettersTo l l.length = false) : okT l zv zc b = false := by simp [okT, h]
theorem okT_nums {l : List UInt8} {zv zc : List Int} {b : Int} (h : numsTo zv zc l.length = false) : okT l zv zc b = false := by simp [okT, h]
theorem numB_parts {zv zc : List Int} {k : Nat} : numB zv zc k = true ↔ (0 ≤ zv.getD k 0 ∧ zv.getD k 0 ≤ 20) ∧ (1 ≤ zc.getD k 0 ∧ zc.getD k 0 ≤ 20) := by
  simp only [numB, Bool.and_eq_true, inB_iff]
theorem numB_no {zv zc : List Int} {k : Nat} (h : ¬ ((0 ≤ zv.getD k 0 ∧ zv.getD k 0 ≤ 20) ∧ (1 ≤ zc.getD k 0 ∧ zc.getD k 0 ≤ 20))) : numB zv zc k = false := by
  cases hb : numB zv zc k
  · rfl
  · exact absurd (numB_parts.1 hb) h
theorem sum_snoc (zs : List Int) (k : Nat) (h : k < zs.length) : (zs.take (k + 1)).sum = (zs.take k).sum + zs.getD k 0 := by
  rw [List.take_succ_eq_append_getElem h, List.sum_append]
  simp [List.getD_eq_getElem?_getD, List.getElem?_eq_getElem h]
/-- The counts of the first k letters are k at least and 20 k at most. -/
theorem sum_bounds {zv zc : List Int} : ∀ {k : Nat}, k ≤ zc.length → numsTo zv zc k = true → (k : Int) ≤ (zc.take k).sum ∧ (zc.take k).sum ≤ 20 * (k : Int)
  | 0, _, _ => by simp
  | k + 1, hk, h => by
    rw [numsTo_succ, Bool.and_eq_true] at h
    have ih := sum_bounds (by omega : k ≤ zc.length) h.1
    have h2 := (numB_parts.1 h.2).2
    rw [sum_snoc zc k (by omega)]
    omega

/-- What a valid tile set is. -/
theorem okT_facts {L : ByteArray} {zv zc : List Int} {b : Int} (h : okT L.data.toList zv zc b = true) :
    1 ≤ L.size ∧ L.size ≤ 26 ∧ zv.length = L.size ∧ zc.length = L.size ∧ (0 ≤ b ∧ b ≤ 4) ∧ lettersTo L.data.toList L.size = true ∧ numsTo zv zc L.size = true ∧ b + zc.sum ≤ 120 := by
  have hl : L.data.toList.length = L.size := by simp
  simp only [okT, Bool.and_eq_true, decide_eq_true_eq, hl, inB_iff] at h
  obtain ⟨⟨⟨⟨⟨⟨h1, h2⟩, h3⟩, h4⟩, h5⟩, h6⟩, h7⟩ := h
  exact ⟨h1, letters_few h5, h2, h3, h4, h5, h6, h7⟩

end Go.Proofs.YtmkdbahdhobdjaaDoor
