/-
  Plain facts on texts cut at a byte: the model's pieces and the library's fields are the same, but for empty pieces.
-/
import Derived.Test.YtpjekfebpgjgnaaA
import Derived.Test.YtpjekfebpgjgnaaB
import Derived.Lib.FieldsP
namespace Go.Proofs.Ytpjekfebpgjgnaa
open Go.RowKit

theorem decode_rest (s : ByteArray) (pos : Nat) : ∀ j, 0 < j → j < (Utf8.decode s pos).2 → pos + j < s.size ∧ 128 ≤ (s.get! (pos + j)).toNat := by
  intro j h0 hj
  simp only [Utf8.decode] at hj
  split at hj
  · simp at hj; omega
  · split at hj
    · rename_i h
      simp only [Bool.and_eq_true, decide_eq_true_eq, beq_iff_eq] at h
      split at hj
      · simp at hj
        obtain rfl : j = 1 := by omega
        omega
      · simp at hj; omega
    · split at hj
      · rename_i h
        simp only [Bool.and_eq_true, decide_eq_true_eq, beq_iff_eq] at h
        split at hj
        · simp at hj
          have : j = 1 ∨ j = 2 := by omega
          rcases this with rfl | rfl <;> omega
        · simp at hj; omega
      · split at hj
        · rename_i h
          simp only [Bool.and_eq_true, decide_eq_true_eq, beq_iff_eq] at h
          split at hj
          · simp at hj
            have : j = 1 ∨ j = 2 ∨ j = 3 := by omega
            rcases this with rfl | rfl | rfl <;> omega
          · simp at hj; omega
        · simp at hj; omega
theorem get_at (s : ByteArray) (k : Nat) (h : k < s.size) : s.get! k = s[k]'h := by
  simp [ByteArray.get!, getElem!_pos, h]
  rfl

/-- The cuts of a text at byte c up to place k: the pieces that are closed, and where the open one begins. -/
def cutTo (s : ByteArray) (c : Int) : Nat → List (Nat × Nat) × Nat
  | 0 => ([], 0)
  | k + 1 => if byteAt s.data.toList k = c then ((cutTo s c k).1 ++ [((cutTo s c k).2, k)], k + 1) else cutTo s c k
theorem cutTo_yes {s : ByteArray} {c : Int} {k : Nat} (h : byteAt s.data.toList k = c) : cutTo s c (k + 1) = ((cutTo s c k).1 ++ [((cutTo s c k).2, k)], k + 1) := if_pos h
theorem cutTo_no {s : ByteArray} {c : Int} {k : Nat} (h : ¬ byteAt s.data.toList k = c) : cutTo s c (k + 1) = cutTo s c k := if_neg h
theorem cut_le (s : ByteArray) (c : Int) : ∀ k, (cutTo s c k).2 ≤ k ∧ (cutTo s c k).1.length ≤ k ∧ ∀ x ∈ (cutTo s c k).1, x.1 ≤ x.2 ∧ x.2 ≤ k
  | 0 => ⟨Nat.le_refl _, Nat.le_refl _, by simp [cutTo]⟩
  | k + 1 => by
    obtain ⟨h1, h2, h3⟩ := cut_le s c k
    by_cases h : byteAt s.data.toList k = c
    · rw [cutTo_yes h]
      refine ⟨Nat.le_refl _, by simp; omega, fun x hx => ?_⟩
      simp only [List.mem_append, List.mem_singleton] at hx
      rcases hx with hx | rfl
      · have := h3 x hx; omega
      · simp only; omega
    · rw [cutTo_no h]
      exact ⟨by omega, by omega, fun x hx => by have := h3 x hx; omega⟩
/-- All pieces of a text. -/
def cuts (s : ByteArray) (c : Int) : List (Nat × Nat) := (cutTo s c s.size).1 ++ [((cutTo s c s.size).2, s.size)]
def full (l : List (Nat × Nat)) : List (Nat × Nat) := l.filter fun x => decide (x.1 < x.2)
/-- Where an open piece begins, if it has a byte already. -/
def openAt (s : ByteArray) (c : Int) (k : Nat) : Option Nat := if (cutTo s c k).2 < k then some (cutTo s c k).2 else none

theorem full_snoc (l : List (Nat × Nat)) (a b : Nat) : full (l ++ [(a, b)]) = if a < b then full l ++ [(a, b)] else full l := by
  unfold full
  rw [List.filter_append]
  by_cases h : a < b <;> simp [h]
theorem open_no {s : ByteArray} {c : Int} {k : Nat} (h : ¬ byteAt s.data.toList k = c) : openAt s c (k + 1) = some ((openAt s c k).getD k) ∧ full (cutTo s c (k + 1)).1 = full (cutTo s c k).1 := by
  have hl := (cut_le s c k).1
  unfold openAt
  rw [cutTo_no h, if_pos (by omega)]
  refine ⟨?_, rfl⟩
  by_cases h2 : (cutTo s c k).2 < k
  · rw [if_pos h2]; rfl
  · rw [if_neg h2]
    have : (cutTo s c k).2 = k := by omega
    rw [this]; rfl
theorem open_yes {s : ByteArray} {c : Int} {k : Nat} (h : byteAt s.data.toList k = c) : openAt s c (k + 1) = none ∧
    full (cutTo s c (k + 1)).1 = (match openAt s c k with | some a => full (cutTo s c k).1 ++ [(a, k)] | none => full (cutTo s c k).1) := by
  unfold openAt
  rw [cutTo_yes h]
  refine ⟨by simp, ?_⟩
  simp only [full_snoc]
  by_cases h2 : (cutTo s c k).2 < k
  · rw [if_pos h2, if_pos h2]
  · rw [if_neg h2, if_neg h2]
/-- A run of bytes that do not cut leaves the open piece open. -/
theorem open_run {s : ByteArray} {c : Int} {k : Nat} : ∀ (n : Nat), (∀ j, j < n → ¬ byteAt s.data.toList (k + j) = c) → 0 < n → openAt s c (k + n) = some ((openAt s c k).getD k) ∧ full (cutTo s c (k + n)).1 = full (cutTo s c k).1
  | 0, _, h => by omega
  | 1, h, _ => open_no (h 0 (by omega))
  | n + 2, h, _ => by
    have ih := open_run (n + 1) (fun j hj => h j (by omega)) (by omega)
    have h2 := open_no (h (n + 1) (by omega))
    rw [show k + (n + 2) = k + (n + 1) + 1 by omega, h2.1, h2.2, ih.1, ih.2]
    exact ⟨rfl, rfl⟩

theorem width_one (s : ByteArray) (pos : Nat) : 1 ≤ (Utf8.decode s pos).2 := by
  simp only [Utf8.decode]
  repeat' split
  all_goals simp
/-- The library's loop over runes goes over the same cuts, where the byte is one of ASCII. -/
theorem spans_cuts (s : ByteArray) (p : Nat → Bool) (c : Nat) (hc : c < 128) (hp : ∀ x, p x = decide (x = c)) : ∀ (f pos : Nat), s.size ≤ pos + f → pos ≤ s.size →
    Lib.spansFromP p s f pos (openAt s c pos) (full (cutTo s c pos).1) = (full (cutTo s c s.size).1, openAt s c s.size)
  | 0, pos, hf, hpos => by
    obtain rfl : pos = s.size := by omega
    rfl
  | f + 1, pos, hf, hpos => by
    unfold Lib.spansFromP
    by_cases hlt : pos < s.size
    · rw [if_pos hlt]
      have hb := byteAt_eq s pos hlt
      have hw := width_one s pos
      rw [hp]
      by_cases he : (Utf8.decode s pos).1 = c
      · have ha : (s[pos]'hlt).toNat < 128 := by
          rcases Nat.lt_or_ge (s[pos]'hlt).toNat 128 with h | h
          · exact h
          · have := (decode_high s pos hlt h).1; omega
        have hd := decode_ascii s pos hlt ha
        have hyes : byteAt s.data.toList pos = (c : Int) := by rw [hb, ← he, hd]
        obtain ⟨o1, o2⟩ := open_yes hyes
        rw [decide_eq_true he, if_pos rfl, hd]
        simp only
        rw [← spans_cuts s p c hc hp f (pos + 1) (by omega) (by omega), o1, o2]
        cases openAt s c pos <;> rfl
      · have hall : ∀ j, j < (Utf8.decode s pos).2 → ¬ byteAt s.data.toList (pos + j) = (c : Int) := by
          intro j hj hcc
          rcases Nat.eq_zero_or_pos j with h0 | h0
          · subst h0
            rw [Nat.add_zero, hb] at hcc
            have hd := decode_ascii s pos hlt (by omega)
            rw [hd] at he
            simp only at he
            omega
          · obtain ⟨h1, h2⟩ := decode_rest s pos j h0 hj
            rw [byteAt_eq s (pos + j) h1, ← get_at s (pos + j) h1] at hcc
            omega
        have hin : pos + (Utf8.decode s pos).2 ≤ s.size := by
          rcases Nat.lt_or_ge 1 (Utf8.decode s pos).2 with h1 | h1
          · have := (decode_rest s pos ((Utf8.decode s pos).2 - 1) (by omega) (by omega)).1
            omega
          · omega
        obtain ⟨o1, o2⟩ := open_run (s := s) (c := (c : Int)) (k := pos) _ hall (by omega)
        rw [decide_eq_false he, if_neg (by simp)]
        rw [← spans_cuts s p c hc hp f (pos + (Utf8.decode s pos).2) (by omega) hin, o1, o2]
        cases openAt s c pos <;> rfl
    · obtain rfl : pos = s.size := by omega
      rw [if_neg (by omega)]
theorem fields_cuts (s : ByteArray) (p : Nat → Bool) (c : Nat) (hc : c < 128) (hp : ∀ x, p x = decide (x = c)) : Lib.goFieldsP p s = (full (cuts s c)).map fun x => s.extract x.1 x.2 := by
  have h := spans_cuts s p c hc hp s.size 0 (by omega) (by omega)
  unfold Lib.goFieldsP Lib.spansOfP
  have e : Lib.spansFromP p s s.size 0 none [] = (full (cutTo s c s.size).1, openAt s c s.size) := h
  rw [e]
  congr 1
  unfold Lib.closeSpans cuts openAt
  rw [full_snoc]
  have hl := (cut_le s (c : Int) s.size).1
  by_cases h2 : (cutTo s (c : Int) s.size).2 < s.size
  · rw [if_pos h2, if_pos h2]
  · rw [if_neg h2, if_neg h2]

end Go.Proofs.Ytpjekfebpgjgnaa
