/-
  Words that arise when a letter is taken, and words that differ in one letter: plain facts, the model's functions and the program's.
  Words that arise when a letter is taken, words that differ in one letter: the program's; the codes of a lexicon and a word.
-/
import Derived.Test.YtdleinognmdfmaaDoorUA
import Derived.Test.YtdleinognmdfmaaDoorB
import Derived.Test.YtdleinognmdfmaaDoorL0
import Derived.Deep.QuietTactic
import Derived.Test.YtdleinognmdfmaaDoorL5
namespace Go.Proofs.YtdleinognmdfmaaDoor
open Go.RowKit

structure ShE (p : Prop) : Prop where
  out : p
/-- A string without its byte at i. -/
def dropAt (s : ByteArray) (i : Nat) : ByteArray := s.extract 0 i ++ s.extract (i + 1) s.size
def lessTo (short long : ByteArray) (k : Nat) : Bool := (List.range k).any fun i => (dropAt long i).toList == short.toList
/-- Whether the first string arises when a byte is taken from the second. -/
def lessS (short long : ByteArray) : Bool := lessTo short long long.size
theorem lessTo_succ (short long : ByteArray) (k : Nat) : lessTo short long (k + 1) = (lessTo short long k || ((dropAt long k).toList == short.toList)) := by simp [lessTo, List.range_succ]
theorem dropAt_size {s : ByteArray} {i : Nat} (h : i < s.size) : (dropAt s i).size + 1 = s.size := by
  unfold dropAt
  rw [ByteArray.size_append, ByteArray.size_extract, ByteArray.size_extract]
  omega
theorem lessTo_found {short long : ByteArray} {k : Nat} (hk : k < long.size) (h : ((dropAt long k).toList == short.toList) = true) : lessS short long = true := by
  unfold lessS lessTo
  rw [List.any_eq_true]
  exact ⟨k, List.mem_range.2 hk, h⟩
theorem same_of {a b : ByteArray} (h : (a.toList == b.toList) = true) : a = b := by
  by_cases e : a = b
  · exact e
  · rw [strNe e] at h; cases h
theorem lessS_size {short long : ByteArray} (h : ¬ short.size + 1 = long.size) : lessS short long = false := by
  rw [Bool.eq_false_iff]
  intro ha
  unfold lessS lessTo at ha
  rw [List.any_eq_true] at ha
  obtain ⟨i, hi, he⟩ := ha
  have h1 := congrArg ByteArray.size (same_of he)
  have := dropAt_size (List.mem_range.1 hi)
  omega
def byteS (s : ByteArray) (i : Nat) : Int := byteAt s.data.toList i
def diffN (a b : ByteArray) (k : Nat) : Nat := (List.range k).countP fun i => decide (byteS a i ≠ byteS b i)
/-- Whether two strings differ in exactly one byte. -/
def nearS (a b : ByteArray) : Bool := decide (a.size = b.size) && decide (diffN a b a.size = 1)
theorem diffN_succ (a b : ByteArray) (k : Nat) : diffN a b (k + 1) = diffN a b k + (if byteS a k ≠ byteS b k then 1 else 0) := by
  unfold diffN
  rw [List.range_succ, List.countP_append, List.countP_singleton]
  simp
theorem diffN_comm (a b : ByteArray) (k : Nat) : diffN a b k = diffN b a k := by
  unfold diffN
  congr 1
  funext i
  exact decide_eq_decide.2 ⟨fun h e => h e.symm, fun h e => h e.symm⟩
theorem nearS_comm (a b : ByteArray) : nearS a b = nearS b a := by
  unfold nearS
  by_cases h : a.size = b.size
  · rw [decide_eq_true h, decide_eq_true h.symm, diffN_comm, h]
  · have h' : ¬ b.size = a.size := fun e => h e.symm
    simp [h, h']
theorem nearS_size {a b : ByteArray} (h : ¬ a.size = b.size) : nearS a b = false := by simp [nearS, h]
theorem nearS_same {a b : ByteArray} (h : a.size = b.size) : nearS a b = (((diffN a b a.size : Nat) : Int) == 1) := by
  unfold nearS
  rw [decide_eq_true h, Bool.true_and, Bool.eq_iff_iff, decide_eq_true_eq, beq_iff_eq]
  omega
theorem diffN_le (a b : ByteArray) (k : Nat) : diffN a b k ≤ k := by
  unfold diffN
  exact Nat.le_trans List.countP_le_length (by simp)

theorem extract_mid {s : ByteArray} {k : Nat} (h : k < s.size) : (s.extract 0 k).size + (s.extract (k + 1) s.size).size + 1 = s.size := by
  rw [ByteArray.size_extract, ByteArray.size_extract]
  omega
end Go.Proofs.YtdleinognmdfmaaDoor

namespace Go.Proofs.YtdleinognmdfmaaDoor
open Go.RowKit

theorem small_at {s : ByteArray} (h : allSmall s.data.toList = true) {k : Nat} (hk : k < s.size) : smallB ((s[k]'hk).toNat : Int) = true := by
  unfold allSmall at h
  rw [List.all_eq_true] at h
  exact h _ (at_mem s k hk)
theorem iter_drawn (w : World) (s : ByteArray) (k n : Nat) : (w.iter s k).drewN n = (w.drewN n).iter s k := rfl
theorem iter_more (w : World) (s : ByteArray) (k m n : Nat) : ((w.drewN m).iter s k).drewN n = (w.drewN (m + n)).iter s k := by rw [iter_drawn, World.drewN_drewN]
theorem iter_pos (w : World) (s : ByteArray) (k m : Nat) : ((w.drewN m).iter s k).iterPos w.heap.size = k := by
  exact World.iterPos_iter (w.drewN m) s k
theorem iter_pos2 (w : World) (s : ByteArray) (k m n : Nat) : (((w.drewN m).iter s k).drewN n).iterPos w.heap.size = k := by rw [iter_more]; exact iter_pos _ _ _ _
theorem iter_below (w : World) (s : ByteArray) (k m : Nat) : Below w.heap.size w ((w.drewN m).iter s k) := (below_drewN (Below.refl w.heap.size w) m).trans (below_iter (w := w.drewN m) s k)

/-- The code of a lexicon and a word. -/
def codeW (us : List ByteArray) (s : ByteArray) : Int := if okL us = false then 1 else if isWordB s.data.toList = false then 7 else 0
theorem codeW_bad {us : List ByteArray} {s : ByteArray} (h : okL us = false) : codeW us s = 1 := by simp [codeW, h]
theorem codeW_word {us : List ByteArray} {s : ByteArray} (h : okL us = true) (h2 : isWordB s.data.toList = false) : codeW us s = 7 := by simp [codeW, h, h2]
theorem codeW_yes {us : List ByteArray} {s : ByteArray} (h : okL us = true) (h2 : isWordB s.data.toList = true) : codeW us s = 0 := by simp [codeW, h, h2]
theorem wordF {s : ByteArray} {b : Bool} (h : isWordB s.data.toList = b) (w : World) (hs : s.size ≤ 1048576) : Calls Tryd.prog 63 #[.string s] w fun e w' => e = .returned (.bool b) ∧ w = w' := by
  rw [← h]; exact specIsWord_any s w (by unfold maxLen; omega)
theorem wordI {s : ByteArray} {b : Bool} (h : isWordB s.data.toList = b) (w : World) (hs : s.size ≤ 1048576) : Calls Tryd.prog 19 #[.string s] w fun e w' => e = .returned (.bool b) ∧ Below w.heap.size w w' := by
  rw [← h]; exact implIsWord_any s w (by unfold maxLen; omega)
end Go.Proofs.YtdleinognmdfmaaDoor
