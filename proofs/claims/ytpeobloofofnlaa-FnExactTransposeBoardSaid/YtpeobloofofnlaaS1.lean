/-
  The laws' helpers on lists of strings: marks, comparisons.
-/
import Derived.Test.YtpeobloofofnlaaC1
import Derived.Test.YtpeobloofofnlaaK1
import Derived.Test.YtpeobloofofnlaaT0
import Derived.Deep.RegionWith
import Derived.Deep.QuietTactic
import Derived.BigQuiet
namespace Go.Proofs.Ytpeobloofofnlaa
open Go.RowKit

/-- The digits of a number, the least one last; none for 0. -/
def digs : Nat → Nat → List UInt8
  | 0, _ => []
  | f + 1, n => if n = 0 then [] else digs f (n / 10) ++ [48 + UInt8.ofNat (n % 10)]
theorem digs_more : ∀ (f n : Nat), n ≤ f → digs (f + 1) n = digs f n
  | 0, n, h => by
    obtain rfl : n = 0 := by omega
    rfl
  | f + 1, n, h => by
    unfold digs
    by_cases h0 : n = 0
    · rw [if_pos h0, if_pos h0]
    · rw [if_neg h0, if_neg h0, digs_more f (n / 10) (by omega)]
theorem digs_any : ∀ (g f n : Nat), n ≤ f → digs (f + g) n = digs f n
  | 0, _, _, _ => rfl
  | g + 1, f, n, h => by rw [← Nat.add_assoc, digs_more (f + g) n (by omega), digs_any g f n h]
/-- The digits of a number. -/
def digits (n : Nat) : List UInt8 := digs n n
theorem digits_zero : digits 0 = [] := rfl
theorem digits_step {n : Nat} (h : 0 < n) : digits n = digits (n / 10) ++ [48 + UInt8.ofNat (n % 10)] := by
  obtain ⟨m, rfl⟩ : ∃ m, n = m + 1 := ⟨n - 1, by omega⟩
  have e : digits (m + 1) = digs m ((m + 1) / 10) ++ [48 + UInt8.ofNat ((m + 1) % 10)] := by
    unfold digits
    rw [digs, if_neg (by omega)]
  rw [e]
  congr 1
  unfold digits
  have h2 : (m + 1) / 10 ≤ m := by omega
  obtain ⟨g, hg⟩ : ∃ g, m = (m + 1) / 10 + g := ⟨m - (m + 1) / 10, by omega⟩
  have h3 := digs_any g ((m + 1) / 10) ((m + 1) / 10) (Nat.le_refl _)
  rw [← hg] at h3
  exact h3

/-- One byte ahead of a text. -/
theorem cat_one (c : UInt8) (s : List UInt8) : (⟨#[c]⟩ ++ ⟨s.toArray⟩ : ByteArray) = ⟨(c :: s).toArray⟩ := by
  apply Go.WideShapes.bytes_inj
  simp
/-- A text of one byte out of a row of one cell. -/
theorem one_byte (W : World) (x : Int) : (convert 22 9 (.slice (some ⟨W.heap.size, 0, none⟩) 1 1)).run Try.prog (W.alloc (.cells #[.int .u8 x] 5)) = .ok (.string ⟨#[UInt8.ofNat x.toNat]⟩) (W.alloc (.cells #[.int .u8 x] 5)) := by
  rw [run_convert_bytes_string _ 22 9 5 _ _ _ Try.underlying22 Try.underlying5 Try.underlying9]
  have h := run_bytesToString (P := Try.prog) (W.alloc (.cells #[.int .u8 x] 5)) ⟨W.heap.size, 0, none⟩ 1 1 [x] (by
    have hb : Blk (W.alloc (.cells #[.int .u8 x] 5)) W.heap.size 5 #[.int .u8 x] := heap_alloc_new W _
    have := run_loadCells_list (P := Try.prog) (w := W.alloc (.cells #[.int .u8 x] 5)) ⟨W.heap.size, 0, none⟩ [.int .u8 x] (by
      intro j v hj
      have hj0 : j = 0 := by
        rcases Nat.lt_or_ge j 1 with h | h
        · omega
        · rw [List.getElem?_eq_none (by simpa using h)] at hj; cases hj
      subst hj0
      simp at hj
      subst hj
      show World.cell? _ ⟨W.heap.size, 0, none⟩ = _
      rw [hb.cells 0]
      rfl)
    exact this)
  rw [h]
  rfl



theorem grown_below {w wr w1 : World} {row : Option Nat} (h : w.grownBy wr row) (hb : Below wr.heap.size wr w1) : w.grownBy w1 row :=
  ⟨hb.os.trans h.os, hb.tape.trans h.tape, hb.output.trans h.output, Nat.le_trans h.size hb.size, fun i hi hn => (hb.block i (Nat.lt_of_lt_of_le hi h.size)).trans (h.block i hi hn)⟩
theorem grown_store {w wr : World} {g : Nat} (h : w.grownBy wr (some g)) (j : Nat) (u : Value) : w.grownBy (wr.setCell ⟨g, j, none⟩ u) (some g) :=
  ⟨h.os, h.tape, h.output, by simpa [World.setCell] using h.size, fun i hi hn => (Below.heap_setCell wr ⟨g, j, none⟩ u i (fun e => hn (by rw [e]))).trans (h.block i hi hn)⟩

/-! ### Marks -/
def markB (k : Nat) : ByteArray := ⟨(109 :: digits k).toArray⟩
def marks (k n : Nat) : List ByteArray := (List.range n).map fun i => markB (k + i)
theorem marks_len (k n : Nat) : (marks k n).length = n := by simp [marks]
theorem marks_at (k n j : Nat) (h : j < n) : strAt (marks k n) j = markB (k + j) := by
  unfold strAt marks
  simp [List.getD_eq_getElem?_getD, h]
/-- The row's cells behind j rounds of marking. -/
def markedTo (ss : List ByteArray) (k j : Nat) : List Value := (marks k j ++ ss.drop j).map Value.string
theorem marked_zero (ss : List ByteArray) (k : Nat) : markedTo ss k 0 = ss.map Value.string := by simp [markedTo, marks]
theorem marked_all (ss : List ByteArray) (k : Nat) : markedTo ss k ss.length = (marks k ss.length).map Value.string := by simp [markedTo]
theorem marked_at (ss : List ByteArray) (k j : Nat) (h : j < ss.length) : (markedTo ss k j)[j]? = some (.string (strAt ss j)) := by
  unfold markedTo strAt
  rw [List.getElem?_map, List.getElem?_append_right (by rw [marks_len]; omega), marks_len, Nat.sub_self, List.getElem?_drop]
  simp [List.getD_eq_getElem?_getD, List.getElem?_eq_getElem h]
theorem marked_set (ss : List ByteArray) (k j : Nat) (h : j < ss.length) : (markedTo ss k j).set j (.string (markB (k + j))) = markedTo ss k (j + 1) := by
  have e : marks k (j + 1) = marks k j ++ [markB (k + j)] := by simp [marks, List.range_succ]
  have hd : ss.drop j = strAt ss j :: ss.drop (j + 1) := by
    rw [List.drop_eq_getElem_cons h]
    simp [strAt, List.getD_eq_getElem?_getD, List.getElem?_eq_getElem h]
  unfold markedTo
  rw [hd, e, List.map_append, List.set_append_right _ _ (by simp [marks_len])]
  simp [marks_len]


theorem same_str (s : ByteArray) : (s.toList != s.toList) = false := by simp



end Go.Proofs.Ytpeobloofofnlaa
