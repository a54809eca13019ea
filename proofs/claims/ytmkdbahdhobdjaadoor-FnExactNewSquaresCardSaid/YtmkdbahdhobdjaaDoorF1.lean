/-
  Plain facts on affixes: what is valid, what matches, what is made; no program in sight.
-/
import Derived.Test.YtmkdbahdhobdjaaDoorB
import Derived.Test.YtmkdbahdhobdjaaDoorN2
namespace Go.Proofs.YtmkdbahdhobdjaaDoor
open Go.RowKit

/-! ### Parts -/
/-- A byte may stand in a part; periods only where they are allowed. -/
def dotB (d : Bool) (c : Int) : Bool := smallB c || (d && decide (c = 46))
def allDot (d : Bool) (l : List UInt8) : Bool := l.all fun c => dotB d (c.toNat : Int)
def partB (d : Bool) (s : ByteArray) : Bool := allDot d s.data.toList && decide (s.size ≤ 4)
theorem allDot_grows (d : Bool) (s : ByteArray) (k : Nat) (h : k < s.size) : allDot d (s.data.toList.take (k + 1)) = (allDot d (s.data.toList.take k) && dotB d (s[k].toNat : Int)) := by
  rw [take_grows s k h]
  simp [allDot]
theorem partB_not (d : Bool) (s : ByteArray) (k : Nat) (h : k < s.size) (hs : dotB d (s[k].toNat : Int) = false) : partB d s = false := by
  have : allDot d s.data.toList = false := by
    rw [Bool.eq_false_iff]
    intro hall
    unfold allDot at hall
    rw [List.all_eq_true] at hall
    have := hall _ (at_mem s k h)
    rw [hs] at this
    cases this
  simp [partB, this]
theorem partB_all {d : Bool} {s : ByteArray} (h : allDot d s.data.toList = true) : partB d s = decide (s.size ≤ 4) := by simp [partB, h]
theorem partB_long {d : Bool} {s : ByteArray} (h : 4 < s.size) : partB d s = false := by
  unfold partB
  rw [decide_eq_false (p := s.size ≤ 4) (by omega), Bool.and_false]
theorem partB_size {d : Bool} {s : ByteArray} (h : partB d s = true) : s.size ≤ 4 := by
  simp only [partB, Bool.and_eq_true, decide_eq_true_eq] at h
  exact h.2
theorem dotB_small {d : Bool} {c : Int} (h : smallB c = true) : dotB d c = true := by simp [dotB, h]
theorem dotB_dot {c : Int} (h : c = 46) : dotB true c = true := by simp [dotB, h]
theorem dotB_none {d : Bool} {c : Int} (h : smallB c = false) (h2 : ¬ c = 46) : dotB d c = false := by simp [dotB, h, h2]
theorem dotB_plain {c : Int} : dotB false c = smallB c := by simp [dotB]
theorem dotB_parts {c : Int} (h : dotB true c = false) : smallB c = false ∧ ¬ c = 46 := by
  simp only [dotB, Bool.true_and, Bool.or_eq_false_iff, decide_eq_false_iff_not] at h
  exact h
theorem dotB_high {d : Bool} {c : Int} (h : 128 ≤ c) : dotB d c = false := dotB_none (smallB_no (by omega)) (by omega)
theorem dotB_low {d : Bool} {c : Int} (h : dotB d c = true) : c < 128 := by
  rcases Int.lt_or_le c 128 with h1 | h1
  · exact h1
  · rw [dotB_high h1] at h; cases h

/-! ### Affixes -/
/-- An affix is valid. -/
def affB (n w s a : ByteArray) : Bool := isNameB n.data.toList && partB true w && partB false s && partB false a && (s.toList != a.toList)
structure AffFacts (n w s a : ByteArray) : Prop where
  name : isNameB n.data.toList = true
  w4 : w.size ≤ 4
  s4 : s.size ≤ 4
  a4 : a.size ≤ 4
theorem affB_facts {n w s a : ByteArray} (h : affB n w s a = true) : AffFacts n w s a := by
  simp only [affB, Bool.and_eq_true] at h
  obtain ⟨⟨⟨⟨h1, h2⟩, h3⟩, h4⟩, _⟩ := h
  exact ⟨h1, partB_size h2, partB_size h3, partB_size h4⟩
theorem affB_name {n w s a : ByteArray} (h : isNameB n.data.toList = false) : affB n w s a = false := by simp [affB, h]
theorem affB_when {n w s a : ByteArray} (h : partB true w = false) : affB n w s a = false := by simp [affB, h]
theorem affB_strip {n w s a : ByteArray} (h : partB false s = false) : affB n w s a = false := by simp [affB, h]
theorem affB_add {n w s a : ByteArray} (h : partB false a = false) : affB n w s a = false := by simp [affB, h]
theorem affB_all {n w s a : ByteArray} (h1 : isNameB n.data.toList = true) (h2 : partB true w = true) (h3 : partB false s = true) (h4 : partB false a = true) : affB n w s a = (s.toList != a.toList) := by
  unfold affB
  rw [h1, h2, h3, h4]
  rfl

/-- A text is a long word. -/
def longB (s : ByteArray) : Bool := decide (2 ≤ s.size) && isWordB s.data.toList
theorem longB_short {s : ByteArray} (h : ¬ 2 ≤ s.size) : longB s = false := by
  unfold longB
  rw [decide_eq_false h, Bool.false_and]
theorem longB_word {s : ByteArray} (h : 2 ≤ s.size) : longB s = isWordB s.data.toList := by
  unfold longB
  rw [decide_eq_true h, Bool.true_and]
theorem isWordB_size {s : ByteArray} (h : isWordB s.data.toList = true) : s.size ≤ 12 := by
  have hl : s.data.toList.length = s.size := by simp
  simp only [isWordB, Bool.and_eq_true, decide_eq_true_eq, hl] at h
  exact h.2
theorem longB_size {s : ByteArray} (h : longB s = true) : 2 ≤ s.size ∧ s.size ≤ 12 := by
  simp only [longB, Bool.and_eq_true, decide_eq_true_eq] at h
  exact ⟨h.1, isWordB_size h.2⟩

/-! ### Ends of words -/
/-- The first or the last n bytes of a word. -/
def endX (f : Bool) (w : ByteArray) (n : Nat) : ByteArray := if f then w.extract 0 n else w.extract (w.size - n) w.size
/-- A word without them. -/
def restX (f : Bool) (w : ByteArray) (n : Nat) : ByteArray := if f then w.extract n w.size else w.extract 0 (w.size - n)
/-- A word with another first or last part. -/
def joinX (f : Bool) (r p : ByteArray) : ByteArray := if f then p ++ r else r ++ p
theorem endX_size (f : Bool) (w : ByteArray) {n : Nat} (h : n ≤ w.size) : (endX f w n).size = n := by
  unfold endX
  cases f
  · simp only [Bool.false_eq_true, if_false, ByteArray.size_extract]; omega
  · simp only [if_true, ByteArray.size_extract]; omega
theorem restX_size (f : Bool) (w : ByteArray) {n : Nat} (h : n ≤ w.size) : (restX f w n).size = w.size - n := by
  unfold restX
  cases f
  · simp only [Bool.false_eq_true, if_false, ByteArray.size_extract]; omega
  · simp only [if_true, ByteArray.size_extract]; omega
theorem joinX_size (f : Bool) (r p : ByteArray) : (joinX f r p).size = r.size + p.size := by
  unfold joinX
  cases f
  · simp only [Bool.false_eq_true, if_false, ByteArray.size_append]
  · simp only [if_true, ByteArray.size_append]; omega
/-- A word has a part at its end. -/
def fitX (f : Bool) (w p : ByteArray) : Bool := decide (p.size ≤ w.size) && ((endX f w p.size).toList == p.toList)
theorem fitX_long {f : Bool} {w p : ByteArray} (h : ¬ p.size ≤ w.size) : fitX f w p = false := by simp [fitX, h]
theorem fitX_short {f : Bool} {w p : ByteArray} (h : p.size ≤ w.size) : fitX f w p = ((endX f w p.size).toList == p.toList) := by
  unfold fitX
  rw [decide_eq_true h, Bool.true_and]
theorem fitX_size {f : Bool} {w p : ByteArray} (h : fitX f w p = true) : p.size ≤ w.size := by
  simp only [fitX, Bool.and_eq_true, decide_eq_true_eq] at h
  exact h.1
/-- Two bytes agree: the first one is a period, or they are the same. -/
def agreeB (x y : Int) : Bool := decide (x = 46) || decide (x = y)
def agreeTo (p q : ByteArray) (k : Nat) : Bool := (List.range k).all fun i => agreeB (byteAt p.data.toList i) (byteAt q.data.toList i)
theorem agreeTo_zero (p q : ByteArray) : agreeTo p q 0 = true := rfl
theorem agreeTo_succ (p q : ByteArray) (k : Nat) : agreeTo p q (k + 1) = (agreeTo p q k && agreeB (byteAt p.data.toList k) (byteAt q.data.toList k)) := by simp [agreeTo, List.range_succ]
theorem agreeTo_not {p q : ByteArray} {k n : Nat} (hk : k < n) (h : agreeB (byteAt p.data.toList k) (byteAt q.data.toList k) = false) : agreeTo p q n = false := by
  rw [Bool.eq_false_iff]
  intro ha
  unfold agreeTo at ha
  rw [List.all_eq_true] at ha
  have := ha k (List.mem_range.2 hk)
  rw [h] at this
  cases this
/-- A valid affix matches a long word. -/
def matchX (f : Bool) (w s word : ByteArray) : Bool := decide (w.size ≤ word.size) && agreeTo w (endX f word w.size) w.size && fitX f word s
theorem matchX_short {f : Bool} {w s word : ByteArray} (h : ¬ w.size ≤ word.size) : matchX f w s word = false := by simp [matchX, h]
theorem matchX_not {f : Bool} {w s word : ByteArray} (h : agreeTo w (endX f word w.size) w.size = false) : matchX f w s word = false := by simp [matchX, h]
theorem matchX_fit {f : Bool} {w s word : ByteArray} (h1 : w.size ≤ word.size) (h2 : agreeTo w (endX f word w.size) w.size = true) : matchX f w s word = fitX f word s := by
  unfold matchX
  rw [decide_eq_true h1, h2, Bool.true_and, Bool.true_and]
theorem matchX_fits {f : Bool} {w s word : ByteArray} (h : matchX f w s word = true) : fitX f word s = true := by
  simp only [matchX, Bool.and_eq_true] at h
  exact h.2

/-- What MatchesAffix tells. -/
def matchB (f : Bool) (n w s a word : ByteArray) : Bool := affB n w s a && longB word && matchX f w s word
theorem matchB_aff {f : Bool} {n w s a word : ByteArray} (h : affB n w s a = false) : matchB f n w s a word = false := by simp [matchB, h]
theorem matchB_long {f : Bool} {n w s a word : ByteArray} (h : longB word = false) : matchB f n w s a word = false := by simp [matchB, h]
theorem matchB_yes {f : Bool} {n w s a word : ByteArray} (h1 : affB n w s a = true) (h2 : longB word = true) : matchB f n w s a word = matchX f w s word := by
  unfold matchB
  rw [h1, h2]
  rfl

/-- A word and a code as a result. -/
def retX (p : ByteArray × Int) : Value := .tuple #[.string p.1, .int .i64 p.2]
/-- What an affix makes of a long word. -/
def applyX (f : Bool) (w s a word : ByteArray) : ByteArray × Int :=
  if matchX f w s word = true then (if longB (joinX f (restX f word s.size) a) = true then (joinX f (restX f word s.size) a, 0) else (ByteArray.empty, 2)) else (ByteArray.empty, 3)
theorem applyX_no {f : Bool} {w s a word : ByteArray} (h : matchX f w s word = false) : applyX f w s a word = (ByteArray.empty, 3) := by
  unfold applyX
  rw [if_neg (by rw [h]; exact fun e => by cases e)]
theorem applyX_short {f : Bool} {w s a word : ByteArray} (h : matchX f w s word = true) (h2 : longB (joinX f (restX f word s.size) a) = false) : applyX f w s a word = (ByteArray.empty, 2) := by
  unfold applyX
  rw [if_pos h, if_neg (by rw [h2]; exact fun e => by cases e)]
theorem applyX_yes {f : Bool} {w s a word : ByteArray} (h : matchX f w s word = true) (h2 : longB (joinX f (restX f word s.size) a) = true) : applyX f w s a word = (joinX f (restX f word s.size) a, 0) := by
  unfold applyX
  rw [if_pos h, if_pos h2]
def applyOut (f : Bool) (n w s a word : ByteArray) : ByteArray × Int :=
  if affB n w s a = true then (if longB word = true then applyX f w s a word else (ByteArray.empty, 7)) else (ByteArray.empty, 1)
theorem applyOut_aff {f : Bool} {n w s a word : ByteArray} (h : affB n w s a = false) : applyOut f n w s a word = (ByteArray.empty, 1) := by
  unfold applyOut
  rw [if_neg (by rw [h]; exact fun e => by cases e)]
theorem applyOut_long {f : Bool} {n w s a word : ByteArray} (h : affB n w s a = true) (h2 : longB word = false) : applyOut f n w s a word = (ByteArray.empty, 7) := by
  unfold applyOut
  rw [if_pos h, if_neg (by rw [h2]; exact fun e => by cases e)]
theorem applyOut_yes {f : Bool} {n w s a word : ByteArray} (h : affB n w s a = true) (h2 : longB word = true) : applyOut f n w s a word = applyX f w s a word := by
  unfold applyOut
  rw [if_pos h, if_pos h2]
/-- What UndoAffix tells. -/
def undoX (f : Bool) (w s a word : ByteArray) : ByteArray × Int :=
  if fitX f word a = true then (if longB (joinX f (restX f word a.size) s) && matchX f w s (joinX f (restX f word a.size) s) then (joinX f (restX f word a.size) s, 0) else (ByteArray.empty, 3)) else (ByteArray.empty, 3)
theorem undoX_fit {f : Bool} {w s a word : ByteArray} (h : fitX f word a = false) : undoX f w s a word = (ByteArray.empty, 3) := by
  unfold undoX
  rw [if_neg (by rw [h]; exact fun e => by cases e)]
theorem undoX_no {f : Bool} {w s a word : ByteArray} (h : fitX f word a = true) (h2 : (longB (joinX f (restX f word a.size) s) && matchX f w s (joinX f (restX f word a.size) s)) = false) : undoX f w s a word = (ByteArray.empty, 3) := by
  unfold undoX
  rw [if_pos h, if_neg (by rw [h2]; exact fun e => by cases e)]
theorem undoX_yes {f : Bool} {w s a word : ByteArray} (h : fitX f word a = true) (h2 : (longB (joinX f (restX f word a.size) s) && matchX f w s (joinX f (restX f word a.size) s)) = true) : undoX f w s a word = (joinX f (restX f word a.size) s, 0) := by
  unfold undoX
  rw [if_pos h, if_pos h2]
def undoOut (f : Bool) (n w s a word : ByteArray) : ByteArray × Int :=
  if affB n w s a = true then (if longB word = true then undoX f w s a word else (ByteArray.empty, 7)) else (ByteArray.empty, 1)
theorem undoOut_aff {f : Bool} {n w s a word : ByteArray} (h : affB n w s a = false) : undoOut f n w s a word = (ByteArray.empty, 1) := by
  unfold undoOut
  rw [if_neg (by rw [h]; exact fun e => by cases e)]
theorem undoOut_long {f : Bool} {n w s a word : ByteArray} (h : affB n w s a = true) (h2 : longB word = false) : undoOut f n w s a word = (ByteArray.empty, 7) := by
  unfold undoOut
  rw [if_pos h, if_neg (by rw [h2]; exact fun e => by cases e)]
theorem undoOut_yes {f : Bool} {n w s a word : ByteArray} (h : affB n w s a = true) (h2 : longB word = true) : undoOut f n w s a word = undoX f w s a word := by
  unfold undoOut
  rw [if_pos h, if_pos h2]
end Go.Proofs.YtmkdbahdhobdjaaDoor
