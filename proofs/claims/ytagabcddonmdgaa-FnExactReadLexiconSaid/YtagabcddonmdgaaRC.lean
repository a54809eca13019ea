/-
  Reading a lexicon: what the answer is, from the lines with their newlines, and from the pieces between newlines.
-/
import Derived.Test.YtagabcddonmdgaaRA
import Derived.Test.YtagabcddonmdgaaL6
import Derived.Test.YtagabcddonmdgaaLI
import Derived.Test.YtagabcddonmdgaaP0
namespace Go.Proofs.Ytagabcddonmdgaa
open Go.RowKit

theorem take_succS {us : List ByteArray} {k : Nat} (h : k < us.length) : us.take (k + 1) = us.take k ++ [strAt us k] := by
  rw [List.take_succ_eq_append_getElem h]
  unfold strAt
  rw [List.getD_eq_getElem?_getD, List.getElem?_eq_getElem h]
  rfl
theorem nlText_snoc (ps : List (List UInt8)) (p : List UInt8) : nlText (ps ++ [p]) = nlText ps ++ (p ++ [10]) := by simp [nlText]
theorem lexTo_nl (us : List ByteArray) : ∀ k, k ≤ us.length → lexTo us k = nlText ((us.take k).map (·.data.toList))
  | 0, _ => rfl
  | k + 1, h => by
    rw [lexTo, lexTo_nl us k (by omega), take_succS (by omega), List.map_append, List.map_singleton, nlText_snoc]
theorem lexTo_all (us : List ByteArray) : lexTo us us.length = nlText (us.map (·.data.toList)) := by
  rw [lexTo_nl us us.length (Nat.le_refl _), List.take_of_length_le (Nat.le_refl _)]
theorem map_txt (us : List ByteArray) : (us.map (·.data.toList)).map txt = us := by
  rw [List.map_map]
  conv => rhs; rw [← List.map_id us]
  exact List.map_congr_left fun x _ => txt_of x
theorem map_list (ps : List (List UInt8)) : (ps.map txt).map (·.data.toList) = ps := by
  rw [List.map_map]
  conv => rhs; rw [← List.map_id ps]
  exact List.map_congr_left fun x _ => txt_list x
def goodL (ps : List (List UInt8)) : Bool := okL (ps.map txt)
theorem small_no_nl {l : List UInt8} (h : allSmall l = true) : (10 : UInt8) ∉ l := by
  intro hm
  unfold allSmall at h
  rw [List.all_eq_true] at h
  have := h _ hm
  unfold smallB at this
  simp at this
theorem longB_no_nl {x : ByteArray} (h : longB x = true) : (10 : UInt8) ∉ x.data.toList := by
  unfold longB isWordB at h
  simp only [Bool.and_eq_true] at h
  exact small_no_nl h.2.1.1
theorem goodL_free (ps : List (List UInt8)) (h : goodL ps = true) : ∀ p ∈ ps, (10 : UInt8) ∉ p := by
  intro p hp
  obtain ⟨k, hk, hkp⟩ := List.mem_iff_getElem.1 hp
  have h2 := okL_long (k := k) h (by simpa using hk)
  have h3 : strAt (ps.map txt) k = txt p := by
    unfold strAt
    rw [List.getD_eq_getElem?_getD, List.getElem?_map, List.getElem?_eq_getElem hk, hkp]
    rfl
  rw [h3] at h2
  have := longB_no_nl h2
  rwa [txt_list] at this

/-! ### The answer -/
/-- The lines of a text, without their newlines. -/
def readW (s : ByteArray) : List ByteArray := (linesL s.data.toList).map fun x => txt (chop x)
/-- What reading a lexicon answers: its words, and whether there is one. -/
def readOut (s : ByteArray) : List ByteArray × Bool := if okL (readW s) = true ∧ txt (lexTo (readW s) (readW s).length) = s then (readW s, true) else ([], false)
theorem readOut_yes {s : ByteArray} (h1 : okL (readW s) = true) (h2 : txt (lexTo (readW s) (readW s).length) = s) : readOut s = (readW s, true) := if_pos ⟨h1, h2⟩
theorem readOut_bad {s : ByteArray} (h1 : okL (readW s) = false) : readOut s = ([], false) := if_neg (by simp [h1])
theorem readOut_else {s : ByteArray} (h2 : ¬ txt (lexTo (readW s) (readW s).length) = s) : readOut s = ([], false) := if_neg (fun h => h2 h.2)
theorem readW_map (s : ByteArray) : (readW s).map (·.data.toList) = (linesL s.data.toList).map chop := by
  unfold readW
  rw [List.map_map]
  exact List.map_congr_left fun x _ => txt_list _
theorem readW_of {s : ByteArray} {qs : List (List UInt8)} (h : (linesL s.data.toList).map chop = qs) : readW s = qs.map txt := by
  rw [← h, List.map_map]
  rfl
theorem pieces_yes {s : ByteArray} {qs : List ByteArray} (h : (qs.map (·.data.toList)) ++ [[]] = splitL 10 s.data.toList) (hok : okL qs = true) : readOut s = (qs, true) := by
  have hg : goodL (qs.map (·.data.toList)) = true := by unfold goodL; rw [map_txt]; exact hok
  obtain ⟨h1, -, h3⟩ := (read_same goodL goodL_free s.data.toList _).1 ⟨hg, h.symm⟩
  have hw : readW s = qs := by rw [readW_of h1, map_txt]
  have ht : txt (lexTo (readW s) (readW s).length) = s := by rw [hw, lexTo_all, h3, txt_of]
  rw [readOut_yes (by rw [hw]; exact hok) ht, hw]
theorem pieces_back {s : ByteArray} (h1 : okL (readW s) = true) (h2 : txt (lexTo (readW s) (readW s).length) = s) : splitL 10 s.data.toList = (readW s).map (·.data.toList) ++ [[]] := by
  have h3 : nlText ((readW s).map (·.data.toList)) = s.data.toList := by
    rw [← lexTo_all]
    conv => rhs; rw [← h2]
    rw [txt_list]
  have hg : goodL ((readW s).map (·.data.toList)) = true := by unfold goodL; rw [map_txt]; exact h1
  exact ((read_same goodL goodL_free s.data.toList _).2 ⟨(readW_map s).symm, hg, h3⟩).2
theorem pieces_last {s : ByteArray} {qs : List ByteArray} {x : ByteArray} (h : (qs.map (·.data.toList)) ++ [x.data.toList] = splitL 10 s.data.toList) (hx : ¬ x.data.toList = []) : readOut s = ([], false) := by
  by_cases hc : okL (readW s) = true ∧ txt (lexTo (readW s) (readW s).length) = s
  · have := pieces_back hc.1 hc.2
    rw [← h] at this
    have h2 := (List.append_inj' this rfl).2
    simp only [List.cons.injEq, and_true] at h2
    exact absurd h2 hx
  · exact if_neg hc
theorem pieces_bad {s : ByteArray} {qs : List ByteArray} (h : (qs.map (·.data.toList)) ++ [[]] = splitL 10 s.data.toList) (hok : okL qs = false) : readOut s = ([], false) := by
  by_cases hc : okL (readW s) = true ∧ txt (lexTo (readW s) (readW s).length) = s
  · have := pieces_back hc.1 hc.2
    rw [← h] at this
    have h2 := (List.append_inj' this rfl).1
    have h3 : qs = readW s := by rw [← map_txt qs, h2, map_txt]
    rw [h3, hc.1] at hok
    cases hok
  · exact if_neg hc
/-- The model's pieces, as lists. -/
theorem pieces_list (s : ByteArray) : (pc s (cuts s 10)).map (·.data.toList) = splitL 10 s.data.toList := by
  have h := cuts_split s 10
  rw [← h]
  unfold pc
  rw [List.map_map]
  rfl
theorem pieces_parts (s : ByteArray) : ∃ qs x, pc s (cuts s 10) = qs ++ [x] := ⟨_, _, pc_snoc s _ _ _⟩
theorem readW_len (s : ByteArray) : (readW s).length ≤ s.size := by
  unfold readW
  rw [List.length_map]
  have := linesL_count _ s.data.toList (Nat.le_refl _)
  have h2 : s.data.toList.length = s.size := by rw [Array.length_toList]; rfl
  omega
theorem chop_len (x : List UInt8) : (chop x).length ≤ x.length := by
  unfold chop Lib.trimSuffix
  split
  · rw [List.length_take]; omega
  · exact Nat.le_refl _
theorem readW_each {s x : ByteArray} (h : x ∈ readW s) : x.size ≤ s.size := by
  unfold readW at h
  obtain ⟨y, hy, rfl⟩ := List.mem_map.1 h
  have h1 := linesL_each hy
  have h2 : s.data.toList.length = s.size := by rw [Array.length_toList]; rfl
  have h3 := chop_len y
  rw [txt_size]
  omega
theorem sumTo_le (f : Nat → Nat) (b : Nat) : ∀ k, (∀ j, j < k → f j ≤ b) → sumTo f k ≤ k * b
  | 0, _ => by simp [sumTo]
  | k + 1, h => by
    have ih := sumTo_le f b k (fun j hj => h j (by omega))
    have := h k (by omega)
    rw [sumTo, Nat.succ_mul]
    omega
theorem okL_small {us : List ByteArray} (h : okL us = true) : strsW us ≤ 2600 := by
  have h1 := okL_size h
  have h2 := sumTo_le (fun j => (strAt us j).size) 12 us.length (fun j hj => (longB_size (okL_long h hj)).2)
  unfold strsW
  omega

theorem readOut_len (s : ByteArray) : (readOut s).1.length ≤ s.size := by
  unfold readOut
  split
  · exact readW_len s
  · exact Nat.zero_le _

end Go.Proofs.Ytagabcddonmdgaa
