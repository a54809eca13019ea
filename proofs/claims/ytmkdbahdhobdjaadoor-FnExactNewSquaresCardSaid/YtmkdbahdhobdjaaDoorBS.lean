/-
  Squares, plain: what several texts on boards share.
-/
import Derived.Test.YtmkdbahdhobdjaaDoorBD
namespace Go.Proofs.YtmkdbahdhobdjaaDoor
open Go.RowKit
theorem setS_size (s : ByteArray) (k : Nat) (x : UInt8) : (setS s k x).size = s.size := by
  show (s.data.toList.set k x).toArray.size = s.size
  rw [List.size_toArray, List.length_set, Array.length_toList]
  rfl
theorem setS_at (s : ByteArray) (k j : Nat) (x : UInt8) : atB (setS s k x) j = if k = j ∧ j < s.size then x else atB s j := by
  have hl : s.data.toList.length = s.size := by rw [Array.length_toList]; rfl
  unfold atB setS
  rw [List.toList_toArray, List.getD_eq_getElem?_getD, List.getElem?_set, List.getD_eq_getElem?_getD, hl]
  by_cases h : k = j
  · subst h
    rw [if_pos rfl]
    by_cases h2 : k < s.size
    · rw [if_pos h2, if_pos ⟨rfl, h2⟩]; rfl
    · rw [if_neg h2, if_neg (fun h => h2 h.2), List.getElem?_eq_none (by omega)]
  · rw [if_neg h, if_neg (fun h' => h h'.1)]
theorem dot_byteU {x : UInt8} : ((x.toNat : Int) == 46) = (x == 46) := by
  rw [Bool.eq_iff_iff, beq_iff_eq, beq_iff_eq]
  constructor
  · intro h
    exact UInt8.toNat_inj.1 (by show x.toNat = 46; omega)
  · rintro rfl
    rfl
/-- The squares of a board with a letter on them, and how many. -/
def fullB (N : Nat) (s : ByteArray) (r c : Int) : Bool := inBd (N : Int) r c && !(atB s (r * N + c).toNat == 46)
theorem full_in {N : Nat} {s : ByteArray} {r c : Int} (h : fullB N s r c = true) : ∃ R C : Nat, r = (R : Int) ∧ c = (C : Int) ∧ R < N ∧ C < N ∧ (r * N + c).toNat = R * N + C ∧ (atB s (R * N + C) == 46) = false := by
  unfold fullB at h
  rw [Bool.and_eq_true, inBd_iff] at h
  obtain ⟨⟨⟨h0, h1⟩, h2, h3⟩, h4⟩ := h
  obtain ⟨R, rfl⟩ := Int.eq_ofNat_of_zero_le h0
  obtain ⟨C, rfl⟩ := Int.eq_ofNat_of_zero_le h2
  have e : ((R : Int) * (N : Int) + (C : Int)).toNat = R * N + C := by rw [← Int.natCast_mul]; omega
  rw [e] at h4
  exact ⟨R, C, rfl, rfl, by omega, by omega, e, by simpa using h4⟩
theorem splice_get {α : Type} (L B : List α) (o : Nat) (h : o + B.length ≤ L.length) (i : Nat) :
    (L.take o ++ B ++ L.drop (o + B.length))[i]? = if i < o then L[i]? else if i < o + B.length then B[i - o]? else L[i]? := by
  have h0 : (L.take o).length = o := by rw [List.length_take]; omega
  by_cases h1 : i < o
  · rw [if_pos h1, List.append_assoc, List.getElem?_append_left (by omega), List.getElem?_take_of_lt h1]
  · rw [if_neg h1]
    by_cases h2 : i < o + B.length
    · rw [if_pos h2, List.append_assoc, List.getElem?_append_right (by omega), h0, List.getElem?_append_left (by omega)]
    · rw [if_neg h2, List.getElem?_append_right (by rw [List.length_append]; omega), List.length_append, h0, List.getElem?_drop]
      congr 1
      omega
theorem turnS_at {N r c : Nat} {s : ByteArray} (hr : r < N) (hc : c < N) : atB (turnS N s) (r * N + c) = atB s (c * N + r) := by
  have h := row_lt hr hc
  unfold atB turnS
  show ((turnL N s).toArray.toList).getD (r * N + c) 0 = _
  rw [List.toList_toArray, List.getD_eq_getElem?_getD, List.getElem?_eq_getElem (by rw [turnL_len]; exact h)]
  unfold turnL
  rw [gridL_get _ _ _ _ h, div_row hc, mod_row hc]
  rfl
theorem rowL_turn {N K : Nat} {s : ByteArray} (hk : K < N) : rowL N (turnS N s) K = colL N s K := by
  unfold rowL colL
  exact List.map_congr_left fun c hc => turnS_at hk (List.mem_range.1 hc)
theorem okBd_nat {n : Int} {p c : ByteArray} (h : okBd n p c = true) : ∃ N : Nat, n = (N : Int) ∧ 5 ≤ N ∧ N ≤ 15 ∧ p.size = N * N ∧ c.size = N * N := (okBd_iff.1 h).nat
end Go.Proofs.YtmkdbahdhobdjaaDoor
