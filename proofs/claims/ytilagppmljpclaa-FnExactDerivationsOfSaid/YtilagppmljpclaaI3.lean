/-
  Derivations: what is one, and the model's WordOf.
-/
import Derived.Test.YtilagppmljpclaaI1
import Derived.Test.YtilagppmljpclaaI2
namespace Go.Proofs.Ytilagppmljpclaa
open Go.RowKit

theorem strAt_take {us : List ByteArray} {k j : Nat} (h : j < k) : strAt (us.take k) j = strAt us j := by
  unfold strAt
  simp [List.getD_eq_getElem?_getD, h]
theorem inTo_take {us : List ByteArray} {s : ByteArray} {k : Nat} : ∀ {j : Nat}, j ≤ k → inTo (us.take k) s j = inTo us s j
  | 0, _ => rfl
  | j + 1, h => by
    unfold inTo
    rw [inTo_take (by omega), strAt_take (by omega)]
theorem Strs.takeI {w : World} {a : Option Addr} {n cap : Nat} {us : List ByteArray} (h : Strs w (.slice a n cap) us) {k : Nat} (hk : k ≤ us.length) : Strs w (.slice a k cap) (us.take k) := by
  obtain ⟨a', cap', hv, h1, h2, h3⟩ := h
  cases hv
  have hl : (us.take k).length = k := by simp; omega
  refine ⟨a, cap, by rw [hl], by omega, h2, fun hp => ?_⟩
  obtain ⟨b, off, ha, hb, hc⟩ := h3 (by omega)
  refine ⟨b, off, ha, hb, fun j hj => ?_⟩
  rw [hl] at hj
  rw [hc j (by omega), strAt_take hj]
/-- Are the first k names of us among the uses u, each for the first time? -/
def okTo (u us : List ByteArray) : Nat → Bool
  | 0 => true
  | k + 1 => okTo u us k && (inTo u (strAt us k) u.length && !inTo us (strAt us k) k)
def okD (ss : List Stm) (stem : ByteArray) (us : List ByteArray) : Bool := match stemIx ss stem ss.length with
  | none => false
  | some j => decide (us.length ≤ 2) && okTo (stmG ss j).uses us us.length
def wordOut (xs : List Aff) (ss : List Stm) (stem : ByteArray) (us : List ByteArray) : ByteArray × Int :=
  if okG xs ss = true then (if okD ss stem us = true then wordX xs us stem else (ByteArray.empty, 6)) else (ByteArray.empty, 1)
theorem wordOut_bad {xs : List Aff} {ss : List Stm} {stem : ByteArray} {us : List ByteArray} (h : okG xs ss = false) : wordOut xs ss stem us = (ByteArray.empty, 1) := if_neg (by rw [h]; exact fun e => by cases e)
theorem wordOut_no {xs : List Aff} {ss : List Stm} {stem : ByteArray} {us : List ByteArray} (h : okG xs ss = true) (hd : okD ss stem us = false) : wordOut xs ss stem us = (ByteArray.empty, 6) := by
  unfold wordOut
  rw [if_pos h, if_neg (by rw [hd]; exact fun e => by cases e)]
theorem wordOut_yes {xs : List Aff} {ss : List Stm} {stem : ByteArray} {us : List ByteArray} (h : okG xs ss = true) (hd : okD ss stem us = true) : wordOut xs ss stem us = wordX xs us stem := by
  unfold wordOut
  rw [if_pos h, if_pos hd]
theorem okD_none {ss : List Stm} {stem : ByteArray} {us : List ByteArray} (h : stemIx ss stem ss.length = none) : okD ss stem us = false := by
  unfold okD
  rw [h]
theorem okD_some {ss : List Stm} {stem : ByteArray} {us : List ByteArray} {j : Nat} (h : stemIx ss stem ss.length = some j) : okD ss stem us = (decide (us.length ≤ 2) && okTo (stmG ss j).uses us us.length) := by
  unfold okD
  rw [h]
theorem stemIx_word {ss : List Stm} {word : ByteArray} {i : Nat} : ∀ {k : Nat}, stemIx ss word k = some i → i < k ∧ ((stmG ss i).word.toList == word.toList) = true
  | 0, h => by cases h
  | k + 1, h => by
    unfold stemIx at h
    split at h
    · rename_i j hj
      cases h
      have := stemIx_word hj
      exact ⟨by omega, this.2⟩
    · split at h
      · cases h
        rename_i he
        exact ⟨by omega, he⟩
      · cases h
theorem okTo_in {u us : List ByteArray} {i : Nat} : ∀ {k : Nat}, i < k → okTo u us k = true → inTo u (strAt us i) u.length = true
  | 0, h, _ => absurd h (by omega)
  | k + 1, h, e => by
    unfold okTo at e
    rw [Bool.and_eq_true, Bool.and_eq_true] at e
    rcases Nat.lt_or_ge i k with h1 | h1
    · exact okTo_in h1 e.1
    · obtain rfl : i = k := by omega
      exact e.2.1
theorem inTo_at {us : List ByteArray} {s : ByteArray} : ∀ {k : Nat}, inTo us s k = true → ∃ i, i < k ∧ ((strAt us i).toList == s.toList) = true
  | 0, h => by cases h
  | k + 1, h => by
    unfold inTo at h
    rw [Bool.or_eq_true] at h
    rcases h with h | h
    · obtain ⟨i, h1, h2⟩ := inTo_at h
      exact ⟨i, by omega, h2⟩
    · exact ⟨k, by omega, h⟩
/-! ### What validity tells -/
theorem bytes_same {a b : ByteArray} (h : (a.toList == b.toList) = true) : a = b := by
  rw [ByteArray.toList_eq, ByteArray.toList_eq] at h
  exact Go.WideShapes.bytes_inj (by simpa using h)
theorem okG_split {xs : List Aff} {ss : List Stm} (h : okG xs ss = true) : (∀ k, k < xs.length → okA xs k = true) ∧ (∀ k, k < ss.length → okSt xs ss k = true) := by
  unfold okG at h
  simp only [Bool.and_eq_true] at h
  exact ⟨fun k hk => allTo_at h.1.1 hk, fun k hk => allTo_at h.1.2 hk⟩
theorem okG_add {xs : List Aff} {ss : List Stm} (h : okG xs ss = true) : ∀ x ∈ xs, x.a.size ≤ 1000 := by
  intro x hx
  obtain ⟨k, hk, rfl⟩ := List.getElem_of_mem hx
  have h1 := (okG_split h).1 k hk
  have e : affG xs k = xs[k] := by unfold affG; simp [List.getD_eq_getElem?_getD, List.getElem?_eq_getElem hk]
  unfold okA affB partB at h1
  rw [e] at h1
  simp only [Bool.and_eq_true, decide_eq_true_eq] at h1
  omega
theorem okG_stem {xs : List Aff} {ss : List Stm} {j : Nat} (h : okG xs ss = true) (hj : j < ss.length) : (stmG ss j).word.size ≤ 12 ∧ ∀ i, i < (stmG ss j).uses.length → knowsTo xs (strAt (stmG ss j).uses i) xs.length = true := by
  have h1 := (okG_split h).2 j hj
  unfold okSt stemB at h1
  simp only [Bool.and_eq_true] at h1
  refine ⟨(longB_size h1.1.2).2, fun i hi => ?_⟩
  have h2 := allTo_at h1.1.1 hi
  unfold useB at h2
  rw [Bool.and_eq_true] at h2
  exact h2.1
/-- The names of a derivation are names of affixes, and its stem is short. -/
theorem okD_known {xs : List Aff} {ss : List Stm} {stem : ByteArray} {us : List ByteArray} (h : okG xs ss = true) (hd : okD ss stem us = true) : stem.size ≤ 1000 ∧ ∀ u ∈ us, knowsTo xs u xs.length = true := by
  cases hj : stemIx ss stem ss.length with
  | none => rw [okD_none hj] at hd; cases hd
  | some j =>
    rw [okD_some hj, Bool.and_eq_true] at hd
    obtain ⟨hjl, hw⟩ := stemIx_word hj
    obtain ⟨h1, h2⟩ := okG_stem h hjl
    rw [bytes_same hw] at h1
    refine ⟨by omega, fun u hu => ?_⟩
    obtain ⟨k, hk, rfl⟩ := List.getElem_of_mem hu
    have e : strAt us k = us[k] := by unfold strAt; simp [List.getD_eq_getElem?_getD, List.getElem?_eq_getElem hk]
    have h3 := okTo_in hk hd.2
    rw [e] at h3
    obtain ⟨i, hi, he⟩ := inTo_at h3
    rw [← bytes_same he]
    exact h2 i hi
end Go.Proofs.Ytilagppmljpclaa
