/-
  A word put to its place by the model: l03Insert.
-/
import Derived.Test.YtagabcddonmdgaaLA
import Derived.Test.YtagabcddonmdgaaL3
namespace Go.Proofs.Ytagabcddonmdgaa
open Go.RowKit

theorem strAt_takeL {ss : List ByteArray} {k j : Nat} (h : j < k) : strAt (ss.take k) j = strAt ss j := by
  unfold strAt
  simp [List.getD_eq_getElem?_getD, h]
theorem strAt_dropL (ss : List ByteArray) (i j : Nat) : strAt (ss.drop i) j = strAt ss (i + j) := by
  simp [strAt, List.getD_eq_getElem?_getD]
theorem Strs.takeL {w : World} {a : Option Addr} {n cap : Nat} {us : List ByteArray} (h : Strs w (.slice a n cap) us) {k : Nat} (hk : k ≤ us.length) : Strs w (.slice a k cap) (us.take k) := by
  obtain ⟨a', cap', hv, h1, h2, h3⟩ := h
  cases hv
  have hl : (us.take k).length = k := by simp; omega
  refine ⟨a, cap, by rw [hl], by omega, h2, fun hp => ?_⟩
  obtain ⟨b, off, ha, hb, hc⟩ := h3 (by omega)
  refine ⟨b, off, ha, hb, fun j hj => ?_⟩
  rw [hl] at hj
  rw [hc j (by omega), strAt_takeL hj]
theorem Strs.dropL {w : World} {b off n cap : Nat} {us : List ByteArray} (h : Strs w (.slice (some ⟨b, off, none⟩) n cap) us) {k : Nat} (hk : k ≤ us.length) : Strs w (.slice (some ⟨b, off + k, none⟩) (n - k) (cap - k)) (us.drop k) := by
  obtain ⟨a', cap', hv, h1, h2, h3⟩ := h
  cases hv
  have hl : (us.drop k).length = us.length - k := by simp
  refine ⟨some ⟨b, off + k, none⟩, cap - k, by rw [hl], by omega, by omega, fun hp => ?_⟩
  obtain ⟨b', off', ha, hb, hc⟩ := h3 (by omega)
  cases ha
  refine ⟨b, off + k, rfl, hb, fun j hj => ?_⟩
  rw [hl] at hj
  rw [strAt_dropL, Nat.add_assoc]
  exact hc _ (by omega)
theorem Strs.void (w : World) (a : Option Addr) {c : Nat} (hc : c ≤ maxLen) : Strs w (.slice a 0 c) [] := ⟨a, c, rfl, Nat.zero_le _, hc, fun h => absurd h (by simp)⟩
theorem Strs.made1 (w : World) (s : ByteArray) : Strs (w.alloc (.cells #[.string s] 9)) (.slice (some ⟨w.heap.size, 0, none⟩) 1 1) [s] := by
  refine ⟨_, 1, rfl, Nat.le_refl _, by unfold maxLen; omega, fun _ => ⟨w.heap.size, 0, rfl, by simp, fun j hj => ?_⟩⟩
  have hj0 : j = 0 := by simp at hj; omega
  subst hj0
  exact (Blk.made w 9 #[.string s]).cells 0

/-- The walk from the end of a list down to the place of a text. -/
theorem back_new {ss : List ByteArray} {s : ByteArray} (hr : Rise ss) (hno : hasL ss s = false) {k : Nat} (hk : k ≤ ss.length) (hb : ∀ j, k ≤ j → j < ss.length → upS s (strAt ss j) = true)
    (hx : k = 0 ∨ upS s (strAt ss (k - 1)) = false) : firstG ss s = k := by
  refine firstG_is hk (fun j hj => ?_) (fun h => upS_asymm (hb k (Nat.le_refl _) h))
  rcases hx with hx | hx
  · omega
  · have h1 : upS (strAt ss (k - 1)) s = true := upS_tri hx (fun e => hasL_no hno hr (j := k - 1) (by omega) e.symm)
    rcases Nat.lt_or_ge j (k - 1) with h2 | h2
    · exact upS_trans (hr j (k - 1) h2 (by omega)) h1
    · obtain rfl : j = k - 1 := by omega
      exact h1
theorem back_has {ss : List ByteArray} {s : ByteArray} (hr : Rise ss) (hyes : hasL ss s = true) {k : Nat} (hk : k ≤ ss.length) (hb : ∀ j, k ≤ j → j < ss.length → upS s (strAt ss j) = true)
    (hx : k = 0 ∨ upS s (strAt ss (k - 1)) = false) : 0 < k ∧ strAt ss (k - 1) = s := by
  rw [hasL_is, decide_eq_true_eq] at hyes
  obtain ⟨h1, h2⟩ := hyes
  have hlt : firstG ss s < k := by
    rcases Nat.lt_or_ge (firstG ss s) k with h | h
    · exact h
    · have := hb _ h h1
      rw [h2, upS_irr] at this
      cases this
  rcases hx with hx | hx
  · omega
  · refine ⟨by omega, ?_⟩
    rcases Nat.lt_or_ge (firstG ss s) (k - 1) with h | h
    · have := hr _ _ h (by omega)
      rw [h2, hx] at this
      cases this
    · rw [show k - 1 = firstG ss s by omega]
      exact h2
theorem back_step {ss : List ByteArray} {s : ByteArray} {k : Nat} (hb : ∀ j, k + 1 ≤ j → j < ss.length → upS s (strAt ss j) = true) (h : upS s (strAt ss k) = true) : ∀ j, k ≤ j → j < ss.length → upS s (strAt ss j) = true := by
  intro j h1 h2
  rcases Nat.lt_or_ge k j with h3 | h3
  · exact hb j h3 h2
  · obtain rfl : j = k := by omega
    exact h

end Go.Proofs.Ytagabcddonmdgaa
