/-
  The place of a word: the model's search; HasWord.
-/
import Derived.Test.YtpjekfebpgjgnaaL6
import Derived.Test.YtpjekfebpgjgnaaL3
namespace Go.Proofs.Ytpjekfebpgjgnaa
open Go.RowKit Go.Lib

set_option maxHeartbeats 1000000 in
theorem l05First_any {v : Value} {ss : List ByteArray} (w : World) (s : ByteArray) (h : Strs w v ss) :
    Calls Try.prog 96 #[v, .string s] w fun e w' => e = .returned (.int .i64 (firstG ss s)) ∧ w = w' := by
  have hl := h.len
  obtain ⟨a, cap, rfl, hl1, hm, hc⟩ := h
  have HC := Shh.mk hc
  clear hc
  go_enter Try.func96, Try.ntmps96
  go_wp2
  go_loop [5] (fun i => ∃ k : Nat, k ≤ ss.length ∧ i = .int .i64 k ∧ Hid (∀ j, j < k → upS (strAt ss j) s = true)) (fun i => ss.length - (intOf i).toNat)
  case atStart => exact ⟨0, Nat.zero_le _, rfl, fun j hj => absurd hj (by omega)⟩
  case round =>
    obtain ⟨k, hk, rfl, ht⟩ := hrel
    by_cases hlt : k < ss.length
    · obtain ⟨b, off, rfl, hb, hcc⟩ := HC.out (by omega)
      have ck := hcc k hlt
      cases hup : upS (strAt ss k) s
      · have HR := Shh.mk (firstG_is (ss := ss) (s := s) hk ht (fun _ => hup))
        obtain ⟨y, hy⟩ : ∃ y, strAt ss k = y := ⟨_, rfl⟩
        rw [hy] at ck hup
        have hcmp : Op.bytesLess y.toList s.toList = false := hup
        clear hcc hy hup ht
        go_wp2
        go_ret
        exact ⟨ret_i64 (congrArg (Nat.cast (R := Int)) HR.out.symm), rfl⟩
      · have HT : Hid (∀ j, j < k + 1 → upS (strAt ss j) s = true) := by
          intro j hj
          rcases Nat.lt_or_ge j k with h1 | h1
          · exact ht j h1
          · obtain rfl : j = k := by omega
            exact hup
        obtain ⟨y, hy⟩ : ∃ y, strAt ss k = y := ⟨_, rfl⟩
        rw [hy] at ck hup
        have hcmp : Op.bytesLess y.toList s.toList = true := hup
        clear hcc hy hup ht
        go_wp2
        go_round
        case rel => exact ⟨k + 1, by omega, by go_num, HT⟩
        case measure => simp [intOf]; omega
    · have HR := Shh.mk (firstG_is (ss := ss) (s := s) hk ht (fun h => absurd h hlt))
      clear ht
      go_wp2
      go_ret
      exact ⟨ret_i64 (congrArg (Nat.cast (R := Int)) HR.out.symm), rfl⟩

set_option maxHeartbeats 1000000 in
theorem l05Has_any {v : Value} {ss : List ByteArray} (w : World) (s : ByteArray) (h : Strs w v ss) {t : Bool} (ht : hasL ss s = t) :
    Calls Try.prog 94 #[v, .string s] w fun e w' => e = .returned (.bool t) ∧ w = w' := by
  have hl := h.len
  have HU := Shh.mk h
  have hF := firstG_le ss s
  have h1 := fun hk => hasL_at (ss := ss) (s := s) hk
  have h2 := fun hk => hasL_end (ss := ss) (s := s) hk
  obtain ⟨k, hk⟩ : ∃ k, firstG ss s = k := ⟨_, rfl⟩
  rw [hk] at hF h1 h2
  have HK := Shh.mk hk
  obtain ⟨a, cap, rfl, hl1, hm, hc⟩ := h
  clear hk
  by_cases hlt : k < ss.length
  · obtain ⟨b, off, rfl, hb, hcc⟩ := hc (by omega)
    have ck := hcc k hlt
    have hH := h1 hlt
    obtain ⟨y, hy⟩ : ∃ y, strAt ss k = y := ⟨_, rfl⟩
    rw [hy] at ck hH
    rw [ht] at hH
    have HT := Shh.mk hH
    clear hcc hy ht h1 h2 hH hc
    go_enter Try.func94, Try.ntmps94
    go_wp2_with fail
    refine (l05First_any _ s HU.out).mono ?_
    rw [HK.out]
    rintro e w1 ⟨rfl, rfl⟩
    go_wp2
    go_ret
    exact ⟨ret_bool HT.out.symm, rfl⟩
  · have HT := Shh.mk ((ht.symm).trans (h2 hlt))
    clear ht h1 h2 hc
    go_enter Try.func94, Try.ntmps94
    go_wp2_with fail
    refine (l05First_any _ s HU.out).mono ?_
    rw [HK.out]
    rintro e w1 ⟨rfl, rfl⟩
    go_wp2
    go_ret
    exact ⟨ret_bool HT.out.symm, rfl⟩

/-- A valid lexicon has a word. -/
def hasOut (us : List ByteArray) (s : ByteArray) : Bool := okL us && hasL us s
theorem hasOut_no {us : List ByteArray} {s : ByteArray} (h : okL us = false) : hasOut us s = false := by simp [hasOut, h]
theorem hasOut_yes {us : List ByteArray} {s : ByteArray} (h : okL us = true) : hasOut us s = hasL us s := by simp [hasOut, h]

end Go.Proofs.Ytpjekfebpgjgnaa
