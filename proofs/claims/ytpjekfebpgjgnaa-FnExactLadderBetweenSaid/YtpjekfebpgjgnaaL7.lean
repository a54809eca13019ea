/-
  The place of a word: the library's search; HasWord.
-/
import Derived.Test.YtpjekfebpgjgnaaLN
import Derived.Test.YtpjekfebpgjgnaaShelfK
namespace Go.Proofs.Ytpjekfebpgjgnaa
open Go.RowKit Go.Lib

theorem search_any {v : Value} {ss : List ByteArray} (w : World) (s : ByteArray) (h : Strs w v ss) (hr : Rise ss) (hn : ss.length ≤ 200) :
    Calls Try.prog 91 #[v, .string s] w fun e w' => e = .returned (.tuple #[.int .i64 (firstG ss s), .bool (hasL ss s)]) ∧ ∃ q, w' = w.drewN q := by
  obtain ⟨a, cap, rfl, hl1, hm, hc⟩ := h
  rcases Nat.eq_zero_or_pos ss.length with h0 | h0
  · have e : ss = [] := List.length_eq_zero_iff.1 h0
    subst e
    refine (Try.slices_BinarySearch_string_empty a cap s w).mono ?_
    rintro e w' ⟨rfl, rfl⟩
    exact ⟨by rw [hasL_end (by simp), firstG_nil]; rfl, 0, rfl⟩
  · obtain ⟨b, off, rfl, hb, hcc⟩ := hc h0
    refine (Try.slices_BinarySearch_string b off ss.length cap (fun t => if t < ss.length then strAt ss t else s) s w (by omega) (fun j hj => by rw [if_pos hj]; exact hcc j hj)).mono ?_
    rintro e w' ⟨rfl, q, rfl⟩
    have hb : Lib.bsGo (fun t => Op.bytesLess (if t < ss.length then strAt ss t else s).toList s.toList) ss.length 0 ss.length = firstG ss s := by
      refine Lib.bsGo_spec _ (firstG ss s) (fun t ht => ?_) (fun t ht => ?_) ss.length 0 ss.length (by omega) (Nat.zero_le _) (firstG_le ss s)
      · have := firstG_le ss s
        rw [if_pos (by omega)]
        exact firstG_less ht
      · by_cases h1 : t < ss.length
        · rw [if_pos h1]; exact firstG_more hr ht h1
        · rw [if_neg h1]; exact less_irr _
    rw [hb]
    refine ⟨?_, q, rfl⟩
    rw [hasL_is]
    by_cases h1 : firstG ss s < ss.length
    · rw [if_pos h1]
    · simp [h1]

set_option maxHeartbeats 1000000 in
theorem implHasWord_any {v : Value} {us : List ByteArray} (s : ByteArray) (W : World) (hu : Strs W v us) (hz : ∀ s ∈ us, s.size ≤ maxLen) (_hs : s.size ≤ 1048576) :
    Calls Try.prog 40 #[.agg #[v], .string s] W fun e w' => e = .returned (.bool (hasOut us s)) ∧ Below W.heap.size W w' := by
  have HG := Shh.mk (LexAt.made hu)
  have c0 := HG.out.blk.cells
  have hB0 := (Below.refl W.heap.size W).alloc (Nat.le_refl _) (.cells #[v] 26)
  obtain ⟨aa, ac, rfl, -⟩ := hu
  cases hok : okL us
  · have HR := Shh.mk (hasOut_no (s := s) hok)
    have HO := Shh.mk hok
    clear hok
    go_enter Try.func40, Try.ntmps40
    go_wp2_with fail
    refine (valid_on HO.out _ HG.out.strs hz).mono ?_
    rintro e w1 ⟨rfl, hb1⟩
    go_wp2
    go_ret
    exact ⟨ret_bool HR.out.symm, hB0.trans (hb1.mono hB0.size)⟩
  · have HR := Shh.mk (hasOut_yes (s := s) hok)
    have HO := Shh.mk hok
    have hsz := okL_size hok
    have HRI := Shh.mk (okL_rise hok)
    clear hok
    go_enter Try.func40, Try.ntmps40
    go_wp2_with fail
    refine (valid_on HO.out _ HG.out.strs hz).mono ?_
    rintro e w1 ⟨rfl, hb1⟩
    have hB1 := hB0.trans (hb1.mono hB0.size)
    have c1 := (HG.out.blk.kept hb1 HG.out.blk.lt).cells
    go_wp2_with fail
    refine (search_any _ s (HG.out.strs.below hb1) HRI.out hsz).mono ?_
    rintro e w2 ⟨rfl, q, rfl⟩
    go_wp2
    go_ret
    exact ⟨ret_bool HR.out.symm, below_drewN hB1 _⟩
end Go.Proofs.Ytpjekfebpgjgnaa
