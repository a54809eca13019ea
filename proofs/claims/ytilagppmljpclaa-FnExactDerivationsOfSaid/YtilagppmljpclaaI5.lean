/-
  Derivations: the program's small functions.
-/
import Derived.Test.YtilagppmljpclaaI3
namespace Go.Proofs.Ytilagppmljpclaa
open Go.RowKit

theorem eq_flip (a b : ByteArray) : (a.toList == b.toList) = (b.toList == a.toList) := by
  rw [Bool.eq_iff_iff, beq_iff_eq, beq_iff_eq]
  exact ⟨Eq.symm, Eq.symm⟩
set_option maxHeartbeats 1000000 in
theorem indexS_any {v : Value} {us : List ByteArray} (s : ByteArray) (W : World) (hu : Strs W v us) :
    Calls Try.prog 180 #[v, .string s] W fun e w' => (∃ z : Int, e = .returned (.int .i64 z) ∧ inTo us s us.length = decide (0 ≤ z)) ∧ W = w' := by
  have hul := hu.len
  obtain ⟨ua, uc, rfl, hul1, hul2, huc⟩ := hu
  have HUC := Shh.mk huc
  clear huc
  go_enter Try.func180, Try.ntmps180
  go_wp2
  go_loopw [5, 8] (fun _ i wr => ∃ k : Nat, k ≤ us.length ∧ i = .int .i64 k ∧ Shh (inTo us s k = false) ∧ wr = W) (fun _ i _ => us.length - (intOf i).toNat)
  case atStart => exact ⟨0, Nat.zero_le _, rfl, ⟨rfl⟩, rfl⟩
  case round =>
    obtain ⟨k, hk, rfl, hE, rfl⟩ := hrel
    by_cases hlt : k < us.length
    · obtain ⟨bu, ou, rfl, hbu, hcu⟩ := HUC.out (by omega)
      have cu := hcu k hlt
      have HY := Shh.mk (fun h => inTo_mono (us := us) (s := s) hlt h)
      have HS : Shh (inTo us s (k + 1) = (inTo us s k || ((strAt us k).toList == s.toList))) := ⟨rfl⟩
      obtain ⟨x, hx⟩ : ∃ x, strAt us k = x := ⟨_, rfl⟩
      rw [hx] at cu HY HS
      clear hcu hx
      cases hb : (s.toList == x.toList)
      · rw [eq_flip, hb] at HS
        have HN : Shh (inTo us s (k + 1) = false) := ⟨by rw [HS.out, hE.out]; rfl⟩
        clear HS HY
        go_wp2
        go_roundw
        case rel => exact ⟨k + 1, by omega, by go_num, HN, by first | trivial | rfl⟩
        case measure => simp [intOf]; omega
      · have HN := Shh.mk (HY.out (by rw [eq_flip]; exact hb))
        clear HS HY
        go_wp2
        go_ret
        exact ⟨⟨(k : Int), rfl, by rw [HN.out]; exact (decide_eq_true (by omega)).symm⟩, by first | trivial | rfl⟩
    · obtain rfl : k = us.length := by omega
      go_wp2
      go_ret
      exact ⟨⟨-1, rfl, by rw [hE.out]; rfl⟩, by first | trivial | rfl⟩
set_option maxHeartbeats 400000 in
theorem containsS_any {v : Value} {us : List ByteArray} (s : ByteArray) (W : World) (hu : Strs W v us) :
    Calls Try.prog 132 #[v, .string s] W fun e w' => e = .returned (.bool (inTo us s us.length)) ∧ W = w' := by
  have HU := Shh.mk hu
  obtain ⟨ua, uc, rfl, -⟩ := hu
  go_enter Try.func132, Try.ntmps132
  go_wp2_with fail
  refine (indexS_any s _ HU.out).mono ?_
  rintro e w1 ⟨⟨z, rfl, hz⟩, rfl⟩
  have HZ := Shh.mk hz
  clear hz
  go_wp2
  go_ret
  exact ⟨by rw [HZ.out]; rfl, by first | trivial | rfl⟩
set_option maxHeartbeats 400000 in
theorem isDer1_any {d : Nat} {word stem : ByteArray} {u v : Value} (W : World) (hd : Blk W d 50 #[.string stem, v]) (hu : ∃ a n c, u = .slice a n c) :
    Calls Try.prog 131 #[.agg #[.string word, u], .pointer (some ⟨d, 0, none⟩)] W fun e w' => e = .returned (.bool (word.toList == stem.toList)) ∧ Below W.heap.size W w' := by
  obtain ⟨a, n, c, rfl⟩ := hu
  have h0 := ((hd.alloc (.cells #[.string word, .slice a n c] 111)).cells) 0
  have hB := (Below.refl W.heap.size W).alloc (Nat.le_refl _) (.cells #[.string word, .slice a n c] 111)
  have h0' : (W.alloc (.cells #[.string word, .slice a n c] 111)).cell? ⟨d, 0, none⟩ = some (.string stem) := h0
  clear h0
  go_enter Try.func131, Try.ntmps131
  go_wp2
  go_ret
  exact ⟨rfl, hB⟩
end Go.Proofs.Ytilagppmljpclaa
