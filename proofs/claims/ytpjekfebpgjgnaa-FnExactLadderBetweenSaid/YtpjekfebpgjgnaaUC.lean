/-
  Patterns: the program's functions.
-/
import Derived.Test.YtpjekfebpgjgnaaUB
import Derived.Test.YtpjekfebpgjgnaaShelfI
namespace Go.Proofs.Ytpjekfebpgjgnaa
open Go.RowKit

theorem isPatternByte_any (c : Int) (w : World) : Calls Try.prog 77 #[.int .i32 c] w fun e w' => e = .returned (.bool (patB c)) ∧ w' = w := by
  by_cases h1 : c = 42
  · have HR := Sh10.mk (show patB c = true by rw [h1]; rfl)
    have e1 : (c == 42) = true := beq_iff_eq.2 h1
    clear h1
    go_enter Try.func77, Try.ntmps77
    go_wp2
    go_ret
    exact ⟨ret_bool HR.out.symm, rfl⟩
  · have e1 : (c == 42) = false := beq_eq_false_iff_ne.2 h1
    by_cases h2 : c = 46
    · have HR := Sh10.mk (show patB c = true by rw [h2]; rfl)
      have e2 : (c == 46) = true := beq_iff_eq.2 h2
      clear h1 h2
      go_enter Try.func77, Try.ntmps77
      go_wp2
      go_ret
      exact ⟨ret_bool HR.out.symm, rfl⟩
    · have e2 : (c == 46) = false := beq_eq_false_iff_ne.2 h2
      by_cases h3 : c = 64
      · have HR := Sh10.mk (show patB c = true by rw [h3]; rfl)
        have e3 : (c == 64) = true := beq_iff_eq.2 h3
        clear h1 h2 h3
        go_enter Try.func77, Try.ntmps77
        go_wp2
        go_ret
        exact ⟨ret_bool HR.out.symm, rfl⟩
      · have e3 : (c == 64) = false := beq_eq_false_iff_ne.2 h3
        by_cases h4 : c = 35
        · have HR := Sh10.mk (show patB c = true by rw [h4]; rfl)
          have e4 : (c == 35) = true := beq_iff_eq.2 h4
          clear h1 h2 h3 h4
          go_enter Try.func77, Try.ntmps77
          go_wp2
          go_ret
          exact ⟨ret_bool HR.out.symm, rfl⟩
        · have e4 : (c == 35) = false := beq_eq_false_iff_ne.2 h4
          have HR := Sh10.mk (show patB c = smallB c by simp [patB, h1, h2, h3, h4])
          clear h1 h2 h3 h4
          go_enter Try.func77, Try.ntmps77
          go_wp2_with fail
          refine (isSmall_any _ _).mono ?_
          rintro e w' ⟨rfl, rfl⟩
          go_wp2
          go_ret
          exact ⟨ret_bool HR.out.symm, rfl⟩

theorem vow_index_all : ∀ n : Nat, n < 128 → decide (0 ≤ Lib.indexByte [97, 101, 105, 111, 117] n.toUInt8) = vowB (n : Int) := by decide +kernel
theorem vow_index {c : Int} (h0 : 0 ≤ c) (h1 : c < 128) : decide (0 ≤ Lib.indexByte [97, 101, 105, 111, 117] c.toNat.toUInt8) = vowB c := by
  obtain ⟨n, rfl⟩ := Int.eq_ofNat_of_zero_le h0
  rw [Int.toNat_natCast]
  exact vow_index_all n (by omega)
theorem isVowel_any (c : Int) (w : World) (h0 : 0 ≤ c) (h1 : c < 128) : Calls Try.prog 129 #[.int .i32 c] w fun e w' => e = .returned (.bool (vowB c)) ∧ w' = w := by
  have H := Sh10.mk (vow_index h0 h1)
  go_enter Try.func129, Try.ntmps129
  go_wp2_with fail
  refine (Try.strings_ContainsRune_ascii _ _ _ h0 h1).mono ?_
  rintro e w' ⟨rfl, rfl⟩
  go_wp2
  go_ret
  exact ⟨ret_bool H.out, rfl⟩
theorem notVowel_any (c : Int) (w : World) (h0 : 0 ≤ c) (h1 : c < 128) : Calls Try.prog 130 #[.int .i32 c] w fun e w' => e = .returned (.bool (!vowB c)) ∧ w' = w := by
  go_enter Try.func130, Try.ntmps130
  go_wp2_with fail
  refine (isVowel_any c _ h0 h1).mono ?_
  rintro e w' ⟨rfl, rfl⟩
  go_wp2
  go_ret
  exact ⟨rfl, rfl⟩
theorem isByte_any {g : Nat} {b : Int} (c : Int) (w : World) (hg : Blk w g 21 #[.int .i32 b]) : Calls Try.prog 131 #[.int .i32 c, .pointer (some ⟨g, 0, none⟩)] w fun e w' => e = .returned (.bool (c == b)) ∧ w' = w := by
  have c0 := hg.cells
  go_enter Try.func131, Try.ntmps131
  go_wp2
  go_ret
  exact ⟨rfl, rfl⟩

theorem decode_pat (s : ByteArray) (pos : Nat) (h : pos < s.size) (hn : patB ((s[pos]'h).toNat : Int) = true) : Utf8.decode s pos = ((s[pos]'h).toNat, 1) := by
  have := patB_low hn
  exact decode_ascii s pos h (by omega)
theorem decode_nopat (s : ByteArray) (pos : Nat) (h : pos < s.size) (hn : patB ((s[pos]'h).toNat : Int) = false) : patB ((Utf8.decode s pos).1 : Int) = false := by
  by_cases ha : (s[pos]'h).toNat < 128
  · rw [decode_ascii s pos h ha]; exact hn
  · have := (decode_high s pos h (by omega)).1
    exact patB_high (by omega)
set_option maxHeartbeats 1000000 in
theorem implValidPattern_any (s : ByteArray) (w : World) (hs : s.size ≤ maxLen) :
    Calls Try.prog 25 #[.string s] w fun e w' => e = .returned (.bool (okP s)) ∧ Below w.heap.size w w' := by
  unfold maxLen at hs
  rcases Nat.eq_zero_or_pos s.size with h0 | h0
  · have hE := empty_yes h0
    have HW := Sh10.mk (okP_short h0)
    clear h0
    go_enter Try.func25, Try.ntmps25
    go_wp2
    go_ret
    exact ⟨ret_bool HW.out.symm, Below.refl _ _⟩
  · have hE := empty_no h0
    by_cases h12 : 12 < s.size
    · have HW := Sh10.mk (okP_long h12)
      have h12' : (12 : Int) < (s.size : Int) := by omega
      clear h12
      go_enter Try.func25, Try.ntmps25
      go_wp2
      go_ret
      exact ⟨ret_bool HW.out.symm, Below.refl _ _⟩
    · have h12' : ¬ (12 : Int) < (s.size : Int) := by omega
      have HST := Sh10.mk (show Lib.countByte s.data.toList 42 = starsN s.data.toList from (starsN_byte _).symm)
      by_cases h3 : 3 < starsN s.data.toList
      · have HW := Sh10.mk (okP_stars h3)
        obtain ⟨N, hN⟩ : ∃ N, starsN s.data.toList = N := ⟨_, rfl⟩
        rw [hN] at HST h3
        have h3' : (3 : Int) < (N : Int) := by omega
        clear h3 h12 hN
        go_enter Try.func25, Try.ntmps25
        go_wp2_with fail
        refine (Try.strings_Count_one _ _ _).mono ?_
        rw [HST.out]
        rintro e w' ⟨rfl, rfl⟩
        go_wp2
        go_ret
        exact ⟨ret_bool HW.out.symm, Below.refl _ _⟩
      · have H3 := Sh10.mk h3
        obtain ⟨N, hN⟩ : ∃ N, starsN s.data.toList = N := ⟨_, rfl⟩
        rw [hN] at HST h3
        have h3' : ¬ (3 : Int) < (N : Int) := by omega
        clear h3 hN
        go_enter Try.func25, Try.ntmps25
        go_wp2_with fail
        refine (Try.strings_Count_one _ _ _).mono ?_
        rw [HST.out]
        rintro e w' ⟨rfl, rfl⟩
        go_wp2
        go_loopw [4] (fun _ w2 => ∃ k : Nat, k ≤ s.size ∧ w2 = w'.iter s k ∧ Sh10 (allPat (s.data.toList.take k) = true)) (fun _ w2 => s.size - w2.iterPos w'.heap.size)
        case atStart => exact ⟨0, Nat.zero_le _, rfl, ⟨rfl⟩⟩
        case round =>
          obtain ⟨k, hk, rfl, ha⟩ := hrel
          by_cases hp : k < s.size
          · have hg := Sh10.mk (allPat_grows s k hp)
            have hno := okP_not s k hp
            have hdy := decode_pat s k hp
            have hdn := decode_nopat s k hp
            have hnx : ∀ ty, (Instr.next (.pointer (some ⟨w'.heap.size, 0, none⟩)) true ty).run Try.prog (w'.iter s k) = _ := fun ty => run_next_any w' s k ty hp
            cases hb : patB ((s[k]'hp).toNat : Int)
            · have hN := Sh10.mk (hno hb)
              have hD := Sh10.mk (hdn hb)
              clear hno hb hdy hdn
              go_wp2_with fail
              refine (isPatternByte_any _ _).mono ?_
              rw [hD.out]
              rintro e w' ⟨rfl, rfl⟩
              go_wp2
              go_ret
              exact ⟨ret_bool hN.out.symm, below_iter _ _⟩
            · have HB := Sh10.mk hb
              have hD := Sh10.mk (hdy hb)
              clear hno hb hdy hdn
              go_wp2_with fail
              refine (isPatternByte_any _ _).mono ?_
              rw [hD.out, HB.out]
              rintro e w' ⟨rfl, rfl⟩
              go_wp2
              go_roundw
              case rel => exact ⟨k + 1, by omega, rfl, ⟨by rw [hg.out, ha.out, HB.out]; rfl⟩⟩
              case measure => simp; omega
          · have hnx : ∀ ty, (Instr.next (.pointer (some ⟨w'.heap.size, 0, none⟩)) true ty).run Try.prog (w'.iter s k) = _ := fun ty => run_next_end w' s k ty hp
            have hk' : s.size = k := by omega
            have ha' : allPat s.data.toList = true := by rw [← take_all s, hk']; exact ha.out
            have HW := Sh10.mk (okP_yes h0 (by omega) (by have := H3.out; omega) ha')
            clear ha' hk' ha
            go_wp2
            go_ret
            exact ⟨ret_bool HW.out.symm, below_iter _ _⟩
end Go.Proofs.Ytpjekfebpgjgnaa
