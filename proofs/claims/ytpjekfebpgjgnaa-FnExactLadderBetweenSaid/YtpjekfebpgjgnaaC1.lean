/-
  The contracts of chapter 1's small functions, of the program and of the model.
-/
import Derived.Test.YtpjekfebpgjgnaaRows
import Derived.Test.YtpjekfebpgjgnaaA
namespace Go.Proofs.Ytpjekfebpgjgnaa
open Go.RowKit

set_option maxHeartbeats 400000 in
theorem l01Small_any (c : Int) (w : World) : Calls Try.prog 133 #[.int .u8 c] w fun e w' => e = .returned (.bool (smallB c)) ∧ w = w' := by
  by_cases h1 : 97 ≤ c
  · by_cases h2 : c ≤ 122
    · rw [smallB_yes h1 h2]
      go_enter Try.func133, Try.ntmps133
      go_wp2
      go_ret
      exact ⟨rfl, rfl⟩
    · rw [smallB_no (fun h => h2 h.2)]
      go_enter Try.func133, Try.ntmps133
      go_wp2
      go_ret
      exact ⟨rfl, rfl⟩
  · rw [smallB_no (fun h => h1 h.1)]
    go_enter Try.func133, Try.ntmps133
    go_wp2
    go_ret
    exact ⟨rfl, rfl⟩

set_option maxHeartbeats 400000 in
theorem isSmall_any (c : Int) (w : World) : Calls Try.prog 79 #[.int .i32 c] w fun e w' => e = .returned (.bool (smallB c)) ∧ w = w' := by
  by_cases h1 : 97 ≤ c
  · by_cases h2 : c ≤ 122
    · rw [smallB_yes h1 h2]
      go_enter Try.func79, Try.ntmps79
      go_wp2
      go_ret
      exact ⟨rfl, rfl⟩
    · rw [smallB_no (fun h => h2 h.2)]
      go_enter Try.func79, Try.ntmps79
      go_wp2
      go_ret
      exact ⟨rfl, rfl⟩
  · rw [smallB_no (fun h => h1 h.1)]
    go_enter Try.func79, Try.ntmps79
    go_wp2
    go_ret
    exact ⟨rfl, rfl⟩



set_option maxHeartbeats 400000 in
theorem l00In_any (n l h : Int) (w : World) : Calls Try.prog 134 #[.int .i64 n, .int .i64 l, .int .i64 h] w fun e w' => e = .returned (.bool (inB n l h)) ∧ w = w' := by
  by_cases h1 : l ≤ n
  · by_cases h2 : n ≤ h
    · rw [inB_yes h1 h2]
      go_enter Try.func134, Try.ntmps134
      go_wp2
      go_ret
      exact ⟨rfl, rfl⟩
    · rw [inB_no (fun hn => h2 hn.2)]
      go_enter Try.func134, Try.ntmps134
      go_wp2
      go_ret
      exact ⟨rfl, rfl⟩
  · rw [inB_no (fun hn => h1 hn.1)]
    go_enter Try.func134, Try.ntmps134
    go_wp2
    go_ret
    exact ⟨rfl, rfl⟩

/-! ### IsWord: the model's and the program's -/
theorem ret_bool {a b : Bool} (h : a = b) : Ending.returned (.bool a) = .returned (.bool b) := by rw [h]

set_option maxHeartbeats 1000000 in
theorem specIsWord_any (s : ByteArray) (w : World) (hs : s.size ≤ maxLen) :
    Calls Try.prog 78 #[.string s] w fun e w' => e = .returned (.bool (isWordB s.data.toList)) ∧ w = w' := by
  unfold maxLen at hs
  go_enter Try.func78, Try.ntmps78
  go_wp2
  go_loop [3] (fun i => ∃ k : Nat, k ≤ s.size ∧ i = .int .i64 k ∧ Hid (allSmall (s.data.toList.take k) = true)) (fun i => s.size - (intOf i).toNat)
  case atStart => exact ⟨0, Nat.zero_le _, rfl, by simp [Hid, allSmall]⟩
  case round =>
    obtain ⟨k, hk, rfl, ha⟩ := hrel
    by_cases hlt : k < s.size
    · have hg := hid (allSmall_grows s k hlt)
      have hno := isWordB_not s k hlt
      cases hb : smallB (s[k].toNat : Int)
      · have hN := hid (hno hb)
        clear hno
        have HB := hid hb
        clear hb
        go_wp2_with (go_at_call 133; refine (l01Small_any _ _).mono ?_; rw [HB.out]; rintro e w' ⟨rfl, rfl⟩)
        go_ret
        exact ⟨ret_bool hN.out.symm, rfl⟩
      · have HB := hid hb
        clear hb hno
        go_wp2_with (go_at_call 133; refine (l01Small_any _ _).mono ?_; rw [HB.out]; rintro e w' ⟨rfl, rfl⟩)
        go_round
        case rel => exact ⟨k + 1, by omega, by go_num, by rw [Hid, hg.out, ha.out, HB.out]; rfl⟩
        case measure => simp [intOf]; omega
    · have hk' : s.size = k := by omega
      have ha' : allSmall s.data.toList = true := by rw [← take_all s, hk']; exact ha.out
      have HA := hid ha'
      clear ha' hk' ha
      go_wp2_with (go_at_call 134; refine (l00In_any _ _ _ _).mono ?_; rintro e w' ⟨rfl, rfl⟩)
      go_ret
      exact ⟨ret_bool (inB_word s HA.out), rfl⟩

theorem width_pos (s : ByteArray) (pos : Nat) (h : pos < s.size) : 1 ≤ (Utf8.decode s pos).2 := by
  by_cases ha : (s[pos]'h).toNat < 128
  · rw [decode_ascii s pos h ha]
    exact Nat.le_refl _
  · exact (decode_high s pos h (by omega)).2
/-- What the iterator tells of a byte: itself and one step on if it is below 128, a number that is no small letter else. -/
theorem decode_small (s : ByteArray) (pos : Nat) (h : pos < s.size) : smallB ((Utf8.decode s pos).1 : Int) = smallB ((s[pos]'h).toNat : Int) := by
  by_cases ha : (s[pos]'h).toNat < 128
  · rw [decode_ascii s pos h ha]
  · have := (decode_high s pos h (by omega)).1
    rw [smallB_no (by omega), smallB_no (by omega)]
theorem decode_one (s : ByteArray) (pos : Nat) (h : pos < s.size) (hs : smallB ((s[pos]'h).toNat : Int) = true) : (Utf8.decode s pos).2 = 1 := by
  rw [smallB_iff] at hs
  rw [decode_ascii s pos h (by omega)]

theorem below_iter {w : World} (s : ByteArray) (pos : Nat) : Below w.heap.size w (w.iter s pos) := (Below.refl _ _).alloc (Nat.le_refl _) _

set_option maxHeartbeats 1000000 in
theorem implIsWord_any (s : ByteArray) (w : World) (hs : s.size ≤ maxLen) :
    Calls Try.prog 29 #[.string s] w fun e w' => e = .returned (.bool (isWordB s.data.toList)) ∧ Below w.heap.size w w' := by
  unfold maxLen at hs
  rcases Nat.eq_zero_or_pos s.size with h0 | h0
  · have hE := empty_yes h0
    have HW := hid (isWordB_short h0)
    clear h0
    go_enter Try.func29, Try.ntmps29
    go_wp2
    go_ret
    exact ⟨ret_bool HW.out.symm, Below.refl _ _⟩
  · have hE := empty_no h0
    by_cases h12 : 12 < s.size
    · have HW := hid (isWordB_long h12)
      have h12' : (12 : Int) < (s.size : Int) := by omega
      clear h12
      go_enter Try.func29, Try.ntmps29
      go_wp2
      go_ret
      exact ⟨ret_bool HW.out.symm, Below.refl _ _⟩
    · have h12' : ¬ (12 : Int) < (s.size : Int) := by omega
      go_enter Try.func29, Try.ntmps29
      go_wp2
      go_loopw [4] (fun _ w' => ∃ k : Nat, k ≤ s.size ∧ w' = w.iter s k ∧ Hid (allSmall (s.data.toList.take k) = true)) (fun _ w' => s.size - w'.iterPos w.heap.size)
      case atStart => exact ⟨0, Nat.zero_le _, rfl, by simp [Hid, allSmall]⟩
      case round =>
        obtain ⟨k, hk, rfl, ha⟩ := hrel
        by_cases hp : k < s.size
        · have hg := hid (allSmall_grows s k hp)
          have hno := isWordB_not s k hp
          have hds := decode_small s k hp
          have hd1 := decode_one s k hp
          have hnx : ∀ ty, (Instr.next (.pointer (some ⟨w.heap.size, 0, none⟩)) true ty).run Try.prog (w.iter s k) = _ := fun ty => run_next_any w s k ty hp
          cases hb : smallB ((s[k]'hp).toNat : Int)
          · have hN := hid (hno hb)
            have hD := hid (hds.trans hb)
            clear hno hb hds hd1
            go_wp2_with (go_at_call 79; refine (isSmall_any _ _).mono ?_; rw [hD.out]; rintro e w' ⟨rfl, rfl⟩)
            go_ret
            exact ⟨ret_bool hN.out.symm, below_iter _ _⟩
          · have hD := hid (hds.trans hb)
            have h1 := hid (hd1 hb)
            have HB := hid hb
            clear hno hb hds hd1
            go_wp2_with (go_at_call 79; refine (isSmall_any _ _).mono ?_; rw [hD.out]; rintro e w' ⟨rfl, rfl⟩)
            go_roundw
            case rel => exact ⟨k + 1, by omega, by rw [h1.out], by rw [Hid, hg.out, ha.out, HB.out]; rfl⟩
            case measure => simp [h1.out]; omega
        · have hnx : ∀ ty, (Instr.next (.pointer (some ⟨w.heap.size, 0, none⟩)) true ty).run Try.prog (w.iter s k) = _ := fun ty => run_next_end w s k ty hp
          have hk' : s.size = k := by omega
          have ha' : allSmall s.data.toList = true := by rw [← take_all s, hk']; exact ha.out
          have HW := hid (isWordB_yes h0 (by omega) ha')
          clear ha' hk' ha
          go_wp2
          go_ret
          exact ⟨ret_bool HW.out.symm, below_iter _ _⟩


end Go.Proofs.Ytpjekfebpgjgnaa
