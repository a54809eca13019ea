/-
  The contracts of chapter 1's small functions, of the program and of the model.
-/
import Derived.Test.YtagabcddonmdgaaRows
import Derived.Test.YtagabcddonmdgaaA
namespace Go.Proofs.Ytagabcddonmdgaa
open Go.RowKit

set_option maxHeartbeats 400000 in
theorem l01Small_any (c : Int) (w : World) : Calls Try.prog 92 #[.int .u8 c] w fun e w' => e = .returned (.bool (smallB c)) ∧ w = w' := by
  by_cases h1 : 97 ≤ c
  · by_cases h2 : c ≤ 122
    · rw [smallB_yes h1 h2]
      go_enter Try.func92, Try.ntmps92
      go_wp2
      go_ret
      exact ⟨rfl, rfl⟩
    · rw [smallB_no (fun h => h2 h.2)]
      go_enter Try.func92, Try.ntmps92
      go_wp2
      go_ret
      exact ⟨rfl, rfl⟩
  · rw [smallB_no (fun h => h1 h.1)]
    go_enter Try.func92, Try.ntmps92
    go_wp2
    go_ret
    exact ⟨rfl, rfl⟩

set_option maxHeartbeats 400000 in
theorem isSmall_any (c : Int) (w : World) : Calls Try.prog 80 #[.int .i32 c] w fun e w' => e = .returned (.bool (smallB c)) ∧ w = w' := by
  by_cases h1 : 97 ≤ c
  · by_cases h2 : c ≤ 122
    · rw [smallB_yes h1 h2]
      go_enter Try.func80, Try.ntmps80
      go_wp2
      go_ret
      exact ⟨rfl, rfl⟩
    · rw [smallB_no (fun h => h2 h.2)]
      go_enter Try.func80, Try.ntmps80
      go_wp2
      go_ret
      exact ⟨rfl, rfl⟩
  · rw [smallB_no (fun h => h1 h.1)]
    go_enter Try.func80, Try.ntmps80
    go_wp2
    go_ret
    exact ⟨rfl, rfl⟩

set_option maxHeartbeats 400000 in
theorem l01Digit_any (c : Int) (w : World) : Calls Try.prog 93 #[.int .u8 c] w fun e w' => e = .returned (.bool (digitB c)) ∧ w = w' := by
  by_cases h1 : 48 ≤ c
  · by_cases h2 : c ≤ 57
    · rw [digitB_yes h1 h2]
      go_enter Try.func93, Try.ntmps93
      go_wp2
      go_ret
      exact ⟨rfl, rfl⟩
    · rw [digitB_no (fun h => h2 h.2)]
      go_enter Try.func93, Try.ntmps93
      go_wp2
      go_ret
      exact ⟨rfl, rfl⟩
  · rw [digitB_no (fun h => h1 h.1)]
    go_enter Try.func93, Try.ntmps93
    go_wp2
    go_ret
    exact ⟨rfl, rfl⟩

set_option maxHeartbeats 400000 in
theorem isDigit_any (c : Int) (w : World) : Calls Try.prog 94 #[.int .i32 c] w fun e w' => e = .returned (.bool (digitB c)) ∧ w = w' := by
  by_cases h1 : 48 ≤ c
  · by_cases h2 : c ≤ 57
    · rw [digitB_yes h1 h2]
      go_enter Try.func94, Try.ntmps94
      go_wp2
      go_ret
      exact ⟨rfl, rfl⟩
    · rw [digitB_no (fun h => h2 h.2)]
      go_enter Try.func94, Try.ntmps94
      go_wp2
      go_ret
      exact ⟨rfl, rfl⟩
  · rw [digitB_no (fun h => h1 h.1)]
    go_enter Try.func94, Try.ntmps94
    go_wp2
    go_ret
    exact ⟨rfl, rfl⟩

set_option maxHeartbeats 400000 in
theorem l00In_any (n l h : Int) (w : World) : Calls Try.prog 97 #[.int .i64 n, .int .i64 l, .int .i64 h] w fun e w' => e = .returned (.bool (inB n l h)) ∧ w = w' := by
  by_cases h1 : l ≤ n
  · by_cases h2 : n ≤ h
    · rw [inB_yes h1 h2]
      go_enter Try.func97, Try.ntmps97
      go_wp2
      go_ret
      exact ⟨rfl, rfl⟩
    · rw [inB_no (fun hn => h2 hn.2)]
      go_enter Try.func97, Try.ntmps97
      go_wp2
      go_ret
      exact ⟨rfl, rfl⟩
  · rw [inB_no (fun hn => h1 hn.1)]
    go_enter Try.func97, Try.ntmps97
    go_wp2
    go_ret
    exact ⟨rfl, rfl⟩

/-! ### IsWord: the model's and the program's -/
theorem ret_bool {a b : Bool} (h : a = b) : Ending.returned (.bool a) = .returned (.bool b) := by rw [h]

set_option maxHeartbeats 1000000 in
theorem specIsWord_any (s : ByteArray) (w : World) (hs : s.size ≤ maxLen) :
    Calls Try.prog 85 #[.string s] w fun e w' => e = .returned (.bool (isWordB s.data.toList)) ∧ w = w' := by
  unfold maxLen at hs
  go_enter Try.func85, Try.ntmps85
  go_wp2
  go_loop [3] (fun i => ∃ k : Nat, k ≤ s.size ∧ i = .int .i64 k ∧ Hid (allSmall (s.data.toList.take k) = true)) (fun i => s.size - (intOf i).toNat)
  case atStart => exact ⟨0, Nat.zero_le _, rfl, by simp [Hid, allSmall]⟩
  case round =>
    obtain ⟨k, hk, rfl, ha⟩ := hrel
    by_cases hlt : k < s.size
    · have hg := hid (allSmall_grows s k hlt)
      have hno := isWordB_not s k hlt
      cases hb : smallB (s[k].toNat : Int)
      · have hN := hid (hno hb)
        clear hno
        have HB := hid hb
        clear hb
        go_wp2_with (go_at_call 92; refine (l01Small_any _ _).mono ?_; rw [HB.out]; rintro e w' ⟨rfl, rfl⟩)
        go_ret
        exact ⟨ret_bool hN.out.symm, rfl⟩
      · have HB := hid hb
        clear hb hno
        go_wp2_with (go_at_call 92; refine (l01Small_any _ _).mono ?_; rw [HB.out]; rintro e w' ⟨rfl, rfl⟩)
        go_round
        case rel => exact ⟨k + 1, by omega, by go_num, by rw [Hid, hg.out, ha.out, HB.out]; rfl⟩
        case measure => simp [intOf]; omega
    · have hk' : s.size = k := by omega
      have ha' : allSmall s.data.toList = true := by rw [← take_all s, hk']; exact ha.out
      have HA := hid ha'
      clear ha' hk' ha
      go_wp2_with (go_at_call 97; refine (l00In_any _ _ _ _).mono ?_; rintro e w' ⟨rfl, rfl⟩)
      go_ret
      exact ⟨ret_bool (inB_word s HA.out), rfl⟩

theorem width_pos (s : ByteArray) (pos : Nat) (h : pos < s.size) : 1 ≤ (Utf8.decode s pos).2 := by
  by_cases ha : (s[pos]'h).toNat < 128
  · rw [decode_ascii s pos h ha]
    exact Nat.le_refl _
  · exact (decode_high s pos h (by omega)).2
/-- What the iterator tells of a byte: itself and one step on if it is below 128, a number that is no small letter else. -/
theorem decode_small (s : ByteArray) (pos : Nat) (h : pos < s.size) : smallB ((Utf8.decode s pos).1 : Int) = smallB ((s[pos]'h).toNat : Int) := by
  by_cases ha : (s[pos]'h).toNat < 128
  · rw [decode_ascii s pos h ha]
  · have := (decode_high s pos h (by omega)).1
    rw [smallB_no (by omega), smallB_no (by omega)]
theorem decode_one (s : ByteArray) (pos : Nat) (h : pos < s.size) (hs : smallB ((s[pos]'h).toNat : Int) = true) : (Utf8.decode s pos).2 = 1 := by
  rw [smallB_iff] at hs
  rw [decode_ascii s pos h (by omega)]

theorem below_iter {w : World} (s : ByteArray) (pos : Nat) : Below w.heap.size w (w.iter s pos) := (Below.refl _ _).alloc (Nat.le_refl _) _

set_option maxHeartbeats 1000000 in
theorem implIsWord_any (s : ByteArray) (w : World) (hs : s.size ≤ maxLen) :
    Calls Try.prog 81 #[.string s] w fun e w' => e = .returned (.bool (isWordB s.data.toList)) ∧ Below w.heap.size w w' := by
  unfold maxLen at hs
  rcases Nat.eq_zero_or_pos s.size with h0 | h0
  · have hE := empty_yes h0
    have HW := hid (isWordB_short h0)
    clear h0
    go_enter Try.func81, Try.ntmps81
    go_wp2
    go_ret
    exact ⟨ret_bool HW.out.symm, Below.refl _ _⟩
  · have hE := empty_no h0
    by_cases h12 : 12 < s.size
    · have HW := hid (isWordB_long h12)
      have h12' : (12 : Int) < (s.size : Int) := by omega
      clear h12
      go_enter Try.func81, Try.ntmps81
      go_wp2
      go_ret
      exact ⟨ret_bool HW.out.symm, Below.refl _ _⟩
    · have h12' : ¬ (12 : Int) < (s.size : Int) := by omega
      go_enter Try.func81, Try.ntmps81
      go_wp2
      go_loopw [4] (fun _ w' => ∃ k : Nat, k ≤ s.size ∧ w' = w.iter s k ∧ Hid (allSmall (s.data.toList.take k) = true)) (fun _ w' => s.size - w'.iterPos w.heap.size)
      case atStart => exact ⟨0, Nat.zero_le _, rfl, by simp [Hid, allSmall]⟩
      case round =>
        obtain ⟨k, hk, rfl, ha⟩ := hrel
        by_cases hp : k < s.size
        · have hg := hid (allSmall_grows s k hp)
          have hno := isWordB_not s k hp
          have hds := decode_small s k hp
          have hd1 := decode_one s k hp
          have hnx : ∀ ty, (Instr.next (.pointer (some ⟨w.heap.size, 0, none⟩)) true ty).run Try.prog (w.iter s k) = _ := fun ty => run_next_any w s k ty hp
          cases hb : smallB ((s[k]'hp).toNat : Int)
          · have hN := hid (hno hb)
            have hD := hid (hds.trans hb)
            clear hno hb hds hd1
            go_wp2_with (go_at_call 80; refine (isSmall_any _ _).mono ?_; rw [hD.out]; rintro e w' ⟨rfl, rfl⟩)
            go_ret
            exact ⟨ret_bool hN.out.symm, below_iter _ _⟩
          · have hD := hid (hds.trans hb)
            have h1 := hid (hd1 hb)
            have HB := hid hb
            clear hno hb hds hd1
            go_wp2_with (go_at_call 80; refine (isSmall_any _ _).mono ?_; rw [hD.out]; rintro e w' ⟨rfl, rfl⟩)
            go_roundw
            case rel => exact ⟨k + 1, by omega, by rw [h1.out], by rw [Hid, hg.out, ha.out, HB.out]; rfl⟩
            case measure => simp [h1.out]; omega
        · have hnx : ∀ ty, (Instr.next (.pointer (some ⟨w.heap.size, 0, none⟩)) true ty).run Try.prog (w.iter s k) = _ := fun ty => run_next_end w s k ty hp
          have hk' : s.size = k := by omega
          have ha' : allSmall s.data.toList = true := by rw [← take_all s, hk']; exact ha.out
          have HW := hid (isWordB_yes h0 (by omega) ha')
          clear ha' hk' ha
          go_wp2
          go_ret
          exact ⟨ret_bool HW.out.symm, below_iter _ _⟩

/-! ### IsName -/
set_option maxHeartbeats 1000000 in
theorem specIsName_any (s : ByteArray) (w : World) (hs : s.size ≤ maxLen) :
    Calls Try.prog 73 #[.string s] w fun e w' => e = .returned (.bool (isNameB s.data.toList)) ∧ w = w' := by
  unfold maxLen at hs
  rcases Nat.eq_zero_or_pos s.size with h0 | h0
  · have hE := empty_yes h0
    have HW := hid (isNameB_short h0)
    clear h0
    go_enter Try.func73, Try.ntmps73
    go_wp2
    go_ret
    exact ⟨ret_bool HW.out.symm, rfl⟩
  · have hE := empty_no h0
    by_cases h12 : 12 < s.size
    · have HW := hid (isNameB_long h12)
      have h12' : (12 : Int) < (s.size : Int) := by omega
      clear h12
      go_enter Try.func73, Try.ntmps73
      go_wp2
      go_ret
      exact ⟨ret_bool HW.out.symm, rfl⟩
    · have h12' : ¬ (12 : Int) < (s.size : Int) := by omega
      cases hh : smallB ((s[0]'h0).toNat : Int)
      · have HW := hid (isNameB_head h0 hh)
        have HH := hid hh
        clear hh
        go_enter Try.func73, Try.ntmps73
        go_wp2_with (go_at_call 92; refine (l01Small_any _ _).mono ?_; rw [HH.out]; rintro e w' ⟨rfl, rfl⟩)
        go_ret
        exact ⟨ret_bool HW.out.symm, rfl⟩
      · have HH := hid hh
        clear hh
        go_enter Try.func73, Try.ntmps73
        go_wp2_with (go_at_call 92; refine (l01Small_any _ _).mono ?_; rw [HH.out]; rintro e w' ⟨rfl, rfl⟩)
        go_loop [3] (fun i => ∃ k : Nat, k ≤ s.size ∧ i = .int .i64 k ∧ Hid (allName (s.data.toList.take k) = true)) (fun i => s.size - (intOf i).toNat)
        case atStart => exact ⟨0, Nat.zero_le _, rfl, by simp [Hid, allName]⟩
        case round =>
          obtain ⟨k, hk, rfl, ha⟩ := hrel
          by_cases hlt : k < s.size
          · have hg := hid (allName_grows s k hlt)
            have hno := isNameB_not s k hlt
            cases hb : smallB (s[k].toNat : Int)
            · cases hd : digitB (s[k].toNat : Int)
              · by_cases h45 : (s[k].toNat : Int) = 45
                · have hn := hid (nameB_dash h45)
                  have h1 : (45 : Int) ≤ (s[k].toNat : Int) := by omega
                  have h2 : (s[k].toNat : Int) ≤ 45 := by omega
                  have HB := hid hb
                  have HD := hid hd
                  clear hb hd h45 hno
                  go_wp2_with (first | (go_at_call 92; refine (l01Small_any _ _).mono ?_; rw [HB.out]; rintro e w' ⟨rfl, rfl⟩) | (go_at_call 93; refine (l01Digit_any _ _).mono ?_; rw [HD.out]; rintro e w' ⟨rfl, rfl⟩))
                  go_round
                  case rel => exact ⟨k + 1, by omega, by go_num, by rw [Hid, hg.out, ha.out, hn.out]; rfl⟩
                  case measure => simp [intOf]; omega
                · have hN := hid (hno (nameB_none hb hd h45))
                  have HB := hid hb
                  have HD := hid hd
                  have h45' : ((s[k].toNat : Int) == 45) = false := by simpa using h45
                  clear hb hd hno h45
                  go_wp2_with (first | (go_at_call 92; refine (l01Small_any _ _).mono ?_; rw [HB.out]; rintro e w' ⟨rfl, rfl⟩) | (go_at_call 93; refine (l01Digit_any _ _).mono ?_; rw [HD.out]; rintro e w' ⟨rfl, rfl⟩))
                  go_ret
                  exact ⟨ret_bool hN.out.symm, rfl⟩
              · have hn := hid (nameB_digit hd)
                have HB := hid hb
                have HD := hid hd
                clear hb hd hno
                go_wp2_with (first | (go_at_call 92; refine (l01Small_any _ _).mono ?_; rw [HB.out]; rintro e w' ⟨rfl, rfl⟩) | (go_at_call 93; refine (l01Digit_any _ _).mono ?_; rw [HD.out]; rintro e w' ⟨rfl, rfl⟩))
                go_round
                case rel => exact ⟨k + 1, by omega, by go_num, by rw [Hid, hg.out, ha.out, hn.out]; rfl⟩
                case measure => simp [intOf]; omega
            · have hn := hid (nameB_small hb)
              have HB := hid hb
              clear hb hno
              go_wp2_with (go_at_call 92; refine (l01Small_any _ _).mono ?_; rw [HB.out]; rintro e w' ⟨rfl, rfl⟩)
              go_round
              case rel => exact ⟨k + 1, by omega, by go_num, by rw [Hid, hg.out, ha.out, hn.out]; rfl⟩
              case measure => simp [intOf]; omega
          · have hk' : s.size = k := by omega
            have ha' : allName s.data.toList = true := by rw [← take_all s, hk']; exact ha.out
            have HW := hid (isNameB_yes h0 (by omega) HH.out ha')
            clear ha' hk' ha
            go_wp2
            go_ret
            exact ⟨ret_bool HW.out.symm, rfl⟩

/-- What the iterator tells of a byte that may stand in a name: itself, and one step on; and of any other byte a number that may not. -/
theorem decode_name (s : ByteArray) (pos : Nat) (h : pos < s.size) (hn : nameB ((s[pos]'h).toNat : Int) = true) : Utf8.decode s pos = ((s[pos]'h).toNat, 1) := by
  have := nameB_low hn
  exact decode_ascii s pos h (by omega)
theorem decode_noname (s : ByteArray) (pos : Nat) (h : pos < s.size) (hn : nameB ((s[pos]'h).toNat : Int) = false) : nameB ((Utf8.decode s pos).1 : Int) = false := by
  by_cases ha : (s[pos]'h).toNat < 128
  · rw [decode_ascii s pos h ha]; exact hn
  · exact nameB_high (by have := (decode_high s pos h (by omega)).1; omega)
theorem nameB_parts {c : Int} (h : nameB c = false) : smallB c = false ∧ digitB c = false ∧ ¬ c = 45 := by
  simp [nameB] at h
  exact ⟨h.1.1, h.1.2, h.2⟩
theorem headSmall_no {s : ByteArray} (h0 : 0 < s.size) (h : smallB ((Utf8.decode s 0).1 : Int) = false) : isNameB s.data.toList = false :=
  isNameB_head h0 ((decode_small s 0 h0).symm.trans h)

set_option maxHeartbeats 2000000 in
theorem implIsName_any (s : ByteArray) (w : World) (hs : s.size ≤ maxLen) :
    Calls Try.prog 77 #[.string s] w fun e w' => e = .returned (.bool (isNameB s.data.toList)) ∧ Below w.heap.size w w' := by
  unfold maxLen at hs
  rcases Nat.eq_zero_or_pos s.size with h0 | h0
  · have hE := empty_yes h0
    have HW := hid (isNameB_short h0)
    clear h0
    go_enter Try.func77, Try.ntmps77
    go_wp2
    go_ret
    exact ⟨ret_bool HW.out.symm, Below.refl _ _⟩
  · have hE := empty_no h0
    by_cases h12 : 12 < s.size
    · have HW := hid (isNameB_long h12)
      have h12' : (12 : Int) < (s.size : Int) := by omega
      clear h12
      go_enter Try.func77, Try.ntmps77
      go_wp2
      go_ret
      exact ⟨ret_bool HW.out.symm, Below.refl _ _⟩
    · have h12' : ¬ (12 : Int) < (s.size : Int) := by omega
      go_enter Try.func77, Try.ntmps77
      go_wp2
      go_loopw [3, 4] (fun _ _ w' => ∃ k : Nat, k ≤ s.size ∧ w' = w.iter s k ∧ Hid (allName (s.data.toList.take k) = true) ∧ Hid (0 < k → smallB ((s[0]'h0).toNat : Int) = true)) (fun _ _ w' => s.size - w'.iterPos w.heap.size)
      case atStart => exact ⟨0, Nat.zero_le _, rfl, by simp [Hid, allName], fun h => absurd h (by omega)⟩
      case round =>
        obtain ⟨k, hk, rfl, ha, hf⟩ := hrel
        by_cases hp : k < s.size
        · have hnx : ∀ ty, (Instr.next (.pointer (some ⟨w.heap.size, 0, none⟩)) true ty).run Try.prog (w.iter s k) = _ := fun ty => run_next_any w s k ty hp
          have hg := hid (allName_grows s k hp)
          cases hb : smallB ((Utf8.decode s k).1 : Int)
          · rcases Nat.eq_zero_or_pos k with hk0 | hk0
            · have hN : isNameB s.data.toList = false := by subst hk0; exact headSmall_no h0 hb
              have HN := hid hN
              have HB := hid hb
              have hk1 : ((k : Int) == 0) = true := by simp [hk0]
              clear hN hb hk0 ha hf
              go_wp2_with (go_at_call 80; refine (isSmall_any _ _).mono ?_; rw [HB.out]; rintro e w' ⟨rfl, rfl⟩)
              go_ret
              exact ⟨ret_bool HN.out.symm, below_iter _ _⟩
            · have hk1 : ((k : Int) == 0) = false := by rw [beq_eq_false_iff_ne]; omega
              cases hn : nameB ((s[k]'hp).toNat : Int)
              · have hq := hid (decode_noname s k hp hn)
                have hN := hid (isNameB_not s k hp hn)
                have hd := hid (nameB_parts hq.out).2.1
                have h45 : (((Utf8.decode s k).1 : Int) == 45) = false := beq_eq_false_iff_ne.2 (nameB_parts hq.out).2.2
                have HB := hid hb
                have HD := hid hd.out
                clear hb hn hk0
                go_wp2_with (first | (go_at_call 80; refine (isSmall_any _ _).mono ?_; rw [HB.out]; rintro e w' ⟨rfl, rfl⟩) | (go_at_call 94; refine (isDigit_any _ _).mono ?_; rw [HD.out]; rintro e w' ⟨rfl, rfl⟩))
                go_ret
                exact ⟨ret_bool hN.out.symm, below_iter _ _⟩
              · have hdec := hid (decode_name s k hp hn)
                have HN := hid hn
                have hw1 := hid (show (Utf8.decode s k).2 = 1 by rw [hdec.out])
                cases hd : digitB ((Utf8.decode s k).1 : Int)
                · have h45 : ((Utf8.decode s k).1 : Int) = 45 := by
                    by_cases h : ((Utf8.decode s k).1 : Int) = 45
                    · exact h
                    · have := nameB_none hb hd h
                      rw [hdec.out] at this
                      simp only at this
                      rw [hn] at this; cases this
                  have h45a : (45 : Int) ≤ ((Utf8.decode s k).1 : Int) := by omega
                  have h45b : ((Utf8.decode s k).1 : Int) ≤ 45 := by omega
                  have HB := hid hb
                  have HD := hid hd
                  clear hb hn hd h45
                  go_wp2_with (first | (go_at_call 80; refine (isSmall_any _ _).mono ?_; rw [HB.out]; rintro e w' ⟨rfl, rfl⟩) | (go_at_call 94; refine (isDigit_any _ _).mono ?_; rw [HD.out]; rintro e w' ⟨rfl, rfl⟩))
                  go_roundw
                  case rel => exact ⟨k + 1, by omega, by rw [hw1.out], by rw [Hid, hg.out, ha.out, HN.out]; rfl, fun _ => hf.out hk0⟩
                  case measure => simp [hw1.out]; omega
                · have HB := hid hb
                  have HD := hid hd
                  clear hb hn hd
                  go_wp2_with (first | (go_at_call 80; refine (isSmall_any _ _).mono ?_; rw [HB.out]; rintro e w' ⟨rfl, rfl⟩) | (go_at_call 94; refine (isDigit_any _ _).mono ?_; rw [HD.out]; rintro e w' ⟨rfl, rfl⟩))
                  go_roundw
                  case rel => exact ⟨k + 1, by omega, by rw [hw1.out], by rw [Hid, hg.out, ha.out, HN.out]; rfl, fun _ => hf.out hk0⟩
                  case measure => simp [hw1.out]; omega
          · have hb' : smallB ((s[k]'hp).toNat : Int) = true := (decode_small s k hp).symm.trans hb
            have hn := hid (nameB_small hb')
            have hw1 := hid (decode_one s k hp hb')
            have hf' : Hid (smallB ((s[0]'h0).toNat : Int) = true) := by
              rcases Nat.eq_zero_or_pos k with hk0 | hk0
              · subst hk0; exact hb'
              · exact hf.out hk0
            have HB := hid hb
            clear hb hb'
            go_wp2_with (go_at_call 80; refine (isSmall_any _ _).mono ?_; rw [HB.out]; rintro e w' ⟨rfl, rfl⟩)
            go_roundw
            case rel => exact ⟨k + 1, by omega, by rw [hw1.out], by rw [Hid, hg.out, ha.out, hn.out]; rfl, fun _ => hf'.out⟩
            case measure => simp [hw1.out]; omega
        · have hnx : ∀ ty, (Instr.next (.pointer (some ⟨w.heap.size, 0, none⟩)) true ty).run Try.prog (w.iter s k) = _ := fun ty => run_next_end w s k ty hp
          have hk' : s.size = k := by omega
          have ha' : allName s.data.toList = true := by rw [← take_all s, hk']; exact ha.out
          have HW := hid (isNameB_yes h0 (by omega) (hf.out (by omega)) ha')
          clear ha' hk' ha hf
          go_wp2
          go_ret
          exact ⟨ret_bool HW.out.symm, below_iter _ _⟩

end Go.Proofs.Ytagabcddonmdgaa
