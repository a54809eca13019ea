/-
  The program's functions on affixes: parts, ends, matching.
-/
import Derived.Test.YtilagppmljpclaaF4
namespace Go.Proofs.Ytilagppmljpclaa
open Go.RowKit

theorem decode_dot (d : Bool) (s : ByteArray) (pos : Nat) (h : pos < s.size) (hn : dotB d ((s[pos]'h).toNat : Int) = true) : Utf8.decode s pos = ((s[pos]'h).toNat, 1) := by
  have := dotB_low hn
  exact decode_ascii s pos h (by omega)
theorem decode_nodot (d : Bool) (s : ByteArray) (pos : Nat) (h : pos < s.size) (hn : dotB d ((s[pos]'h).toNat : Int) = false) : dotB d ((Utf8.decode s pos).1 : Int) = false := by
  by_cases ha : (s[pos]'h).toNat < 128
  · rw [decode_ascii s pos h ha]; exact hn
  · exact dotB_high (by have := (decode_high s pos h (by omega)).1; omega)
set_option maxHeartbeats 400000 in
theorem isSmallOrAny_any (c : Int) (w : World) : Calls Try.prog 179 #[.int .i32 c] w fun e w' => e = .returned (.bool (dotB true c)) ∧ w = w' := by
  cases hb : smallB c
  · have HB := hid hb
    by_cases h46 : c = 46
    · have hd := hid (dotB_dot h46)
      have h1 : (c == 46) = true := by simp [h46]
      clear hb h46
      go_enter Try.func179, Try.ntmps179
      go_wp2_with (go_at_call 118; refine (isSmall_any _ _).mono ?_; rw [HB.out]; rintro e w' ⟨rfl, rfl⟩)
      go_ret
      exact ⟨ret_bool hd.out.symm, rfl⟩
    · have hd := hid (dotB_none (d := true) hb h46)
      have h1 : (c == 46) = false := by simpa using h46
      clear hb h46
      go_enter Try.func179, Try.ntmps179
      go_wp2_with (go_at_call 118; refine (isSmall_any _ _).mono ?_; rw [HB.out]; rintro e w' ⟨rfl, rfl⟩)
      go_ret
      exact ⟨ret_bool hd.out.symm, rfl⟩
  · have HB := hid hb
    have hd := hid (dotB_small (d := true) hb)
    clear hb
    go_enter Try.func179, Try.ntmps179
    go_wp2_with (go_at_call 118; refine (isSmall_any _ _).mono ?_; rw [HB.out]; rintro e w' ⟨rfl, rfl⟩)
    go_ret
    exact ⟨ret_bool hd.out.symm, rfl⟩
theorem isSmall_dot (c : Int) (w : World) : Calls Try.prog 118 #[.int .i32 c] w fun e w' => e = .returned (.bool (dotB false c)) ∧ w = w' := by rw [dotB_plain]; exact isSmall_any c w

set_option maxHeartbeats 1000000 in
theorem isPart_true (s : ByteArray) (w : World) (hs : s.size ≤ maxLen) :
    Calls Try.prog 178 #[.string s, .func (.func 179) #[] #[]] w fun e w' => e = .returned (.bool (partB true s)) ∧ Below w.heap.size w w' := by
  unfold maxLen at hs
  by_cases h4 : 4 < s.size
  · have HR := hid (partB_long (d := true) h4)
    have h41 : (4 : Int) < (s.size : Int) := by omega
    go_enter Try.func178, Try.ntmps178
    go_wp2
    go_ret
    exact ⟨ret_bool HR.out.symm, Below.refl _ _⟩
  · have h41 : ¬ (4 : Int) < (s.size : Int) := by omega
    go_enter Try.func178, Try.ntmps178
    go_wp2
    go_loopw [6] (fun _ w' => ∃ k : Nat, k ≤ s.size ∧ w' = w.iter s k ∧ Hid (allDot true (s.data.toList.take k) = true)) (fun _ w' => s.size - w'.iterPos w.heap.size)
    case atStart => exact ⟨0, Nat.zero_le _, rfl, by simp [Hid, allDot]⟩
    case round =>
      obtain ⟨k, hk, rfl, ha⟩ := hrel
      by_cases hp : k < s.size
      · have hg := hid (allDot_grows true s k hp)
        have hno := partB_not true s k hp
        have hnx : ∀ ty, (Instr.next (.pointer (some ⟨w.heap.size, 0, none⟩)) true ty).run Try.prog (w.iter s k) = _ := fun ty => run_next_any w s k ty hp
        cases hb : dotB true ((s[k]'hp).toNat : Int)
        · have hN := hid (hno hb)
          have hD := hid (decode_nodot true s k hp hb)
          clear hno hb
          go_wp2_with (go_at_call 179; refine (isSmallOrAny_any _ _).mono ?_; rw [hD.out]; rintro e w' ⟨rfl, rfl⟩)
          go_ret
          exact ⟨ret_bool hN.out.symm, below_iter _ _⟩
        · have hdec := decode_dot true s k hp hb
          have hD : Hid (dotB true ((Utf8.decode s k).1 : Int) = true) := by rw [Hid, hdec]; exact hb
          have h1 := hid (show (Utf8.decode s k).2 = 1 by rw [hdec])
          have HB := hid hb
          clear hno hb hdec
          go_wp2_with (go_at_call 179; refine (isSmallOrAny_any _ _).mono ?_; rw [hD.out]; rintro e w' ⟨rfl, rfl⟩)
          go_roundw
          case rel => exact ⟨k + 1, by omega, by rw [h1.out], by rw [Hid, hg.out, ha.out, HB.out]; rfl⟩
          case measure => simp [h1.out]; omega
      · have hnx : ∀ ty, (Instr.next (.pointer (some ⟨w.heap.size, 0, none⟩)) true ty).run Try.prog (w.iter s k) = _ := fun ty => run_next_end w s k ty hp
        have hk' : s.size = k := by omega
        have ha' : allDot true s.data.toList = true := by rw [← take_all s, hk']; exact ha.out
        have HW := hid ((partB_all ha').trans (decide_eq_true (by omega)))
        clear ha' hk' ha
        go_wp2
        go_ret
        exact ⟨ret_bool HW.out.symm, below_iter _ _⟩

set_option maxHeartbeats 1000000 in
theorem isPart_false (s : ByteArray) (w : World) (hs : s.size ≤ maxLen) :
    Calls Try.prog 178 #[.string s, .func (.func 118) #[] #[]] w fun e w' => e = .returned (.bool (partB false s)) ∧ Below w.heap.size w w' := by
  unfold maxLen at hs
  by_cases h4 : 4 < s.size
  · have HR := hid (partB_long (d := false) h4)
    have h41 : (4 : Int) < (s.size : Int) := by omega
    go_enter Try.func178, Try.ntmps178
    go_wp2
    go_ret
    exact ⟨ret_bool HR.out.symm, Below.refl _ _⟩
  · have h41 : ¬ (4 : Int) < (s.size : Int) := by omega
    go_enter Try.func178, Try.ntmps178
    go_wp2
    go_loopw [6] (fun _ w' => ∃ k : Nat, k ≤ s.size ∧ w' = w.iter s k ∧ Hid (allDot false (s.data.toList.take k) = true)) (fun _ w' => s.size - w'.iterPos w.heap.size)
    case atStart => exact ⟨0, Nat.zero_le _, rfl, by simp [Hid, allDot]⟩
    case round =>
      obtain ⟨k, hk, rfl, ha⟩ := hrel
      by_cases hp : k < s.size
      · have hg := hid (allDot_grows false s k hp)
        have hno := partB_not false s k hp
        have hnx : ∀ ty, (Instr.next (.pointer (some ⟨w.heap.size, 0, none⟩)) true ty).run Try.prog (w.iter s k) = _ := fun ty => run_next_any w s k ty hp
        cases hb : dotB false ((s[k]'hp).toNat : Int)
        · have hN := hid (hno hb)
          have hD := hid (decode_nodot false s k hp hb)
          clear hno hb
          go_wp2_with (go_at_call 118; refine (isSmall_dot _ _).mono ?_; rw [hD.out]; rintro e w' ⟨rfl, rfl⟩)
          go_ret
          exact ⟨ret_bool hN.out.symm, below_iter _ _⟩
        · have hdec := decode_dot false s k hp hb
          have hD : Hid (dotB false ((Utf8.decode s k).1 : Int) = true) := by rw [Hid, hdec]; exact hb
          have h1 := hid (show (Utf8.decode s k).2 = 1 by rw [hdec])
          have HB := hid hb
          clear hno hb hdec
          go_wp2_with (go_at_call 118; refine (isSmall_dot _ _).mono ?_; rw [hD.out]; rintro e w' ⟨rfl, rfl⟩)
          go_roundw
          case rel => exact ⟨k + 1, by omega, by rw [h1.out], by rw [Hid, hg.out, ha.out, HB.out]; rfl⟩
          case measure => simp [h1.out]; omega
      · have hnx : ∀ ty, (Instr.next (.pointer (some ⟨w.heap.size, 0, none⟩)) true ty).run Try.prog (w.iter s k) = _ := fun ty => run_next_end w s k ty hp
        have hk' : s.size = k := by omega
        have ha' : allDot false s.data.toList = true := by rw [← take_all s, hk']; exact ha.out
        have HW := hid ((partB_all ha').trans (decide_eq_true (by omega)))
        clear ha' hk' ha
        go_wp2
        go_ret
        exact ⟨ret_bool HW.out.symm, below_iter _ _⟩


/-! ### Ends of words -/
/-- A word without a part at its end, if it is there. -/
def cutX (f : Bool) (w p : ByteArray) : ByteArray := if fitX f w p = true then restX f w p.size else w
theorem cutX_yes {f : Bool} {w p : ByteArray} (h : fitX f w p = true) : cutX f w p = restX f w p.size := by
  unfold cutX
  rw [if_pos h]
theorem cutX_no {f : Bool} {w p : ByteArray} (h : fitX f w p = false) : cutX f w p = w := by
  unfold cutX
  rw [if_neg (by rw [h]; exact fun e => by cases e)]
set_option maxHeartbeats 1000000 in
theorem hasPrefix_any (s p : ByteArray) (w : World) : Calls Try.prog 197 #[.string s, .string p] w fun e w' => e = .returned (.bool (fitX true s p)) ∧ w = w' := by
  by_cases h : p.size ≤ s.size
  · have HR := Shh.mk (fitX_short (f := true) h)
    go_enter Try.func197, Try.ntmps197
    go_wp2
    go_ret
    exact ⟨ret_bool HR.out.symm, rfl⟩
  · have HR := Shh.mk (fitX_long (f := true) h)
    go_enter Try.func197, Try.ntmps197
    go_wp2
    go_ret
    exact ⟨ret_bool HR.out.symm, rfl⟩
set_option maxHeartbeats 1000000 in
theorem hasSuffix_any (s p : ByteArray) (w : World) (hs : s.size ≤ maxLen) : Calls Try.prog 188 #[.string s, .string p] w fun e w' => e = .returned (.bool (fitX false s p)) ∧ w = w' := by
  unfold maxLen at hs
  by_cases h : p.size ≤ s.size
  · have HR := Shh.mk (fitX_short (f := false) h)
    have hm2 : ((s.size : Int) - (p.size : Int)).toNat = s.size - p.size := by omega
    go_enter Try.func188, Try.ntmps188
    go_wp2
    go_ret
    exact ⟨ret_bool HR.out.symm, rfl⟩
  · have HR := Shh.mk (fitX_long (f := false) h)
    go_enter Try.func188, Try.ntmps188
    go_wp2
    go_ret
    exact ⟨ret_bool HR.out.symm, rfl⟩
set_option maxHeartbeats 1000000 in
theorem cutPrefix_any (s p : ByteArray) (w : World) : Calls Try.prog 203 #[.string s, .string p] w fun e w' => e = .returned (.tuple #[.string (cutX true s p), .bool (fitX true s p)]) ∧ w = w' := by
  have hin : Calls Try.prog 207 #[.string s, .string p] w fun e w' => e = .returned (.tuple #[.string (cutX true s p), .bool (fitX true s p)]) ∧ w = w' := by
    have hc := hasPrefix_any s p w
    cases h : fitX true s p
    · rw [h] at hc
      have HR := Shh.mk (cutX_no h)
      have HC := Shh.mk hc
      clear h hc
      rw [HR.out]
      go_enter Try.func207, Try.ntmps207
      go_wp2_with fail
      refine HC.out.mono ?_
      rintro e w' ⟨rfl, rfl⟩
      go_wp2
      go_ret2
      exact ⟨rfl, rfl⟩
    · rw [h] at hc
      have HR := Shh.mk (cutX_yes h)
      have HC := Shh.mk hc
      have hsz := fitX_size h
      clear h hc
      rw [HR.out]
      go_enter Try.func207, Try.ntmps207
      go_wp2_with fail
      refine HC.out.mono ?_
      rintro e w' ⟨rfl, rfl⟩
      go_wp2
      go_ret2
      exact ⟨rfl, rfl⟩
  have HIN := Shh.mk hin
  obtain ⟨X, hX⟩ : ∃ X, cutX true s p = X := ⟨_, rfl⟩
  obtain ⟨t, ht⟩ : ∃ t, fitX true s p = t := ⟨_, rfl⟩
  rw [hX, ht] at HIN ⊢
  clear hX ht hin
  go_enter Try.func203, Try.ntmps203
  go_wp2_with fail
  refine HIN.out.mono ?_
  rintro e w' ⟨rfl, rfl⟩
  go_wp2
  go_ret2
  exact ⟨rfl, rfl⟩
set_option maxHeartbeats 1000000 in
theorem cutSuffix_any (s p : ByteArray) (w : World) (hs : s.size ≤ maxLen) : Calls Try.prog 204 #[.string s, .string p] w fun e w' => e = .returned (.tuple #[.string (cutX false s p), .bool (fitX false s p)]) ∧ w = w' := by
  have hs' := hs
  unfold maxLen at hs'
  have hin : Calls Try.prog 208 #[.string s, .string p] w fun e w' => e = .returned (.tuple #[.string (cutX false s p), .bool (fitX false s p)]) ∧ w = w' := by
    have hc := hasSuffix_any s p w hs
    cases h : fitX false s p
    · rw [h] at hc
      have HR := Shh.mk (cutX_no h)
      have HC := Shh.mk hc
      clear h hc
      rw [HR.out]
      go_enter Try.func208, Try.ntmps208
      go_wp2_with fail
      refine HC.out.mono ?_
      rintro e w' ⟨rfl, rfl⟩
      go_wp2
      go_ret2
      exact ⟨rfl, rfl⟩
    · rw [h] at hc
      have HR := Shh.mk (cutX_yes h)
      have HC := Shh.mk hc
      have hsz := fitX_size h
      have hm2 : ((s.size : Int) - (p.size : Int)).toNat = s.size - p.size := by omega
      clear h hc
      rw [HR.out]
      go_enter Try.func208, Try.ntmps208
      go_wp2_with fail
      refine HC.out.mono ?_
      rintro e w' ⟨rfl, rfl⟩
      go_wp2
      go_ret2
      exact ⟨rfl, rfl⟩
  have HIN := Shh.mk hin
  obtain ⟨X, hX⟩ : ∃ X, cutX false s p = X := ⟨_, rfl⟩
  obtain ⟨t, ht⟩ : ∃ t, fitX false s p = t := ⟨_, rfl⟩
  rw [hX, ht] at HIN ⊢
  clear hX ht hin
  go_enter Try.func204, Try.ntmps204
  go_wp2_with fail
  refine HIN.out.mono ?_
  rintro e w' ⟨rfl, rfl⟩
  go_wp2
  go_ret2
  exact ⟨rfl, rfl⟩

set_option maxHeartbeats 1000000 in
theorem cut_any (f : Bool) (n w s a word p : ByteArray) (W : World) (hwd : word.size ≤ maxLen) {X : ByteArray} {t : Bool} (hX : cutX f word p = X) (ht : fitX f word p = t) :
    Calls Try.prog 182 #[.agg #[.string n, .bool f, .string w, .string s, .string a], .string word, .string p] W fun e w' => e = .returned (.tuple #[.string X, .bool t]) ∧ Below W.heap.size W w' := by
  have hB0 := (Below.refl W.heap.size W).alloc (Nat.le_refl _) (.cells #[.string n, .bool f, .string w, .string s, .string a] 171)
  cases f
  · have hc := fun w' => cutSuffix_any word p w' hwd
    rw [hX, ht] at hc
    have HC := Shh.mk hc
    clear hc hX ht
    go_enter Try.func182, Try.ntmps182
    go_wp2_with fail
    refine (HC.out _).mono ?_
    rintro e w' ⟨rfl, rfl⟩
    go_wp2
    go_ret2
    exact ⟨rfl, hB0⟩
  · have hc := fun w' => cutPrefix_any word p w'
    rw [hX, ht] at hc
    have HC := Shh.mk hc
    clear hc hX ht
    go_enter Try.func182, Try.ntmps182
    go_wp2_with fail
    refine (HC.out _).mono ?_
    rintro e w' ⟨rfl, rfl⟩
    go_wp2
    go_ret2
    exact ⟨rfl, hB0⟩
set_option maxHeartbeats 1000000 in
theorem join_any (f : Bool) (n w s a r p : ByteArray) (W : World) (hr : r.size ≤ 1048576) (hp : p.size ≤ 1048576) {E : ByteArray} (hE : joinX f r p = E) :
    Calls Try.prog 183 #[.agg #[.string n, .bool f, .string w, .string s, .string a], .string r, .string p] W fun e w' => e = .returned (.string E) ∧ Below W.heap.size W w' := by
  have hB0 := (Below.refl W.heap.size W).alloc (Nat.le_refl _) (.cells #[.string n, .bool f, .string w, .string s, .string a] 171)
  have h1 : ¬ 9223372036854775807 < r.size + p.size := by omega
  have h2 : ¬ 9223372036854775807 < p.size + r.size := by omega
  cases f
  · obtain rfl : r ++ p = E := hE
    go_enter Try.func183, Try.ntmps183
    go_wp2
    go_ret
    exact ⟨rfl, hB0⟩
  · obtain rfl : p ++ r = E := hE
    go_enter Try.func183, Try.ntmps183
    go_wp2
    go_ret
    exact ⟨rfl, hB0⟩
end Go.Proofs.Ytilagppmljpclaa
