/-
  The contracts of chapter 1's small functions, of the program and of the model.
-/
import Derived.Test.YtmkdbahdhobdjaaDoorRows
import Derived.Test.YtmkdbahdhobdjaaDoorA
import Derived.Shelf.Abstract
namespace Go.Proofs.YtmkdbahdhobdjaaDoor
open Go.RowKit

set_option maxHeartbeats 400000 in
theorem l01Small_any (c : Int) (w : World) : Calls Tryd.prog 133 #[.int .u8 c] w fun e w' => e = .returned (.bool (smallB c)) ∧ w = w' := by
  by_cases h1 : 97 ≤ c
  · by_cases h2 : c ≤ 122
    · rw [smallB_yes h1 h2]
      go_enter Tryd.func133, Tryd.ntmps133
      go_wp2
      go_ret
      exact ⟨rfl, rfl⟩
    · rw [smallB_no (fun h => h2 h.2)]
      go_enter Tryd.func133, Tryd.ntmps133
      go_wp2
      go_ret
      exact ⟨rfl, rfl⟩
  · rw [smallB_no (fun h => h1 h.1)]
    go_enter Tryd.func133, Tryd.ntmps133
    go_wp2
    go_ret
    exact ⟨rfl, rfl⟩

set_option maxHeartbeats 400000 in
theorem isSmall_any (c : Int) (w : World) : Calls Tryd.prog 157 #[.int .i32 c] w fun e w' => e = .returned (.bool (smallB c)) ∧ w = w' := by
  by_cases h1 : 97 ≤ c
  · by_cases h2 : c ≤ 122
    · rw [smallB_yes h1 h2]
      go_enter Tryd.func157, Tryd.ntmps157
      go_wp2
      go_ret
      exact ⟨rfl, rfl⟩
    · rw [smallB_no (fun h => h2 h.2)]
      go_enter Tryd.func157, Tryd.ntmps157
      go_wp2
      go_ret
      exact ⟨rfl, rfl⟩
  · rw [smallB_no (fun h => h1 h.1)]
    go_enter Tryd.func157, Tryd.ntmps157
    go_wp2
    go_ret
    exact ⟨rfl, rfl⟩

set_option maxHeartbeats 400000 in
theorem l01Digit_any (c : Int) (w : World) : Calls Tryd.prog 112 #[.int .u8 c] w fun e w' => e = .returned (.bool (digitB c)) ∧ w = w' := by
  by_cases h1 : 48 ≤ c
  · by_cases h2 : c ≤ 57
    · rw [digitB_yes h1 h2]
      go_enter Tryd.func112, Tryd.ntmps112
      go_wp2
      go_ret
      exact ⟨rfl, rfl⟩
    · rw [digitB_no (fun h => h2 h.2)]
      go_enter Tryd.func112, Tryd.ntmps112
      go_wp2
      go_ret
      exact ⟨rfl, rfl⟩
  · rw [digitB_no (fun h => h1 h.1)]
    go_enter Tryd.func112, Tryd.ntmps112
    go_wp2
    go_ret
    exact ⟨rfl, rfl⟩


set_option maxHeartbeats 400000 in
theorem l00In_any (n l h : Int) (w : World) : Calls Tryd.prog 113 #[.int .i64 n, .int .i64 l, .int .i64 h] w fun e w' => e = .returned (.bool (inB n l h)) ∧ w = w' := by
  by_cases h1 : l ≤ n
  · by_cases h2 : n ≤ h
    · rw [inB_yes h1 h2]
      go_enter Tryd.func113, Tryd.ntmps113
      go_wp2
      go_ret
      exact ⟨rfl, rfl⟩
    · rw [inB_no (fun hn => h2 hn.2)]
      go_enter Tryd.func113, Tryd.ntmps113
      go_wp2
      go_ret
      exact ⟨rfl, rfl⟩
  · rw [inB_no (fun hn => h1 hn.1)]
    go_enter Tryd.func113, Tryd.ntmps113
    go_wp2
    go_ret
    exact ⟨rfl, rfl⟩

/-! ### IsWord: the model's and the program's -/
theorem ret_bool {a b : Bool} (h : a = b) : Ending.returned (.bool a) = .returned (.bool b) := by rw [h]


theorem width_pos (s : ByteArray) (pos : Nat) (h : pos < s.size) : 1 ≤ (Utf8.decode s pos).2 := by
  by_cases ha : (s[pos]'h).toNat < 128
  · rw [decode_ascii s pos h ha]
    exact Nat.le_refl _
  · exact (decode_high s pos h (by omega)).2
/-- What the iterator tells of a byte: itself and one step on if it is below 128, a number that is no small letter else. -/
theorem decode_small (s : ByteArray) (pos : Nat) (h : pos < s.size) : smallB ((Utf8.decode s pos).1 : Int) = smallB ((s[pos]'h).toNat : Int) := by
  by_cases ha : (s[pos]'h).toNat < 128
  · rw [decode_ascii s pos h ha]
  · have := (decode_high s pos h (by omega)).1
    rw [smallB_no (by omega), smallB_no (by omega)]
theorem decode_one (s : ByteArray) (pos : Nat) (h : pos < s.size) (hs : smallB ((s[pos]'h).toNat : Int) = true) : (Utf8.decode s pos).2 = 1 := by
  rw [smallB_iff] at hs
  rw [decode_ascii s pos h (by omega)]

theorem below_iter {w : World} (s : ByteArray) (pos : Nat) : Below w.heap.size w (w.iter s pos) := (Below.refl _ _).alloc (Nat.le_refl _) _

/-! ### All of a text is allowed -/
/-- What a function value without captured variables says of numbers. -/
def TellsC (K : FuncId) (q : Int → Bool) : Prop := ∀ (c : Int) (w : World), Calls Tryd.prog K #[.int .i32 c] w fun e w' => e = .returned (.bool (q c)) ∧ w = w'
theorem decode_allC {q : Int → Bool} (hq : ∀ c : Int, 128 ≤ c → q c = false) (s : ByteArray) (pos : Nat) (h : pos < s.size) : q ((Utf8.decode s pos).1 : Int) = q ((s[pos]'h).toNat : Int) := by
  by_cases ha : (s[pos]'h).toNat < 128
  · rw [decode_ascii s pos h ha]
  · have := (decode_high s pos h (by omega)).1
    rw [hq _ (by omega), hq _ (by omega)]
theorem decode_oneC {q : Int → Bool} (hq : ∀ c : Int, 128 ≤ c → q c = false) (s : ByteArray) (pos : Nat) (h : pos < s.size) (hs : q ((s[pos]'h).toNat : Int) = true) : (Utf8.decode s pos).2 = 1 := by
  have : (s[pos]'h).toNat < 128 := by
    refine Classical.byContradiction fun hn => ?_
    rw [hq _ (by omega)] at hs
    cases hs
  rw [decode_ascii s pos h this]
set_option maxHeartbeats 1000000 in
theorem consistsOf_any {K : FuncId} {q : Int → Bool} (s : ByteArray) (w : World) (hK : ∀ args w, (callFunc K args).run Tryd.prog w = .ok (.enter K args) w) (ht : TellsC K q)
    (hq : ∀ c : Int, 128 ≤ c → q c = false) :
    Calls Tryd.prog 134 #[.string s, .func (.func K) #[] #[]] w fun e w' => e = .returned (.bool (allC q s.data.toList)) ∧ Below w.heap.size w w' := by
  have HQ := hid hq
  clear hq
  go_enter Tryd.func134, Tryd.ntmps134
  go_wp2
  go_loopw [6] (fun _ w' => ∃ k : Nat, k ≤ s.size ∧ w' = w.iter s k ∧ Hid (allC q (s.data.toList.take k) = true)) (fun _ w' => s.size - w'.iterPos w.heap.size)
  case atStart => exact ⟨0, Nat.zero_le _, rfl, by simp [Hid, allC]⟩
  case round =>
    obtain ⟨k, hk, rfl, ha⟩ := hrel
    by_cases hp : k < s.size
    · have hg := hid (allC_grows q s k hp)
      have hno := allC_not q s k hp
      have hds := decode_allC HQ.out s k hp
      have hd1 := decode_oneC HQ.out s k hp
      have hnx : ∀ ty, (Instr.next (.pointer (some ⟨w.heap.size, 0, none⟩)) true ty).run Tryd.prog (w.iter s k) = _ := fun ty => run_next_any w s k ty hp
      cases hb : q ((s[k]'hp).toNat : Int)
      · have hN := hid (hno hb)
        have hD := hid (hds.trans hb)
        clear hno hb hds hd1
        go_wp2_with fail
        refine (ht _ _).mono ?_
        rw [hD.out]
        rintro e w' ⟨rfl, rfl⟩
        go_wp2
        go_ret
        exact ⟨ret_bool hN.out.symm, below_iter _ _⟩
      · have hD := hid (hds.trans hb)
        have h1 := hid (hd1 hb)
        have HB := hid hb
        clear hno hb hds hd1
        go_wp2_with fail
        refine (ht _ _).mono ?_
        rw [hD.out]
        rintro e w' ⟨rfl, rfl⟩
        go_wp2
        go_roundw
        case rel => exact ⟨k + 1, by omega, by rw [h1.out], by rw [Hid, hg.out, ha.out, HB.out]; rfl⟩
        case measure => simp [h1.out]; omega
    · have hnx : ∀ ty, (Instr.next (.pointer (some ⟨w.heap.size, 0, none⟩)) true ty).run Tryd.prog (w.iter s k) = _ := fun ty => run_next_end w s k ty hp
      have hk' : s.size = k := by omega
      have ha' : allC q s.data.toList = true := by rw [← take_all s, hk']; exact ha.out
      have HW := hid ha'
      clear ha' hk' ha
      go_wp2
      go_ret
      exact ⟨ret_bool HW.out.symm, below_iter _ _⟩
theorem isSmall_enters : ∀ args w, (callFunc 157 args).run Tryd.prog w = .ok (.enter 157 args) w := enters_of Tryd.func157 (by kernel_rfl) rfl
theorem isSmall_tells : TellsC 157 smallB := fun c w => isSmall_any c w
theorem smallB_high (c : Int) (h : 128 ≤ c) : smallB c = false := smallB_no (by omega)

set_option maxHeartbeats 1000000 in
theorem implIsWord_any (s : ByteArray) (w : World) (hs : s.size ≤ maxLen) :
    Calls Tryd.prog 174 #[.string s] w fun e w' => e = .returned (.bool (isWordB s.data.toList)) ∧ Below w.heap.size w w' := by
  unfold maxLen at hs
  rcases Nat.eq_zero_or_pos s.size with h0 | h0
  · have hE := empty_yes h0
    have HW := hid (isWordB_short h0)
    clear h0
    go_enter Tryd.func174, Tryd.ntmps174
    go_wp2
    go_ret
    exact ⟨ret_bool HW.out.symm, Below.refl _ _⟩
  · have hE := empty_no h0
    by_cases h12 : 12 < s.size
    · have HW := hid (isWordB_long h12)
      have h12' : (12 : Int) < (s.size : Int) := by omega
      clear h12
      go_enter Tryd.func174, Tryd.ntmps174
      go_wp2
      go_ret
      exact ⟨ret_bool HW.out.symm, Below.refl _ _⟩
    · have h12' : ¬ (12 : Int) < (s.size : Int) := by omega
      have HA := hid (isWordB_is h0 (by omega))
      clear h12
      go_enter Tryd.func174, Tryd.ntmps174
      go_wp2_with fail
      refine (consistsOf_any s w isSmall_enters isSmall_tells smallB_high).mono ?_
      rintro e w1 ⟨rfl, hb⟩
      go_wp2
      go_ret
      exact ⟨ret_bool HA.out.symm, hb⟩


end Go.Proofs.YtmkdbahdhobdjaaDoor
