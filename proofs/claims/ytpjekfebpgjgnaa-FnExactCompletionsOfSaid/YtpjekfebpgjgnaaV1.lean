/-
  ValidPile and ValidRack: the program's and the model's.
-/
import Derived.Test.YtpjekfebpgjgnaaQ8
import Derived.Test.YtpjekfebpgjgnaaU1
namespace Go.Proofs.Ytpjekfebpgjgnaa
open Go.RowKit

set_option maxHeartbeats 400000 in
theorem implValidPile_any (s : ByteArray) (w : World) (hs : s.size ≤ 1048576) :
    Calls Try.prog 116 #[.string s] w fun e w' => e = .returned (.bool (pileB s.data.toList)) ∧ Below w.heap.size w w' := by
  go_enter Try.func116, Try.ntmps116
  go_wp2_with (first | (go_at_call 154; refine (countPile_any _ _ hs).mono ?_; rintro e w1 ⟨rfl, hb⟩) | (refine store_last rfl _ _ rfl _ (fun k => (cntP s.data.toList k : Int)) _ rfl (by rfl) (by rfl) rfl ?_))
  go_ret
  exact ⟨rfl, hb.alloc hb.size _⟩

/-- A text is a rack. -/
def rackB (s : ByteArray) : Bool := pileB s.data.toList && decide (s.size ≤ 7)
set_option maxHeartbeats 400000 in
theorem implValidRack_any (s : ByteArray) (w : World) (hs : s.size ≤ 1048576) :
    Calls Try.prog 99 #[.string s] w fun e w' => e = .returned (.bool (rackB s)) ∧ Below w.heap.size w w' := by
  by_cases h7 : s.size ≤ 7
  · have h71 : (s.size : Int) ≤ 7 := by omega
    have HR := hid (show rackB s = pileB s.data.toList by unfold rackB; rw [decide_eq_true h7, Bool.and_true])
    go_enter Try.func99, Try.ntmps99
    go_wp2_with (go_at_call 116; refine (implValidPile_any _ _ hs).mono ?_; rintro e w1 ⟨rfl, hb⟩)
    go_ret
    exact ⟨ret_bool HR.out.symm, hb⟩
  · have h71 : ¬ (s.size : Int) ≤ 7 := by omega
    have HR := hid (show rackB s = false by unfold rackB; rw [decide_eq_false h7, Bool.and_false])
    go_enter Try.func99, Try.ntmps99
    go_wp2
    go_ret
    exact ⟨ret_bool HR.out.symm, Below.refl _ _⟩
set_option maxHeartbeats 400000 in
theorem l03Rack_any (s : ByteArray) (w : World) (hs : s.size ≤ 1048576) :
    Calls Try.prog 108 #[.string s] w fun e w' => e = .returned (.bool (rackB s)) ∧ Below w.heap.size w w' := by
  cases hp : pileB s.data.toList
  · have HP := hid hp
    have HR := hid (show rackB s = false by unfold rackB; rw [hp, Bool.false_and])
    clear hp
    go_enter Try.func108, Try.ntmps108
    go_wp2_with (go_at_call 114; refine (l03Pile_any _ _ hs).mono ?_; rw [HP.out]; rintro e w' ⟨rfl, n, rfl⟩)
    go_ret
    exact ⟨ret_bool HR.out.symm, belowU (Below.refl _ _) _⟩
  · have HP := hid hp
    have HR := hid (show rackB s = decide (s.size ≤ 7) by unfold rackB; rw [hp, Bool.true_and])
    clear hp
    go_enter Try.func108, Try.ntmps108
    go_wp2_with (go_at_call 114; refine (l03Pile_any _ _ hs).mono ?_; rw [HP.out]; rintro e w' ⟨rfl, n, rfl⟩)
    go_ret
    refine ⟨ret_bool ?_, belowU (Below.refl _ _) _⟩
    rw [HR.out, Bool.eq_iff_iff, decide_eq_true_eq, decide_eq_true_eq]
    omega
end Go.Proofs.Ytpjekfebpgjgnaa
