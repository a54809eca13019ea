/-
  What contains what, and what two piles have in common: the model's.
-/
import Derived.Test.YtcbkidpgefmhoaaO7
import Derived.Test.YtcbkidpgefmhoaaO6
namespace Go.Proofs.Ytcbkidpgefmhoaa
open Go.RowKit

theorem holdsB_take {a b : List UInt8} (h1 : pileB a = true) (h2 : pileB b = true) : holdsB a b = (takeL a b).2.isEmpty := by
  rw [takeL_empty h1 h2, holdsB_yes h1 h2, leN_has]
set_option maxHeartbeats 1000000 in
theorem specContainsTiles_any (a b : ByteArray) (w : World) (ha : a.size ≤ 1048576) (hb : b.size ≤ 1048576) :
    Calls Try.prog 32 #[.string a, .string b] w fun e w' => e = .returned (.bool (holdsB a.data.toList b.data.toList)) ∧ Below w.heap.size w w' := by
  obtain ⟨X, hX⟩ : ∃ X, (takeL a.data.toList b.data.toList).1 = X := ⟨_, rfl⟩
  obtain ⟨t, ht⟩ : ∃ t, (takeL a.data.toList b.data.toList).2.isEmpty = t := ⟨_, rfl⟩
  have HX := Shh.mk hX
  have HE := Shh.mk ht
  cases hp : pileB a.data.toList
  · have HP := hid hp
    have HR := hid (holdsB_no (b := b.data.toList) (.inl hp))
    clear hp hX ht
    go_enter Try.func32, Try.ntmps32
    go_wp2_with fail
    refine (l03Take_is HX.out HE.out _ ha hb).mono ?_
    rintro e w1 ⟨rfl, hb1⟩
    go_wp2_with fail
    refine (pile_is HP.out _ ha).mono ?_
    rintro e w2 ⟨rfl, hb2⟩
    go_wp2
    go_ret
    exact ⟨ret_bool HR.out.symm, hb1.trans (hb2.mono hb1.size)⟩
  · cases hq : pileB b.data.toList
    · have HP := hid hp
      have HQ := hid hq
      have HR := hid (holdsB_no (a := a.data.toList) (.inr hq))
      clear hp hq hX ht
      go_enter Try.func32, Try.ntmps32
      go_wp2_with fail
      refine (l03Take_is HX.out HE.out _ ha hb).mono ?_
      rintro e w1 ⟨rfl, hb1⟩
      go_wp2_with fail
      refine (pile_is HP.out _ ha).mono ?_
      rintro e w2 ⟨rfl, hb2⟩
      go_wp2_with fail
      refine (pile_is HQ.out _ hb).mono ?_
      rintro e w3 ⟨rfl, hb3⟩
      go_wp2
      go_ret
      exact ⟨ret_bool HR.out.symm, (hb1.trans (hb2.mono hb1.size)).trans (hb3.mono (by have := hb1.size; have := hb2.size; omega))⟩
    · have HP := hid hp
      have HQ := hid hq
      have HR := hid ((holdsB_take hp hq).trans ht)
      clear hp hq hX ht
      go_enter Try.func32, Try.ntmps32
      go_wp2_with fail
      refine (l03Take_is HX.out HE.out _ ha hb).mono ?_
      rintro e w1 ⟨rfl, hb1⟩
      go_wp2_with fail
      refine (pile_is HP.out _ ha).mono ?_
      rintro e w2 ⟨rfl, hb2⟩
      go_wp2_with fail
      refine (pile_is HQ.out _ hb).mono ?_
      rintro e w3 ⟨rfl, hb3⟩
      go_wp2
      go_ret
      exact ⟨ret_bool HR.out.symm, (hb1.trans (hb2.mono hb1.size)).trans (hb3.mono (by have := hb1.size; have := hb2.size; omega))⟩

theorem bothL_meet {a b : List UInt8} (h1 : pileB a = true) (h2 : pileB b = true) : bothL a b = meetL a b := by
  rw [pileB_iff] at h1 h2
  exact bothL_pile h1.1 h1.2.1 h2.2.1

set_option maxRecDepth 100000 in
set_option maxHeartbeats 4000000 in
theorem specCommonTiles_any (a b : ByteArray) (w : World) (ha : a.size ≤ 1048576) (hb : b.size ≤ 1048576) :
    Calls Try.prog 33 #[.string a, .string b] w fun e w' => e = .returned (ret2 (meetOut a.data.toList b.data.toList)) ∧ Below w.heap.size w w' := by
  cases hp : pileB a.data.toList
  · have HP := hid hp
    have HR := hid (meetOut_no (b := b.data.toList) (.inl hp))
    clear hp
    go_enter Try.func33, Try.ntmps33
    go_wp2_with (go_at_call 58; refine (pile_is HP.out _ ha).mono ?_; rintro e w1 ⟨rfl, hb1⟩)
    go_ret2
    exact ⟨ret2_nil HR.out, hb1⟩
  · cases hq : pileB b.data.toList
    · have HP := hid hp
      have HQ := hid hq
      have HR := hid (meetOut_no (a := a.data.toList) (.inr hq))
      clear hp hq
      go_enter Try.func33, Try.ntmps33
      go_wp2_with fail
      refine (pile_is HP.out _ ha).mono ?_
      rintro e w1 ⟨rfl, hb1⟩
      go_wp2_with fail
      refine (pile_is HQ.out _ hb).mono ?_
      rintro e w2 ⟨rfl, hb2⟩
      go_wp2
      go_ret2
      exact ⟨ret2_nil HR.out, hb1.trans (hb2.mono hb1.size)⟩
    · have HP := hid hp
      have HQ := hid hq
      have HR := Shh.mk (show meetOut a.data.toList b.data.toList = (bothL a.data.toList b.data.toList, 0) by rw [meetOut_yes hp hq, bothL_meet hp hq])
      clear hp hq
      go_enter Try.func33, Try.ntmps33
      go_wp2_with fail
      refine (pile_is HP.out _ ha).mono ?_
      rintro e w1 ⟨rfl, hb1⟩
      go_wp2_with fail
      refine (pile_is HQ.out _ hb).mono ?_
      rintro e w2 ⟨rfl, hb2⟩
      have hB0 := hb1.trans (hb2.mono hb1.size)
      go_wp2
      go_loopw [6, 7, 8] (fun v i kk wr => ∃ (j k : Nat) (O : List UInt8), j ≤ a.size ∧ k ≤ b.size ∧ O.length ≤ j ∧ i = .int .i64 j ∧ kk = .int .i64 k ∧ Hid (OwnB w.heap.size wr v O) ∧ Shh (BK a b j k O) ∧ Below w.heap.size w wr) (fun _ i k _ => a.size - (intOf i).toNat + (b.size - (intOf k).toNat))
      case atStart => exact ⟨0, 0, [], Nat.zero_le _, Nat.zero_le _, Nat.le_refl _, rfl, rfl, World.ownsRow_lit w2 _ 0 hB0.size (by unfold maxLen; omega) rfl, ⟨bk_start a b⟩, hB0.alloc hB0.size _⟩
      case round =>
        obtain ⟨j, k, O, hj, hk, hO, rfl, rfl, hown, hbk, hB⟩ := hrel
        by_cases hlt : j < a.size
        · by_cases hkl : k < b.size
          · by_cases h1 : (a[j]'hlt).toNat < (b[k]'hkl).toNat
            · have HT := Shh.mk (bk_less hbk.out hlt hkl h1)
              have hd1 : decide ((a[j]'hlt).toNat < (b[k]'hkl).toNat) = true := decide_eq_true h1
              clear hbk
              go_wp2
              go_quiet (fail)
              go_wp2
              go_roundw
              case rel => exact ⟨j + 1, k, O, by omega, by omega, by omega, by go_num, rfl, hown.out, HT, belowU hB _⟩
              case measure => simp [intOf]; omega
            · have hd1 : decide ((a[j]'hlt).toNat < (b[k]'hkl).toNat) = false := decide_eq_false h1
              by_cases h2 : (b[k]'hkl).toNat < (a[j]'hlt).toNat
              · have HT := Shh.mk (bk_more hbk.out hlt hkl h2)
                have hd2 : decide ((b[k]'hkl).toNat < (a[j]'hlt).toNat) = true := decide_eq_true h2
                clear hbk
                go_wp2
                go_quiet (fail)
                go_wp2
                go_quiet (fail)
                go_wp2
                go_roundw
                case rel => exact ⟨j, k + 1, O, by omega, by omega, by omega, rfl, by go_num, hown.out, HT, belowU hB _⟩
                case measure => simp [intOf]; omega
              · have HT := Shh.mk (bk_same hbk.out hlt hkl h1 h2)
                have hd2 : decide ((b[k]'hkl).toNat < (a[j]'hlt).toNat) = false := decide_eq_false h2
                clear hbk
                go_wp2
                go_quiet (fail)
                go_wp2
                go_quiet (fail)
                go_wp2_with (refine append_byteO rfl _ _ rfl _ O (a[j]'hlt) rfl rfl hown.out (by omega) hB.size ?_; intro v' w3 ho1 hb3)
                have HO := hid ho1
                have HB := hb3 _ (belowU hB _)
                clear ho1 hb3
                go_wp2
                go_roundw
                case rel => exact ⟨j + 1, k + 1, _, by omega, by omega, by simp; omega, by go_num, by go_num, HO.out, HT, HB⟩
                case measure => simp [intOf]; omega
          · have hcv := conv_rowQ hown.out
            have HE := Shh.mk (bk_end hbk.out (.inr (by omega)))
            clear hbk
            go_wp2
            go_ret2
            exact ⟨ret2_is (HR.out.trans (by rw [HE.out])), hB⟩
        · have hcv := conv_rowQ hown.out
          have HE := Shh.mk (bk_end hbk.out (.inl (by omega)))
          clear hbk
          go_wp2
          go_ret2
          exact ⟨ret2_is (HR.out.trans (by rw [HE.out])), hB⟩
/-- A text is itself, in the form in which the walk asks it. -/
theorem same_txt (s : ByteArray) : (s.toList == s.toList) = true := beq_self_eq_true _
end Go.Proofs.Ytcbkidpgefmhoaa
