/-
  The model's sorting, adding, taking of tiles, and what two piles have in common.
-/
import Derived.Test.YtcbkidpgefmhoaaO2
import Derived.Test.YtcbkidpgefmhoaaO5
namespace Go.Proofs.Ytcbkidpgefmhoaa
open Go.RowKit

/-! ### Sorting -/
set_option maxHeartbeats 1000000 in
theorem specSortTiles_any (s : ByteArray) (w : World) (hs : s.size ≤ 1048576) :
    Calls Try.prog 28 #[.string s] w fun e w' => e = .returned (ret2 (sortOut s.data.toList)) ∧ Below w.heap.size w w' := by
  go_enter Try.func28, Try.ntmps28
  go_wp2
  go_loop [4] (fun i => ∃ k : Nat, k ≤ s.size ∧ i = .int .i64 k ∧ Hid (allTiles (s.data.toList.take k) = true)) (fun i => s.size - (intOf i).toNat)
  case atStart => exact ⟨0, Nat.zero_le _, rfl, rfl⟩
  case round =>
    obtain ⟨k, hk, rfl, hT⟩ := hrel
    by_cases hlt : k < s.size
    · have hgt := hid (tiles_take s k hlt)
      cases ht : tileB ((s[k]'hlt).toNat : Int)
      · have HT := hid ht
        have HR := hid (sortOut_no (tiles_not s k hlt ht))
        clear ht
        go_wp2_with (go_at_call 60; refine (tile_is HT.out).mono ?_; rintro e w' ⟨rfl, rfl⟩)
        go_ret2
        exact ⟨ret2_nil HR.out, Below.refl _ _⟩
      · have HT := hid ht
        clear ht
        go_wp2_with (go_at_call 60; refine (tile_is HT.out).mono ?_; rintro e w' ⟨rfl, rfl⟩)
        go_round
        case rel => exact ⟨k + 1, by omega, by go_num, by rw [Hid, hgt.out, hT.out, HT.out]; rfl⟩
        case measure => simp [intOf]; omega
    · have hkk : k = s.size := by omega
      have HT : Hid (allTiles s.data.toList = true) := by
        have := hT.out
        rwa [hkk, take_all] at this
      have hl := len_list s
      by_cases h120 : s.size ≤ 120
      · have hg : ¬ (120 : Int) < (s.size : Int) := by omega
        have hyes := sortOut_yes HT.out (by omega)
        obtain ⟨X, hX⟩ : ∃ X, sortL s.data.toList = X := ⟨_, rfl⟩
        have HX := Shh.mk hX
        rw [hX] at hyes
        have HR := hid hyes
        clear hT hkk hl hX hyes
        go_wp2_with (go_at_call 61; refine (l03Sort_any s _ hs HT.out).mono ?_; rw [HX.out]; rintro e w1 ⟨rfl, hb1⟩)
        go_ret2
        exact ⟨ret2_is HR.out, hb1⟩
      · have hg : (120 : Int) < (s.size : Int) := by omega
        have HR := hid (sortOut_long HT.out (by omega))
        clear hT hkk hl
        go_wp2
        go_ret2
        exact ⟨ret2_nil HR.out, Below.refl _ _⟩

/-! ### Adding -/
theorem pile_is {s : ByteArray} {b : Bool} (h : pileB s.data.toList = b) (w : World) (hs : s.size ≤ 1048576) :
    Calls Try.prog 58 #[.string s] w fun e w' => e = .returned (.bool b) ∧ Below w.heap.size w w' := by
  rw [← h]
  exact (l03Pile_any s w hs).mono fun e w' ⟨he, n, hw⟩ => ⟨he, by rw [hw]; exact belowU (Below.refl _ _) _⟩
theorem l03Sort_cat {a b : ByteArray} {X : List UInt8} (h : sortL (a.data.toList ++ b.data.toList) = X) (w : World) (hs : a.size + b.size ≤ 1048576) (ht : allTiles (a.data.toList ++ b.data.toList) = true) :
    Calls Try.prog 61 #[.string (a ++ b)] w fun e w' => e = .returned (.string (txt X)) ∧ Below w.heap.size w w' := by
  have e : (a ++ b).data.toList = a.data.toList ++ b.data.toList := by simp
  have := l03Sort_any (a ++ b) w (by rw [txt_cat, txt_size]; simpa using hs) (by rw [e]; exact ht)
  rw [e, h] at this
  exact this
set_option maxHeartbeats 1000000 in
theorem specAddTiles_any (a b : ByteArray) (w : World) (ha : a.size ≤ 1048576) (hb : b.size ≤ 1048576) :
    Calls Try.prog 30 #[.string a, .string b] w fun e w' => e = .returned (ret2 (addOut a.data.toList b.data.toList)) ∧ Below w.heap.size w w' := by
  cases hp : pileB a.data.toList
  · have HP := hid hp
    have HR := hid (addOut_no (b := b.data.toList) (.inl hp))
    clear hp
    go_enter Try.func30, Try.ntmps30
    go_wp2_with (go_at_call 58; refine (pile_is HP.out _ ha).mono ?_; rintro e w1 ⟨rfl, hb1⟩)
    go_ret2
    exact ⟨ret2_nil HR.out, hb1⟩
  · cases hq : pileB b.data.toList
    · have HP := hid hp
      have HQ := hid hq
      have HR := hid (addOut_no (a := a.data.toList) (.inr hq))
      clear hp hq
      go_enter Try.func30, Try.ntmps30
      go_wp2_with fail
      refine (pile_is HP.out _ ha).mono ?_
      rintro e w1 ⟨rfl, hb1⟩
      go_wp2_with fail
      refine (pile_is HQ.out _ hb).mono ?_
      rintro e w2 ⟨rfl, hb2⟩
      go_wp2
      go_ret2
      exact ⟨ret2_nil HR.out, hb1.trans (hb2.mono hb1.size)⟩
    · have HP := hid hp
      have HQ := hid hq
      have hla := (pileB_iff.1 hp).2.2
      have hlb := (pileB_iff.1 hq).2.2
      rw [len_list] at hla hlb
      have hmx : ¬ 9223372036854775807 < a.size + b.size := by omega
      by_cases h120 : a.size + b.size ≤ 120
      · have hg : ¬ (120 : Int) < (a.size : Int) + (b.size : Int) := by omega
        have HT := hid (show allTiles (a.data.toList ++ b.data.toList) = true by rw [tiles_cat, (pileB_iff.1 hp).1, (pileB_iff.1 hq).1]; rfl)
        have hyes := addOut_yes hp hq (by rw [len_list, len_list]; exact h120)
        obtain ⟨X, hX⟩ : ∃ X, sortL (a.data.toList ++ b.data.toList) = X := ⟨_, rfl⟩
        have HX := Shh.mk hX
        rw [hX] at hyes
        have HR := hid hyes
        clear hp hq hX hyes
        go_enter Try.func30, Try.ntmps30
        go_wp2_with fail
        refine (pile_is HP.out _ ha).mono ?_
        rintro e w1 ⟨rfl, hb1⟩
        go_wp2_with fail
        refine (pile_is HQ.out _ hb).mono ?_
        rintro e w2 ⟨rfl, hb2⟩
        go_wp2_with fail
        refine (l03Sort_cat HX.out _ (by omega) HT.out).mono ?_
        rintro e w3 ⟨rfl, hb3⟩
        go_wp2
        go_ret2
        exact ⟨ret2_is HR.out, (hb1.trans (hb2.mono hb1.size)).trans (hb3.mono (by have := hb1.size; have := hb2.size; omega))⟩
      · have hg : (120 : Int) < (a.size : Int) + (b.size : Int) := by omega
        have HR := hid (addOut_long hp hq (by rw [len_list, len_list]; omega))
        clear hp hq
        go_enter Try.func30, Try.ntmps30
        go_wp2_with fail
        refine (pile_is HP.out _ ha).mono ?_
        rintro e w1 ⟨rfl, hb1⟩
        go_wp2_with fail
        refine (pile_is HQ.out _ hb).mono ?_
        rintro e w2 ⟨rfl, hb2⟩
        go_wp2
        go_ret2
        exact ⟨ret2_nil HR.out, hb1.trans (hb2.mono hb1.size)⟩

/-! ### Taking -/
theorem l03Take_is {a b : ByteArray} {O : List UInt8} {t : Bool} (h1 : (takeL a.data.toList b.data.toList).1 = O) (h2 : (takeL a.data.toList b.data.toList).2.isEmpty = t) (w : World) (ha : a.size ≤ 1048576) (hb : b.size ≤ 1048576) :
    Calls Try.prog 63 #[.string a, .string b] w fun e w' => e = .returned (.tuple #[.string (txt O), .bool t]) ∧ Below w.heap.size w w' := by
  rw [← h1, ← h2]
  exact l03Take_any a b w ha hb
theorem takeL_empty {a b : List UInt8} (h1 : pileB a = true) (h2 : pileB b = true) : (takeL a b).2.isEmpty = hasAll a b := by
  rw [pileB_iff] at h1 h2
  rw [Bool.eq_iff_iff, List.isEmpty_iff]
  exact takeL_has h1.1 h2.1 h1.2.1 h2.2.1
theorem takeL_less {a b : List UInt8} (h1 : pileB a = true) (h2 : pileB b = true) (h : hasAll a b = true) : (takeL a b).1 = lessL a b := by
  have he := takeL_empty h1 h2
  rw [h, List.isEmpty_iff] at he
  rw [pileB_iff] at h1
  exact takeL_out h1.1 h1.2.1 he
set_option maxHeartbeats 1000000 in
theorem specTakeTiles_any (a b : ByteArray) (w : World) (ha : a.size ≤ 1048576) (hb : b.size ≤ 1048576) :
    Calls Try.prog 31 #[.string a, .string b] w fun e w' => e = .returned (ret2 (takeOut a.data.toList b.data.toList)) ∧ Below w.heap.size w w' := by
  cases hp : pileB a.data.toList
  · have HP := hid hp
    have HR := hid (takeOut_no (b := b.data.toList) (.inl hp))
    clear hp
    go_enter Try.func31, Try.ntmps31
    go_wp2_with (go_at_call 58; refine (pile_is HP.out _ ha).mono ?_; rintro e w1 ⟨rfl, hb1⟩)
    go_ret2
    exact ⟨ret2_nil HR.out, hb1⟩
  · cases hq : pileB b.data.toList
    · have HP := hid hp
      have HQ := hid hq
      have HR := hid (takeOut_no (a := a.data.toList) (.inr hq))
      clear hp hq
      go_enter Try.func31, Try.ntmps31
      go_wp2_with fail
      refine (pile_is HP.out _ ha).mono ?_
      rintro e w1 ⟨rfl, hb1⟩
      go_wp2_with fail
      refine (pile_is HQ.out _ hb).mono ?_
      rintro e w2 ⟨rfl, hb2⟩
      go_wp2
      go_ret2
      exact ⟨ret2_nil HR.out, hb1.trans (hb2.mono hb1.size)⟩
    · have HP := hid hp
      have HQ := hid hq
      cases hh : hasAll a.data.toList b.data.toList
      · have HR := hid (takeOut_not hp hq hh)
        have HE := hid ((takeL_empty hp hq).trans hh)
        obtain ⟨X, hX⟩ : ∃ X, (takeL a.data.toList b.data.toList).1 = X := ⟨_, rfl⟩
        have HX := Shh.mk hX
        clear hp hq hh hX
        go_enter Try.func31, Try.ntmps31
        go_wp2_with fail
        refine (pile_is HP.out _ ha).mono ?_
        rintro e w1 ⟨rfl, hb1⟩
        go_wp2_with fail
        refine (pile_is HQ.out _ hb).mono ?_
        rintro e w2 ⟨rfl, hb2⟩
        go_wp2_with fail
        refine (l03Take_is HX.out HE.out _ ha hb).mono ?_
        rintro e w3 ⟨rfl, hb3⟩
        go_wp2
        go_ret2
        exact ⟨ret2_nil HR.out, (hb1.trans (hb2.mono hb1.size)).trans (hb3.mono (by have := hb1.size; have := hb2.size; omega))⟩
      · have HE := hid ((takeL_empty hp hq).trans hh)
        have hyes := takeOut_yes hp hq hh
        have hX := takeL_less hp hq hh
        obtain ⟨X, hX2⟩ : ∃ X, lessL a.data.toList b.data.toList = X := ⟨_, rfl⟩
        rw [hX2] at hyes hX
        have HR := hid hyes
        have HX := Shh.mk hX
        clear hp hq hh hX hX2 hyes
        go_enter Try.func31, Try.ntmps31
        go_wp2_with fail
        refine (pile_is HP.out _ ha).mono ?_
        rintro e w1 ⟨rfl, hb1⟩
        go_wp2_with fail
        refine (pile_is HQ.out _ hb).mono ?_
        rintro e w2 ⟨rfl, hb2⟩
        go_wp2_with fail
        refine (l03Take_is HX.out HE.out _ ha hb).mono ?_
        rintro e w3 ⟨rfl, hb3⟩
        go_wp2
        go_ret2
        exact ⟨ret2_is HR.out, (hb1.trans (hb2.mono hb1.size)).trans (hb3.mono (by have := hb1.size; have := hb2.size; omega))⟩
end Go.Proofs.Ytcbkidpgefmhoaa
