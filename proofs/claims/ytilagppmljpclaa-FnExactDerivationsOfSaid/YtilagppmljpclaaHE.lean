/-
  What makes a grammar valid: the program's uses.
-/
import Derived.Test.YtilagppmljpclaaHD
import Derived.Test.YtilagppmljpclaaF8
namespace Go.Proofs.Ytilagppmljpclaa
open Go.RowKit Go.Maps Go.WideMaps

theorem useB_last {xs : List Aff} {us : List ByteArray} {k : Nat} (h : knowsTo xs (strAt us k) xs.length = true) (h0 : 0 < (strAt us k).size) : useB xs us k = upS (lastS us k) (strAt us k) := by
  cases k with
  | zero => rw [useB_first h, lastS_zero, upS_empty h0]
  | succ k => rw [useB_next h, lastS_succ]
theorem known_pos {xs : List Aff} {name : ByteArray} {n : Nat} (hne : ∀ j, j < n → 0 < (affG xs j).n.size) (h : knowsTo xs name n = true) : 0 < name.size := by
  obtain ⟨i, hi, e⟩ := knowsTo_at h
  have : (affG xs i).n = name := by
    by_cases e' : (affG xs i).n = name
    · exact e'
    · rw [strNe e'] at e; cases e
  rw [← this]
  exact hne i hi

set_option maxRecDepth 100000 in
set_option maxHeartbeats 2000000 in
theorem validUses_any {v : Value} {us : List ByteArray} (w : World) (B : Nat) (xs : List Aff) (hu : Strs w v us) (hz : ∀ s ∈ us, s.size ≤ maxLen) (hN : NameSet w B xs xs.length) (hne : ∀ j, j < xs.length → 0 < (affG xs j).n.size) :
    Calls Try.prog 129 #[v, .map (some B)] w fun e w' => e = .returned (.bool (allTo (useB xs us) us.length)) ∧ Below w.heap.size w w' := by
  have hul := hu.len
  have hBl := hN.lt
  obtain ⟨a, cap, rfl, hl, hm, hc⟩ := hu
  have HC := Shh.mk hc
  have HN := Shh.mk hN
  have HNE := Shh.mk hne
  clear hc hN hne
  go_enter Try.func129, Try.ntmps129
  go_wp2
  go_loopw [5, 7, 8, 9, 12] (fun l _ _ _ i wr => ∃ k : Nat, k ≤ us.length ∧ i = .int .i64 k ∧ l = .string (lastS us k) ∧ Below w.heap.size w wr ∧ Hid (allTo (useB xs us) k = true)) (fun _ _ _ _ i _ => us.length - (intOf i).toNat)
  case atStart => exact ⟨0, Nat.zero_le _, rfl, rfl, Below.refl _ _, allTo_zero _⟩
  case round =>
    obtain ⟨k, hk, rfl, rfl, hB, ht⟩ := hrel
    by_cases hlt : k < us.length
    · obtain ⟨bu, ou, rfl, hbu, hcc⟩ := HC.out (by omega)
      have ck := (hB.cell (p := ⟨bu, ou + k, none⟩) hbu).trans (hcc k hlt)
      have hsz := hz _ (strAt_mem hlt)
      have HS := Shh.mk (allTo_succ (useB xs us) k)
      have HN0 := Shh.mk (fun h => allTo_not (p := useB xs us) (n := us.length) hlt h)
      obtain ⟨D, hD, hown, hhas, -⟩ := HN.out.kept hB hBl
      have hks := hhas (strAt us k)
      have hkey := keyOf_string_mk Try.underlying9 hsz
      have HLS := Shh.mk (lastS_succ us k)
      obtain ⟨l, hl'⟩ : ∃ l, lastS us k = l := ⟨_, rfl⟩
      cases hkn : knowsTo xs (strAt us k) xs.length
      · have HR := Shh.mk (HN0.out (useB_known hkn))
        rw [hkn] at hks
        obtain ⟨y, hy⟩ : ∃ y, strAt us k = y := ⟨_, rfl⟩
        rw [hy] at ck hks hkey
        have HK := Shh.mk hks
        rw [hl']
        clear hkn hks hy hcc hl' HN0 hhas
        go_wp2_with (at_lookup; refine wpList_lookup_own_unit _ rfl _ _ 178 rfl 9 180 lawS Try.underlying178 (zeroU _) B xs.length D rfl hown _ _ rfl hkey ?_; rw [HK.out])
        go_ret
        exact ⟨ret_bool HR.out.symm, hB.alloc hB.size _⟩
      · have hpos := known_pos HNE.out hkn
        have hU := useB_last hkn hpos
        rw [hkn] at hks
        rw [hl'] at hU
        obtain ⟨y, hy⟩ : ∃ y, strAt us k = y := ⟨_, rfl⟩
        rw [hy] at ck hks hkey hU HLS
        have HK := Shh.mk hks
        rw [hl']
        have hcmp := not_le (a := l) (b := y)
        clear hkn hks hy hcc hl' hhas hpos
        cases hup : upS l y
        · have HR := Shh.mk (HN0.out (hU.trans hup))
          rw [hup] at hcmp
          simp only [Bool.not_false] at hcmp
          clear hU HN0 hup
          go_wp2_with (at_lookup; refine wpList_lookup_own_unit _ rfl _ _ 178 rfl 9 180 lawS Try.underlying178 (zeroU _) B xs.length D rfl hown _ _ rfl hkey ?_; rw [HK.out])
          go_ret
          exact ⟨ret_bool HR.out.symm, hB.alloc hB.size _⟩
        · have HU := Shh.mk (hU.trans hup)
          rw [hup] at hcmp
          simp only [Bool.not_true] at hcmp
          clear hU HN0 hup
          go_wp2_with (at_lookup; refine wpList_lookup_own_unit _ rfl _ _ 178 rfl 9 180 lawS Try.underlying178 (zeroU _) B xs.length D rfl hown _ _ rfl hkey ?_; rw [HK.out])
          go_roundw
          case rel => exact ⟨k + 1, by omega, by go_num, by rw [HLS.out], hB.alloc hB.size _, by rw [Hid, HS.out, ht.out, HU.out]; rfl⟩
          case measure => simp [intOf]; omega
    · obtain rfl : k = us.length := by omega
      have HR := Shh.mk ht.out
      clear ht
      go_wp2
      go_ret
      exact ⟨ret_bool HR.out.symm, hB⟩
end Go.Proofs.Ytilagppmljpclaa
