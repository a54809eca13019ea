/-
  Whether a word can be placed with some tiles: the program's.
-/
import Derived.Test.YtdleinognmdfmaaDoorO5
import Derived.Test.YtdleinognmdfmaaDoorN3
namespace Go.Proofs.YtdleinognmdfmaaDoor
open Go.RowKit

/-- The counts that are left: n blanks less than f0, and F of the other tiles. -/
def canA (f0 n : Nat) (F : Nat → Nat) : Nat → Int := fun k => if k = 0 then (f0 : Int) - (n : Int) else (F k : Int)
theorem canA_start (F : Nat → Nat) : arrI (canA (F 0) 0 F) = arrN F := arrI_congr fun k _ => by
  unfold canA
  by_cases h : k = 0
  · rw [if_pos h, h]; omega
  · rw [if_neg h]
theorem canA_zero (f0 n : Nat) (F : Nat → Nat) : canA f0 n F 0 = (f0 : Int) - (n : Int) := rfl
theorem canA_at (f0 n : Nat) (F : Nat → Nat) {k : Nat} (h : 1 ≤ k) : canA f0 n F k = (F k : Int) := by
  unfold canA
  rw [if_neg (by omega)]
theorem canA_blank (f0 n : Nat) (F : Nat → Nat) : (arrI (canA f0 n F)).setIfInBounds 0 (.int .i64 ((f0 : Int) - (n : Int) - 1)) = arrI (canA f0 (n + 1) F) := by
  rw [arrI_set]
  refine arrI_congr fun j _ => ?_
  unfold canA
  by_cases h : j = 0
  · rw [if_pos h, if_pos h]; omega
  · rw [if_neg h, if_neg h, if_neg h]
theorem canA_tile (f0 n : Nat) (F : Nat → Nat) {k : Nat} (h : 1 ≤ k) (h2 : F k ≠ 0) : (arrI (canA f0 n F)).setIfInBounds k (.int .i64 ((F k : Int) - 1)) = arrI (canA f0 n (decK F k)) := by
  rw [arrI_set]
  refine arrI_congr fun j _ => ?_
  unfold canA decK
  by_cases e : j = k
  · rw [if_pos e, if_neg (by omega), if_pos e, e]; omega
  · rw [if_neg e, if_neg e]

set_option maxRecDepth 100000 in
set_option maxHeartbeats 4000000 in
theorem implCanMake_yes (p s : ByteArray) (w : World) (hp : p.size ≤ 1048576) (hs : s.size ≤ 1048576) (h1 : pileB p.data.toList = true) (h2 : isWordB s.data.toList = true) :
    Calls Tryd.prog 25 #[.string p, .string s] w fun e w' => e = .returned (.bool (canL p.data.toList s.data.toList)) ∧ Below w.heap.size w w' := by
  have hsm : s.size ≤ maxLen := by unfold maxLen; omega
  have hlw := word_len h2
  rw [len_list] at hlw
  have hlp := (pileB_iff.1 h1).2.2
  have HP := hid h1
  have HW := Shh.mk h2
  have HW2 := hid h2
  obtain ⟨F0, hF⟩ : ∃ F, cnt p.data.toList = F := ⟨_, rfl⟩
  have HF := Shh.mk ((cntP_yes h1).trans hF)
  have HC := Shh.mk hF
  have HB0 := Shh.mk (show ∀ k, F0 k ≤ 120 from fun k => by rw [← hF]; exact Nat.le_trans (cnt_le _ k) hlp)
  have hf0 := HB0.out 0
  obtain ⟨f0, hf⟩ : ∃ f0, F0 0 = f0 := ⟨_, rfl⟩
  have HZ := Shh.mk hf
  rw [hf] at hf0
  clear h1 h2 hF hf hlp
  go_enter Tryd.func25, Tryd.ntmps25
  go_wp2_with fail
  refine (countPile_any p _ hp).mono ?_
  rw [HP.out, HF.out]
  rintro e w1 ⟨rfl, hb1⟩
  go_wp2_with (first
    | (refine store_lastN rfl _ _ rfl w1 F0 _ rfl (by rfl) (by rfl) rfl ?_)
    | (go_at_call 19; refine (implIsWord_any s _ hsm).mono ?_; rw [HW2.out]; rintro e w2 ⟨rfl, hb2⟩))
  have hm := hid ((Blk.made w1 61 (arrN F0)).kept hb2 (by simp))
  have hB2 : Below w.heap.size w w2 := (hb1.alloc hb1.size _).trans (hb2.mono (by have := hb1.size; simp; omega))
  have hw1 := hb1.size
  have hw12 : w1.heap.size < w2.heap.size := by have := hb2.size; simp at this; omega
  go_loopw [23] (fun i wr => ∃ (k n : Nat) (F : Nat → Nat), k ≤ s.size ∧ n ≤ s.size ∧ i = .int .i64 k ∧ Hid (Blk wr w1.heap.size 61 (arrI (canA f0 n F))) ∧ Shh (ND p s k n F) ∧ Shh (∀ k, F k ≤ 120) ∧ Below w.heap.size w wr) (fun i _ => s.size - (intOf i).toNat)
  case atStart => exact ⟨0, 0, F0, Nat.zero_le _, Nat.zero_le _, rfl, by rw [← HZ.out, canA_start]; exact hm.out, ⟨by rw [← HC.out]; exact nd_start p s⟩, HB0, hB2⟩
  case round =>
    obtain ⟨k, n, F, hk, hn, rfl, hblk, hnd, hFb, hB⟩ := hrel
    by_cases hlt : k < s.size
    · obtain ⟨hK1, hK2, hK3⟩ := small_kind (word_small HW.out (at_mem s k hlt))
      have hkw := Shh.mk (word_kinds HW.out)
      obtain ⟨K, hK⟩ : ∃ K, kindN (s[k]'hlt) = K := ⟨_, rfl⟩
      have HKK := Shh.mk hK
      rw [hK] at hK1 hK2 hK3
      have HK3 := hid hK3
      have hF := hFb.out K
      clear hK3 hK
      have hcell : wr.cell? ⟨w1.heap.size, K, none⟩ = some (.int .i64 (F K : Int)) := by
        rw [hblk.out.cells, arrI_at _ hK2, canA_at _ _ _ hK1]
      have hK0 : (0 : Int) ≤ (K : Int) := by omega
      have hK27 : (K : Int) < 27 := by omega
      by_cases hz : F K = 0
      · have hcell0 : wr.cell? ⟨w1.heap.size, 0, none⟩ = some (.int .i64 ((f0 : Int) - (n : Int))) := by
          rw [hblk.out.cells, arrI_at _ (by omega), canA_zero]
        have hfr := hblk.out.marks 0
        have hzb : ((F K : Int) == 0) = true := by rw [hz]; rfl
        have hnd2 := nd_miss hnd.out hlt (by rw [HKK.out]; exact hz)
        have hn2 := nd_le hnd2
        have HN := Shh.mk hnd2
        have HS := hid (canA_blank f0 n F)
        clear hz hnd hnd2 hF
        go_wp2_with (go_at_call 41; refine (kindOf_tile HK3.out _).mono ?_; rintro e w' ⟨rfl, rfl⟩)
        go_roundw
        case rel =>
          refine ⟨k + 1, n + 1, F, by omega, hn2, by go_num, ?_, HN, hFb, hB.setCell (by simp; omega) _⟩
          have := hblk.out.stored 0 (.int .i64 ((f0 : Int) - (n : Int) - 1))
          rw [HS.out] at this
          exact this
        case measure => simp [intOf]; omega
      · have hfr := hblk.out.marks K
        have hzb : ((F K : Int) == 0) = false := beq_eq_false_iff_ne.2 (by omega)
        have HN := Shh.mk (nd_hit (G := decK F K) hnd.out hlt (by rw [HKK.out]; exact hz) hkw.out (fun j _ => by rw [HKK.out]))
        have HS := hid (canA_tile f0 n F hK1 hz)
        have HF2 := Shh.mk (show ∀ k, decK F K k ≤ 120 from fun j => by have := hFb.out j; unfold decK; split <;> omega)
        have hF1 : 1 ≤ F K := by omega
        obtain ⟨x, hx⟩ : ∃ x, F K = x := ⟨_, rfl⟩
        rw [hx] at hcell hzb HS hF hF1
        clear hz hnd hx
        go_wp2_with (go_at_call 41; refine (kindOf_tile HK3.out _).mono ?_; rintro e w' ⟨rfl, rfl⟩)
        go_roundw
        case rel =>
          refine ⟨k + 1, n, decK F K, by omega, hn, by go_num, ?_, HN, HF2, hB.setCell (by simp; omega) _⟩
          have := hblk.out.stored K (.int .i64 ((x : Int) - 1))
          rw [HS.out] at this
          exact this
        case measure => simp [intOf]; omega
    · obtain rfl : k = s.size := by omega
      have hcell0 : wr.cell? ⟨w1.heap.size, 0, none⟩ = some (.int .i64 ((f0 : Int) - (n : Int))) := by
        rw [hblk.out.cells, arrI_at _ (by omega), canA_zero]
      have HR := Shh.mk (show canL p.data.toList s.data.toList = decide (n ≤ f0) by unfold canL; rw [nd_end hnd.out, HC.out, HZ.out])
      clear hnd
      go_wp2
      go_ret
      exact ⟨ret_bool HR.out.symm, hB⟩

set_option maxHeartbeats 1000000 in
theorem implCanMake_any (p s : ByteArray) (w : World) (hp : p.size ≤ 1048576) (hs : s.size ≤ 1048576) :
    Calls Tryd.prog 25 #[.string p, .string s] w fun e w' => e = .returned (.bool (canB p.data.toList s.data.toList)) ∧ Below w.heap.size w w' := by
  have hsm : s.size ≤ maxLen := by unfold maxLen; omega
  cases h1 : pileB p.data.toList
  · have HP := hid h1
    have HR := hid (canB_no1 (w := s.data.toList) h1)
    obtain ⟨F, hF⟩ : ∃ F, cntP p.data.toList = F := ⟨_, rfl⟩
    have HF := Shh.mk hF
    clear h1 hF
    go_enter Tryd.func25, Tryd.ntmps25
    go_wp2_with fail
    refine (countPile_any p _ hp).mono ?_
    rw [HP.out, HF.out]
    rintro e w1 ⟨rfl, hb1⟩
    go_wp2_with (refine store_lastN rfl _ _ rfl w1 F _ rfl (by rfl) (by rfl) rfl ?_)
    go_ret
    exact ⟨ret_bool HR.out.symm, hb1.alloc hb1.size _⟩
  · cases h2 : isWordB s.data.toList
    · have HP := hid h1
      have HW := hid h2
      have HR := hid (canB_no2 (p := p.data.toList) h2)
      obtain ⟨F, hF⟩ : ∃ F, cntP p.data.toList = F := ⟨_, rfl⟩
      have HF := Shh.mk hF
      clear h1 h2 hF
      go_enter Tryd.func25, Tryd.ntmps25
      go_wp2_with fail
      refine (countPile_any p _ hp).mono ?_
      rw [HP.out, HF.out]
      rintro e w1 ⟨rfl, hb1⟩
      go_wp2_with (first
        | (refine store_lastN rfl _ _ rfl w1 F _ rfl (by rfl) (by rfl) rfl ?_)
        | (go_at_call 19; refine (implIsWord_any s _ hsm).mono ?_; rw [HW.out]; rintro e w2 ⟨rfl, hb2⟩))
      go_ret
      exact ⟨ret_bool HR.out.symm, (hb1.alloc hb1.size _).trans (hb2.mono (by have := hb1.size; simp; omega))⟩
    · rw [canB_yes h1 h2]
      exact implCanMake_yes p s w hp hs h1 h2
end Go.Proofs.YtdleinognmdfmaaDoor
