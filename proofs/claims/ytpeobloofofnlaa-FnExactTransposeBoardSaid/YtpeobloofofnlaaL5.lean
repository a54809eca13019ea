/-
  What makes a lexicon valid: the model's answer and the program's.
-/
import Derived.Test.YtpeobloofofnlaaL1
import Derived.Test.YtpeobloofofnlaaL2
namespace Go.Proofs.Ytpeobloofofnlaa
open Go.RowKit

/-- A lexicon in memory. -/
structure LexAt (W : World) (g : Nat) (v : Value) (ss : List ByteArray) : Prop where
  blk : Blk W g 40 #[v]
  strs : Strs W v ss
theorem LexAt.drewN {W : World} {g : Nat} {v : Value} {ss : List ByteArray} (h : LexAt W g v ss) (n : Nat) : LexAt (W.drewN n) g v ss := ⟨h.blk, h.strs⟩
theorem LexAt.made {W : World} {v : Value} {ss : List ByteArray} (h : Strs W v ss) : LexAt (W.alloc (.cells #[v] 40)) W.heap.size v ss := ⟨Blk.made W _ _, h.alloc _⟩

set_option maxRecDepth 100000 in
set_option maxHeartbeats 2000000 in
theorem l05Ok_any {g : Nat} {v : Value} {ss : List ByteArray} (W : World) (hg : LexAt W g v ss) (hz : ∀ s ∈ ss, s.size ≤ maxLen) :
    Calls Try.prog 105 #[.pointer (some ⟨g, 0, none⟩)] W fun e w' => e = .returned (.bool (okL ss)) ∧ ∃ k, w' = W.drewN k := by
  have hsl := hg.strs.len
  have HGA := Shh.mk hg
  have hc0 := hg.blk.cells
  obtain ⟨sa, sc, rfl, hsl1, hsm, hsc⟩ := hg.strs
  have HCS := Shh.mk hsc
  have HC0 := Shh.mk hc0
  clear hsc hg hc0
  go_enter Try.func105, Try.ntmps105
  go_wp2
  go_loopw [3] (fun i wr => ∃ k m : Nat, k ≤ ss.length ∧ i = .int .i64 k ∧ wr = W.drewN m ∧ Hid (allTo (okW ss) k = true)) (fun i _ => ss.length - (intOf i).toNat)
  case atStart => exact ⟨0, 0, Nat.zero_le _, rfl, rfl, allTo_zero _⟩
  case round =>
    obtain ⟨k, m, hk, rfl, hw', ht⟩ := hrel
    have HW := Shh.mk hw'
    have hgr := Shh.mk (show LexAt wr g _ ss by rw [hw']; exact HGA.out.drewN m)
    have c0 := hgr.out.blk.cells
    by_cases hlt : k < ss.length
    · obtain ⟨bs, os, rfl, hbs, hcc⟩ := HCS.out (by omega)
      have n0 : wr.cell? ⟨bs, os + k, none⟩ = some (.string (strAt ss k)) := by rw [hw']; exact hcc k hlt
      have hfine := hz _ (strAt_mem hlt)
      have HS := Shh.mk (allTo_succ (okW ss) k)
      have HN0 := Shh.mk (fun h => okL_bad (ss := ss) hlt h)
      cases hst : longB (strAt ss k)
      · have HN := Shh.mk (HN0.out (okW_no hst))
        obtain ⟨y, hy⟩ : ∃ y, strAt ss k = y := ⟨_, rfl⟩
        rw [hy] at hfine hst n0
        have HV := Shh.mk hst
        clear hst HN0 hcc hy hw'
        go_wp2
        go_quiet ((go_at_call 186; exact quietF (long_is HV.out _ hfine)))
        go_wp2
        go_ret
        exact ⟨ret_bool HN.out.symm, _, by rw [HW.out]; exact World.drewN_drewN _ _ _⟩
      · rcases Nat.eq_zero_or_pos k with hk0 | hk0
        · have HU : Shh (okW ss k = true) := ⟨by subst hk0; exact okW_first hst⟩
          have hkz : decide (0 < k) = false := decide_eq_false (by omega)
          obtain ⟨y, hy⟩ : ∃ y, strAt ss k = y := ⟨_, rfl⟩
          rw [hy] at hfine hst n0
          have HV := Shh.mk hst
          clear hst HN0 hcc hy hw' hk0
          go_wp2
          go_quiet ((go_at_call 186; exact quietF (long_is HV.out _ hfine)))
          go_wp2
          go_roundw
          case rel => exact ⟨k + 1, _, by omega, by go_num, by rw [HW.out]; exact World.drewN_drewN _ _ _, by rw [Hid, HS.out, ht.out, HU.out]; rfl⟩
          case measure => simp [intOf]; omega
        · obtain ⟨j, hj⟩ : ∃ j, k = j + 1 := ⟨k - 1, by omega⟩
          have hU : okW ss k = upS (strAt ss j) (strAt ss k) := by subst hj; exact okW_next hst
          have j0 : wr.cell? ⟨bs, os + j, none⟩ = some (.string (strAt ss j)) := by rw [hw']; exact hcc j (by omega)
          obtain ⟨y, hy⟩ : ∃ y, strAt ss k = y := ⟨_, rfl⟩
          rw [hy] at hfine hst n0 hU
          obtain ⟨x, hxx⟩ : ∃ x, strAt ss j = x := ⟨_, rfl⟩
          rw [hxx] at j0 hU
          have HV := Shh.mk hst
          have hjl : j < ss.length := by omega
          have hp1 : (k : Int) - 1 = (j : Int) := by omega
          have hp3 : IntKind.i64.wrap (j : Int) = (j : Int) := IntWalk.i64_in _ (by omega)
          have hpos : decide (0 < k) = true := decide_eq_true (by omega)
          clear hst hcc hy hxx hw' hj
          have hcmp := not_le (a := x) (b := y)
          cases hup : upS x y
          · have HN := Shh.mk (HN0.out (hU.trans hup))
            rw [hup] at hcmp
            simp only [Bool.not_false] at hcmp
            clear hU HN0 hup
            go_wp2
            go_quiet ((go_at_call 186; exact quietF (long_is HV.out _ hfine)))
            go_wp2
            go_ret
            exact ⟨ret_bool HN.out.symm, _, by rw [HW.out]; exact World.drewN_drewN _ _ _⟩
          · have HU := Shh.mk (hU.trans hup)
            rw [hup] at hcmp
            simp only [Bool.not_true] at hcmp
            clear hU HN0 hup
            go_wp2
            go_quiet ((go_at_call 186; exact quietF (long_is HV.out _ hfine)))
            go_wp2
            go_roundw
            case rel => exact ⟨k + 1, _, by omega, by go_num, by rw [HW.out]; exact World.drewN_drewN _ _ _, by rw [Hid, HS.out, ht.out, HU.out]; rfl⟩
            case measure => simp [intOf]; omega
    · obtain rfl : k = ss.length := by omega
      have HR := Shh.mk (okL_rest ht.out)
      clear hw' ht HCS
      by_cases hl2 : ss.length ≤ 200
      · have hi2 : (ss.length : Int) ≤ 200 := by omega
        have HR2 := Shh.mk (HR.out.trans (show _ = true by simp [hl2]))
        clear hl2 HR
        go_wp2
        go_ret
        exact ⟨ret_bool HR2.out.symm, _, HW.out⟩
      · have hi2 : ¬ (ss.length : Int) ≤ 200 := by omega
        have HR2 := Shh.mk (HR.out.trans (show _ = false by simp [hl2]))
        clear hl2 HR
        go_wp2
        go_ret
        exact ⟨ret_bool HR2.out.symm, _, HW.out⟩
theorem ok_is {g : Nat} {v : Value} {ss : List ByteArray} {t : Bool} (h : okL ss = t) (W : World) (hg : LexAt W g v ss) (hz : ∀ s ∈ ss, s.size ≤ maxLen) :
    Calls Try.prog 105 #[.pointer (some ⟨g, 0, none⟩)] W fun e w' => e = .returned (.bool t) ∧ ∃ k, w' = W.drewN k := by rw [← h]; exact l05Ok_any W hg hz


set_option maxRecDepth 100000 in
set_option maxHeartbeats 2000000 in
theorem implValidLexicon_any {v : Value} {us : List ByteArray} (w : World) (hu : Strs w v us) (hz : ∀ s ∈ us, s.size ≤ maxLen) :
    Calls Try.prog 101 #[.agg #[v]] w fun e w' => e = .returned (.bool (okL us)) ∧ Below w.heap.size w w' := by
  have hul := hu.len
  have hU := Shh.mk (hu.alloc (.cells #[v] 40))
  have hB0 := (Below.refl w.heap.size w).alloc (Nat.le_refl _) (.cells #[v] 40)
  have HB0 := Shh.mk hB0
  obtain ⟨a, cap, rfl, hl, hm, hc⟩ := hu
  have HC := Shh.mk hc
  clear hc
  by_cases hn : us.length ≤ 200
  · have hn1 : ¬ (200 : Int) < (us.length : Int) := by omega
    go_enter Try.func101, Try.ntmps101
    go_wp2
    go_loopw [3, 5, 13] (fun l _ i wr => ∃ k : Nat, k ≤ us.length ∧ i = .int .i64 k ∧ l = .string (lastS us k) ∧ Below w.heap.size w wr ∧ Hid (allTo (okW us) k = true)) (fun _ _ i _ => us.length - (intOf i).toNat)
    case atStart => exact ⟨0, Nat.zero_le _, rfl, rfl, HB0.out, allTo_zero _⟩
    case round =>
      obtain ⟨k, hk, rfl, rfl, hB, ht⟩ := hrel
      by_cases hlt : k < us.length
      · obtain ⟨bu, ou, rfl, hbu, hcc⟩ := HC.out (by omega)
        have ck := (hB.cell (p := ⟨bu, ou + k, none⟩) hbu).trans (hcc k hlt)
        have hsz := hz _ (strAt_mem hlt)
        have HS := Shh.mk (allTo_succ (okW us) k)
        have HN0 := Shh.mk (fun h => okL_bad (ss := us) hlt h)
        have HLS := Shh.mk (lastS_succ us k)
        obtain ⟨l, hl'⟩ : ∃ l, lastS us k = l := ⟨_, rfl⟩
        cases hkn : longB (strAt us k)
        · have HR := Shh.mk (HN0.out (okW_no hkn))
          obtain ⟨y, hy⟩ : ∃ y, strAt us k = y := ⟨_, rfl⟩
          rw [hy] at ck hsz hkn
          have HK := Shh.mk hkn
          rw [hl']
          clear hkn hy hcc hl' HN0
          go_wp2_with fail
          refine (longI HK.out _ hsz).mono ?_
          rintro e w2 ⟨rfl, hb2⟩
          have hB2 := hB.trans (hb2.mono hB.size)
          go_wp2
          go_ret
          exact ⟨ret_bool HR.out.symm, hB2⟩
        · have hU := okW_last hkn
          rw [hl'] at hU
          obtain ⟨y, hy⟩ : ∃ y, strAt us k = y := ⟨_, rfl⟩
          rw [hy] at ck hsz hkn hU HLS
          have HK := Shh.mk hkn
          rw [hl']
          have hcmp := not_le (a := l) (b := y)
          clear hkn hy hcc hl'
          cases hup : upS l y
          · have HR := Shh.mk (HN0.out (hU.trans hup))
            rw [hup] at hcmp
            simp only [Bool.not_false] at hcmp
            clear hU HN0 hup
            go_wp2_with fail
            refine (longI HK.out _ hsz).mono ?_
            rintro e w2 ⟨rfl, hb2⟩
            have hB2 := hB.trans (hb2.mono hB.size)
            go_wp2
            go_ret
            exact ⟨ret_bool HR.out.symm, hB2⟩
          · have HU := Shh.mk (hU.trans hup)
            rw [hup] at hcmp
            simp only [Bool.not_true] at hcmp
            clear hU HN0 hup
            go_wp2_with fail
            refine (longI HK.out _ hsz).mono ?_
            rintro e w2 ⟨rfl, hb2⟩
            have hB2 := hB.trans (hb2.mono hB.size)
            go_wp2
            go_roundw
            case rel => exact ⟨k + 1, by omega, by go_num, by rw [HLS.out], hB2, by rw [Hid, HS.out, ht.out, HU.out]; rfl⟩
            case measure => simp [intOf]; omega
      · obtain rfl : k = us.length := by omega
        have HR := Shh.mk (okL_all ht.out hn)
        clear ht
        go_wp2
        go_ret
        exact ⟨ret_bool HR.out.symm, hB⟩
  · have hn1 : (200 : Int) < (us.length : Int) := by omega
    have HR := Shh.mk (okL_len hn)
    clear hn
    go_enter Try.func101, Try.ntmps101
    go_wp2
    go_ret
    exact ⟨ret_bool HR.out.symm, hB0⟩
theorem valid_on {v : Value} {us : List ByteArray} {t : Bool} (h : okL us = t) (w : World) (hu : Strs w v us) (hz : ∀ s ∈ us, s.size ≤ maxLen) :
    Calls Try.prog 101 #[.agg #[v]] w fun e w' => e = .returned (.bool t) ∧ Below w.heap.size w w' := by rw [← h]; exact implValidLexicon_any w hu hz
end Go.Proofs.Ytpeobloofofnlaa
