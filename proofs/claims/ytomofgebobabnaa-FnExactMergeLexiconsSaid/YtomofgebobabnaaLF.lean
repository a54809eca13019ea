/-
  Words copied, sorted, each once: the library's three functions on a row of the call's own; the model's l05Make.
-/
import Derived.Test.YtomofgebobabnaaLC
import Derived.Test.YtomofgebobabnaaL4
import Derived.Sort.OwnSorted
import Derived.Lib.OwnBridge
namespace Go.Proofs.Ytomofgebobabnaa
open Go.RowKit Go.Lib Go.Sort

theorem map_enc (ss : List ByteArray) : (ss.map bytesOf).map encStr = ss.map Value.string := Lib.map_encStr ss
theorem own_enc {B : Nat} {w : World} {v : Value} {ss : List ByteArray} (h : OwnS B w v ss) : w.ownsRow B 9 1 v ss.length ((ss.map bytesOf).map encStr) := by rw [map_enc]; exact h
theorem own_dec {B n : Nat} {w : World} {v : Value} {zs : List (List UInt8)} (h : w.ownsRow B 9 1 v n (zs.map encStr)) (hn : n = zs.length) : OwnS B w v (zs.map byteArr) := by
  unfold OwnS
  rw [List.length_map, ← map_enc, map_byteArr, ← hn]
  exact h

theorem clone_any {v : Value} {ss : List ByteArray} (w : World) (h : Strs w v ss) (hn : ss.length ≤ 1048577) :
    Calls Try.prog 55 #[v] w fun e w' => ∃ v', e = .returned v' ∧ OwnS w.heap.size w' v' ss ∧ Below w.heap.size w w' := by
  obtain ⟨a, cap, rfl, hl, hm, hc⟩ := h
  rcases Nat.eq_zero_or_pos ss.length with h0 | h0
  · have hnil : ss = [] := List.eq_nil_of_length_eq_zero h0
    subst hnil
    rcases a with _ | a
    · exact (Try.slices_Clone_string_nil 0 cap w).mono fun e w' ⟨h1, h2⟩ => ⟨_, h1, OwnS.void _ _, by rw [h2]; exact Below.refl _ _⟩
    · exact (Try.slices_Clone_string_zero a cap w).mono fun e w' ⟨v', h1, h2, _, h4⟩ => ⟨v', h1, h2, h4⟩
  · obtain ⟨b, off, rfl, hb, hcc⟩ := hc h0
    refine (Try.slices_Clone_string b off ss.length cap ss w (Nat.le_refl _) (by omega) hcc).mono fun e w' ⟨v', h1, h2, _, h4⟩ => ⟨v', h1, ?_, h4⟩
    rw [List.take_length] at h2
    exact h2

def sortS (ss : List ByteArray) : List ByteArray := ((ss.map bytesOf).mergeSort fun x y => decide (x ≤ y)).map byteArr
def onceS (ss : List ByteArray) : List ByteArray := (Lib.compact (ss.map bytesOf)).map byteArr
theorem sortS_len (ss : List ByteArray) : (sortS ss).length = ss.length := by unfold sortS; rw [List.length_map, List.length_mergeSort, List.length_map]
theorem once_is (ss : List ByteArray) : onceS (sortS ss) = makeL ss := by
  unfold onceS sortS
  rw [map_byteArr]
  exact sorted_once ss
theorem own_nil {B : Nat} {w : World} {ss : List ByteArray} (h : OwnS B w (.slice none 0 0) ss) : ss = [] := by
  obtain ⟨a, cap, e, -⟩ := own_form h
  injection e with _ e2 _
  exact List.eq_nil_of_length_eq_zero e2.symm

theorem sort_any {B : Nat} {w : World} {v : Value} {ss : List ByteArray} (h : OwnS B w v ss) (hn : ss.length ≤ 1048577) :
    Calls Try.prog 56 #[v] w fun e w' => e = .returned (.tuple #[]) ∧ OwnS B w' v (sortS ss) ∧ w.grownBy w' v.ownBlock := by
  by_cases hv : v = .slice none 0 0
  · subst hv
    obtain rfl := own_nil h
    exact (Try.slices_Sort_string_none none 0 w).mono fun e w' ⟨h1, h2⟩ => ⟨h1, by rw [h2, show sortS [] = [] by simp [sortS]]; exact h, by rw [h2]; exact World.grownBy.refl _ _⟩
  · obtain ⟨g, cap, rfl, hbg, hgl, hnc, hcm, hlen, hH⟩ := Lib.holds_of_ownsRow (own_enc h) hv
    rcases h.2 with ⟨e0, _⟩ | ⟨g', cap', cur, e0, hb, hg, h1, h2, h3, h4⟩
    · exact absurd e0 hv
    · cases e0
      have hs := Try.slices_Sort_string g 0 cap (ss.map bytesOf) w hH hgl (by rw [hlen]; omega)
      rw [hlen] at hs
      refine hs.mono ?_
      rintro e w' ⟨he, n, os, rfl⟩
      have ho := ownsRow_sorted (n := n) (os := os) (ss := ss.map bytesOf) (ts := (ss.map bytesOf).mergeSort fun x y => decide (x ≤ y)) (List.length_mergeSort _) hb hg (by rw [hlen]; exact h1) h2 h3
      rw [hlen] at ho
      refine ⟨he, ?_, grownBy_sorted _⟩
      exact own_dec ho (by rw [List.length_mergeSort, hlen])
theorem compact_any {B : Nat} {w : World} {v : Value} {ss : List ByteArray} (h : OwnS B w v ss) (hn : ss.length ≤ 1048577) :
    Calls Try.prog 57 #[v] w fun e w' => ∃ v', e = .returned v' ∧ OwnS B w' v' (onceS ss) ∧ w.grownBy w' v.ownBlock := by
  by_cases hv : v = .slice none 0 0
  · subst hv
    obtain rfl := own_nil h
    exact (Try.slices_Compact_string_empty none 0 w).mono fun e w' ⟨h1, h2⟩ => ⟨_, h1, by rw [h2]; exact h, by rw [h2]; exact World.grownBy.refl _ _⟩
  · obtain ⟨g, cap, rfl, hbg, hgl, hnc, hcm, hlen, hH⟩ := Lib.holds_of_ownsRow (own_enc h) hv
    have hle := Lib.compact_length_le (ss.map bytesOf)
    have hs := Try.slices_Compact_string g 0 cap (ss.map bytesOf) w hH (by rw [hlen]; omega) (by rw [hlen]; exact hnc)
    rw [hlen] at hs
    refine hs.mono ?_
    rintro e w' ⟨he, q, rfl⟩
    have ho := Lib.ownsRow_putRow (q := q) (k := (Lib.compact (ss.map bytesOf)).length) (ys := Lib.compact (ss.map bytesOf) ++ List.replicate (ss.length - (Lib.compact (ss.map bytesOf)).length) []) (own_enc h) (by simp; omega) (by omega)
    rw [List.take_left] at ho
    refine ⟨_, he, own_dec ho rfl, ?_⟩
    have hg := grownBy_sorted (w := w) (g := g) (n := q) (os := #[]) (Lib.compact (ss.map bytesOf) ++ List.replicate (ss.length - (Lib.compact (ss.map bytesOf)).length) []).toArray
    have e2 : ∀ W : World, grow W #[] = W := fun W => by simp [grow]
    rw [e2] at hg
    exact hg

/-! ### The model -/
/-- One word more, in a row of the call's own. -/
theorem insert_own {B : Nat} {w : World} {v : Value} {ss : List ByteArray} (s : ByteArray) (h : OwnS B w v ss) (hr : Rise ss) (hn : ss.length ≤ 1048577) (hB : B ≤ w.heap.size) :
    Calls Try.prog 61 #[v, .string s] w fun e w' => ∃ v', e = .returned v' ∧ OwnS B w' v' (insS ss s) ∧ Below w.heap.size w w' := by
  cases hh : hasL ss s
  · rw [insS_new hh]
    exact (insert_new w s h.strs hr hn hh).mono fun e w' ⟨v', h1, h2, h3⟩ => ⟨v', h1, OwnS.lower h2 hB, h3⟩
  · rw [insS_has hh]
    exact (insert_has w s h.strs hr hh).mono fun e w' ⟨h1, h2⟩ => ⟨v, h1, by rw [h2]; exact h, by rw [h2]; exact Below.refl _ _⟩

set_option maxHeartbeats 1000000 in
theorem l05Make_any {v : Value} {us : List ByteArray} (w : World) (h : Strs w v us) (hn : us.length ≤ 1048576) :
    Calls Try.prog 54 #[v] w fun e w' => ∃ v', e = .returned v' ∧ OwnS w.heap.size w' v' (makeL us) ∧ Below w.heap.size w w' := by
  have hl := h.len
  obtain ⟨a, cap, rfl, hl1, hm, hc⟩ := h
  have HC := Shh.mk hc
  have HRI := Shh.mk (makeTo_rise rise_nil us)
  have HLN := Shh.mk (makeTo_len [] us)
  clear hc
  go_enter Try.func54, Try.ntmps54
  go_wp2
  go_loopw [3, 4] (fun x i wr => ∃ k : Nat, k ≤ us.length ∧ i = .int .i64 k ∧ OwnS w.heap.size wr x (makeTo [] us k) ∧ Below w.heap.size w wr) (fun _ i _ => us.length - (intOf i).toNat)
  case atStart => exact ⟨0, Nat.zero_le _, rfl, World.ownsRow_lit w _ 0 (Nat.le_refl _) (by unfold maxLen; omega) rfl, (Below.refl _ _).alloc (Nat.le_refl _) _⟩
  case round =>
    obtain ⟨k, hk, rfl, ho, hb⟩ := hrel
    have HO := Shh.mk ho
    have HB := Shh.mk hb
    clear ho
    by_cases hlt : k < us.length
    · obtain ⟨b, off, rfl, hbl, hcc⟩ := HC.out (by omega)
      have ck := (hb.cell (p := ⟨b, off + k, none⟩) hbl).trans (hcc k hlt)
      have HE := Shh.mk (makeTo_succ [] us k hlt)
      obtain ⟨y, hy⟩ : ∃ y, strAt us k = y := ⟨_, rfl⟩
      rw [hy] at ck HE
      clear hcc hb hy
      go_wp2_with fail
      refine (insert_own y HO.out (HRI.out k hk) (by have := HLN.out k hk; simp at this; omega) HB.out.size).mono ?_
      rintro e w2 ⟨v2, rfl, ho2, hb2⟩
      have HB2 := Shh.mk (HB.out.trans (hb2.mono HB.out.size))
      rw [← HE.out] at ho2
      have HO2 := Shh.mk ho2
      clear ho2 hb2
      go_wp2
      go_roundw
      case rel => exact ⟨k + 1, by omega, by go_num, HO2.out, HB2.out⟩
      case measure => simp [intOf]; omega
    · obtain rfl : k = us.length := by omega
      go_wp2
      go_ret
      exact ⟨_, rfl, HO.out, HB.out⟩

/-- The lexicon of some words. -/
def longAt (us : List ByteArray) (j : Nat) : Bool := longB (strAt us j)
def makeOut (us : List ByteArray) : List ByteArray × Int :=
  if allTo (longAt us) us.length = false then ([], 7) else if (makeL us).length > 200 then ([], 5) else (makeL us, 0)
theorem makeOut_bad {us : List ByteArray} {k : Nat} (hk : k < us.length) (h : longB (strAt us k) = false) : makeOut us = ([], 7) := by
  unfold makeOut
  rw [if_pos (allTo_not hk h)]
theorem makeOut_full {us : List ByteArray} (h : allTo (longAt us) us.length = true) (h2 : (makeL us).length > 200) : makeOut us = ([], 5) := by simp [makeOut, h, h2]
theorem makeOut_yes {us : List ByteArray} (h : allTo (longAt us) us.length = true) (h2 : ¬ (makeL us).length > 200) : makeOut us = (makeL us, 0) := by simp [makeOut, h]; omega
theorem makeL_len (us : List ByteArray) : (makeL us).length ≤ us.length := by
  have := makeTo_len [] us us.length (Nat.le_refl _)
  simpa [makeL] using this
theorem makeOut_len (us : List ByteArray) : (makeOut us).1.length ≤ us.length := by
  unfold makeOut
  have := makeL_len us
  repeat' split
  all_goals simp
  omega

set_option maxRecDepth 100000 in
set_option maxHeartbeats 1000000 in
theorem specMakeLexicon_any {v : Value} {us : List ByteArray} (W : World) (hu : Strs W v us) (hz : ∀ s ∈ us, s.size ≤ maxLen) (hn : us.length ≤ 1048576) :
    Calls Try.prog 23 #[v] W fun e w' => ∃ v0, e = retL v0 (makeOut us).2 ∧ Strs w' v0 (makeOut us).1 ∧ Below W.heap.size W w' := by
  have hul := hu.len
  have q0 := Blk.made W 27 #[.slice none 0 0]
  have hB := (Below.refl W.heap.size W).alloc (Nat.le_refl _) (.cells #[.slice none 0 0] 27)
  have HU := Shh.mk (hu.alloc (.cells #[.slice none 0 0] 27))
  have HB := Shh.mk hB
  have HR := Shh.mk q0
  obtain ⟨a, cap, rfl, hl1, hm, hc⟩ := hu
  have HC := Shh.mk hc
  clear hc hB q0
  go_enter Try.func23, Try.ntmps23
  go_wp2
  go_loop [4] (fun i => ∃ k : Nat, k ≤ us.length ∧ i = .int .i64 k ∧ Hid (allTo (longAt us) k = true)) (fun i => us.length - (intOf i).toNat)
  case atStart => exact ⟨0, Nat.zero_le _, rfl, allTo_zero _⟩
  case round =>
    obtain ⟨k, hk, rfl, ht⟩ := hrel
    by_cases hlt : k < us.length
    · obtain ⟨b, off, rfl, hbl, hcc⟩ := HC.out (by omega)
      have ck := (((Below.refl W.heap.size W).alloc (Nat.le_refl _) (.cells #[.slice none 0 0] 27)).cell (p := ⟨b, off + k, none⟩) hbl).trans (hcc k hlt)
      have hsz := hz _ (strAt_mem hlt)
      have HS := Shh.mk (allTo_succ (longAt us) k)
      have HN := Shh.mk (fun h => makeOut_bad (us := us) hlt h)
      cases hlo : longB (strAt us k)
      · have HA := Shh.mk (HN.out hlo)
        obtain ⟨y, hy⟩ : ∃ y, strAt us k = y := ⟨_, rfl⟩
        rw [hy] at ck hsz hlo
        have HL := Shh.mk hlo
        have c2 := HR.out.cells
        have m2 := HR.out.marks
        clear hcc hy hlo ht HN HS
        go_wp2_with fail
        refine (long_is HL.out _ hsz).mono ?_
        rintro e w2 ⟨rfl, rfl⟩
        go_wp2
        refine bodyPost_ret (v := .tuple #[.agg #[.slice none 0 0], .int .i64 7]) (by simp [results, Try.results23, go_sem, c2]) rfl ?_
        rw [HA.out]
        exact ⟨_, rfl, Strs.void _ _ (Nat.zero_le _), by first | exact HB.out | exact HB.out.setCell (Nat.le_refl _) _⟩
      · have HT := Shh.mk (show allTo (longAt us) (k + 1) = true by rw [HS.out, ht, show longAt us k = true from hlo]; rfl)
        obtain ⟨y, hy⟩ : ∃ y, strAt us k = y := ⟨_, rfl⟩
        rw [hy] at ck hsz hlo
        have HL := Shh.mk hlo
        clear hcc hy hlo ht HN HS
        go_wp2_with fail
        refine (long_is HL.out _ hsz).mono ?_
        rintro e w2 ⟨rfl, rfl⟩
        go_wp2
        go_round
        case rel => exact ⟨k + 1, by omega, by go_num, HT.out⟩
        case measure => simp [intOf]; omega
    · obtain rfl : k = us.length := by omega
      have HT := Shh.mk ht
      clear ht
      go_wp2_with fail
      refine (l05Make_any _ HU.out hn).mono ?_
      rintro e w2 ⟨v2, rfl, ho, hb2⟩
      obtain ⟨a2, c2', rfl, -, -, -⟩ := own_form ho
      have q2 := HR.out.kept hb2 (by simp)
      have HB2 := Shh.mk (HB.out.trans (hb2.mono HB.out.size))
      have HO := Shh.mk ho
      have c2 := q2.cells
      have m2 := q2.marks
      clear ho hb2
      have HF := Shh.mk (fun h => makeOut_full (us := us) HT.out h)
      have HY := Shh.mk (fun h => makeOut_yes (us := us) HT.out h)
      obtain ⟨n, hnn⟩ : ∃ n, (makeL us).length = n := ⟨_, rfl⟩
      rw [hnn] at HF HY
      rw [hnn]
      by_cases hbig : n > 200
      · have HA := Shh.mk (HF.out hbig)
        have hbi : (200 : Int) < (n : Int) := by omega
        clear HF HY hnn
        go_wp2
        refine bodyPost_ret (v := .tuple #[.agg #[.slice none 0 0], .int .i64 5]) (by simp [results, Try.results23, go_sem, c2]) rfl ?_
        rw [HA.out]
        exact ⟨_, rfl, Strs.void _ _ (Nat.zero_le _), HB2.out.setCell (Nat.le_refl _) _⟩
      · have HA := Shh.mk (HY.out hbig)
        have hbi : ¬ (200 : Int) < (n : Int) := by omega
        rw [hnn] at HO
        clear HF HY hnn
        go_wp2
        refine bodyPost_ret (v := .tuple #[.agg #[.slice a2 n c2'], .int .i64 0]) (by simp [results, Try.results23, go_sem, c2]) rfl ?_
        rw [HA.out]
        exact ⟨_, rfl, (HO.out.off (g := W.heap.size) (j := 0) (by simp) _).strs, HB2.out.setCell (Nat.le_refl _) _⟩

set_option maxRecDepth 100000 in
set_option maxHeartbeats 1000000 in
theorem implMakeLexicon_any {v : Value} {us : List ByteArray} (W : World) (hu : Strs W v us) (hz : ∀ s ∈ us, s.size ≤ maxLen) (hn : us.length ≤ 1048576) :
    Calls Try.prog 25 #[v] W fun e w' => ∃ v0, e = retL v0 (makeOut us).2 ∧ OwnS W.heap.size w' v0 (makeOut us).1 ∧ Below W.heap.size W w' := by
  have hul := hu.len
  have q0 := Blk.made W 27 #[.slice none 0 0]
  have hB := (Below.refl W.heap.size W).alloc (Nat.le_refl _) (.cells #[.slice none 0 0] 27)
  obtain ⟨W1, hW1⟩ : ∃ x, W.alloc (.cells #[.slice none 0 0] 27) = x := ⟨_, rfl⟩
  have hU := hu.alloc (.cells #[.slice none 0 0] 27)
  have hs1 : W1.heap.size = W.heap.size + 1 := by rw [← hW1]; simp
  rw [hW1] at q0 hB hU
  have HU := Shh.mk hU
  have HB := Shh.mk hB
  have HR := Shh.mk q0
  have HS1 := Shh.mk hs1
  have HW1 := Shh.mk hW1
  obtain ⟨a, cap, rfl, hl1, hm, hc⟩ := hU
  have HC := Shh.mk hc
  clear hc hB q0 hs1 hW1 hu
  go_enter Try.func25, Try.ntmps25
  go_wp2
  go_loopw [5, 10] (fun _ i wr => ∃ k : Nat, k ≤ us.length ∧ i = .int .i64 k ∧ Below W1.heap.size W1 wr ∧ Hid (allTo (longAt us) k = true)) (fun _ i _ => us.length - (intOf i).toNat)
  case atStart => exact ⟨0, Nat.zero_le _, rfl, by rw [← HW1.out]; exact Below.refl _ _, allTo_zero _⟩
  case round =>
    obtain ⟨k, hk, rfl, hb, ht⟩ := hrel
    have HK := Shh.mk hb
    by_cases hlt : k < us.length
    · obtain ⟨b, off, rfl, hbl, hcc⟩ := HC.out (by omega)
      have ck := (hb.cell (p := ⟨b, off + k, none⟩) hbl).trans (hcc k hlt)
      have hsz := hz _ (strAt_mem hlt)
      have HS := Shh.mk (allTo_succ (longAt us) k)
      have HN := Shh.mk (fun h => makeOut_bad (us := us) hlt h)
      cases hlo : longB (strAt us k)
      · have HA := Shh.mk (HN.out hlo)
        obtain ⟨y, hy⟩ : ∃ y, strAt us k = y := ⟨_, rfl⟩
        rw [hy] at ck hsz hlo
        have HL := Shh.mk hlo
        clear hcc hy hlo ht HN HS hb
        go_wp2_with fail
        refine (longI HL.out _ hsz).mono ?_
        rintro e w2 ⟨rfl, hb2⟩
        have hk2 := HK.out.trans (hb2.mono HK.out.size)
        have q2 := HR.out.kept hk2 HR.out.lt
        have HB2 := Shh.mk (HB.out.trans (hk2.mono HB.out.size))
        have c2 := q2.cells
        have m2 := q2.marks
        clear hb2 hk2
        go_wp2
        refine bodyPost_ret (v := .tuple #[.agg #[.slice none 0 0], .int .i64 7]) (by simp [results, Try.results25, go_sem, c2]) rfl ?_
        rw [HA.out]
        exact ⟨_, rfl, OwnS.void _ _, HB2.out.setCell (Nat.le_refl _) _⟩
      · have HT := Shh.mk (show allTo (longAt us) (k + 1) = true by rw [HS.out, ht, show longAt us k = true from hlo]; rfl)
        obtain ⟨y, hy⟩ : ∃ y, strAt us k = y := ⟨_, rfl⟩
        rw [hy] at ck hsz hlo
        have HL := Shh.mk hlo
        clear hcc hy hlo ht HN HS hb
        go_wp2_with fail
        refine (longI HL.out _ hsz).mono ?_
        rintro e w2 ⟨rfl, hb2⟩
        have HK2 := Shh.mk (HK.out.trans (hb2.mono HK.out.size))
        clear hb2
        go_wp2
        go_roundw
        case rel => exact ⟨k + 1, by omega, by go_num, HK2.out, HT.out⟩
        case measure => simp [intOf]; omega
    · obtain rfl : k = us.length := by omega
      have HT := Shh.mk ht
      clear ht hb
      go_wp2_with fail
      refine (clone_any _ (HU.out.below HK.out) (by omega)).mono ?_
      rintro e w2 ⟨v2, rfl, ho, hb2⟩
      have hk2 := HK.out.trans (hb2.mono HK.out.size)
      have HO2 := Shh.mk (OwnS.lower ho HK.out.size)
      clear ho hb2
      go_wp2_with fail
      refine (sort_any HO2.out (by omega)).mono ?_
      rintro e w3 ⟨rfl, ho, hg⟩
      have hk3 := hk2.grown hg hk2.size (OwnS.block HO2.out)
      have HO3 := Shh.mk ho
      clear ho hg hk2
      go_wp2_with fail
      refine (compact_any HO3.out (by rw [sortS_len]; omega)).mono ?_
      rw [once_is]
      rintro e w4 ⟨v4, rfl, ho, hg⟩
      have hk4 := hk3.grown hg hk3.size (OwnS.block HO3.out)
      obtain ⟨a4, c4', rfl, -, -, -⟩ := own_form ho
      have HO4 := Shh.mk ho
      have q4 := HR.out.kept hk4 HR.out.lt
      have HB4 := Shh.mk (HB.out.trans (hk4.mono HB.out.size))
      have c2 := q4.cells
      have m2 := q4.marks
      clear ho hg hk3 hk4
      have HF := Shh.mk (fun h => makeOut_full (us := us) HT.out h)
      have HY := Shh.mk (fun h => makeOut_yes (us := us) HT.out h)
      obtain ⟨n, hnn⟩ : ∃ n, (makeL us).length = n := ⟨_, rfl⟩
      rw [hnn] at HF HY
      rw [hnn]
      by_cases hbig : n > 200
      · have HA := Shh.mk (HF.out hbig)
        have hbi : (200 : Int) < (n : Int) := by omega
        clear HF HY hnn
        go_wp2
        refine bodyPost_ret (v := .tuple #[.agg #[.slice none 0 0], .int .i64 5]) (by simp [results, Try.results25, go_sem, c2]) rfl ?_
        rw [HA.out]
        exact ⟨_, rfl, OwnS.void _ _, HB4.out.setCell (Nat.le_refl _) _⟩
      · have HA := Shh.mk (HY.out hbig)
        have hbi : ¬ (200 : Int) < (n : Int) := by omega
        rw [hnn] at HO4
        clear HF HY hnn
        go_wp2
        refine bodyPost_ret (v := .tuple #[.agg #[.slice a4 n c4'], .int .i64 0]) (by simp [results, Try.results25, go_sem, c2]) rfl ?_
        rw [HA.out]
        exact ⟨_, rfl, OwnS.lower (HO4.out.off (g := W.heap.size) (j := 0) (by rw [HS1.out]; omega) _) (by rw [HS1.out]; omega), HB4.out.setCell (Nat.le_refl _) _⟩
end Go.Proofs.Ytomofgebobabnaa
