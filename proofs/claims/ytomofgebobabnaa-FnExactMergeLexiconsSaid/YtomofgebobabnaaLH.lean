/-
  The words of two lexicons: the model's MergeLexicons and the program's.
-/
import Derived.Test.YtomofgebobabnaaLF
namespace Go.Proofs.Ytomofgebobabnaa
open Go.RowKit Go.Lib

/-- The words of two valid lexicons. -/
def mergeOut (us vs : List ByteArray) : List ByteArray × Int :=
  if okL us = false then ([], 1) else if okL vs = false then ([], 1) else if (makeTo us vs vs.length).length > 200 then ([], 5) else (makeTo us vs vs.length, 0)
theorem mergeOut_a {us vs : List ByteArray} (h : okL us = false) : mergeOut us vs = ([], 1) := by simp [mergeOut, h]
theorem mergeOut_b {us vs : List ByteArray} (h : okL us = true) (h2 : okL vs = false) : mergeOut us vs = ([], 1) := by simp [mergeOut, h, h2]
theorem mergeOut_full {us vs : List ByteArray} (h : okL us = true) (h2 : okL vs = true) (h3 : (makeTo us vs vs.length).length > 200) : mergeOut us vs = ([], 5) := by simp [mergeOut, h, h2, h3]
theorem mergeOut_yes {us vs : List ByteArray} (h : okL us = true) (h2 : okL vs = true) (h3 : ¬ (makeTo us vs vs.length).length > 200) : mergeOut us vs = (makeTo us vs vs.length, 0) := by simp [mergeOut, h, h2]; omega
theorem mergeOut_len (us vs : List ByteArray) : (mergeOut us vs).1.length ≤ us.length + vs.length := by
  unfold mergeOut
  have := makeTo_len us vs vs.length (Nat.le_refl _)
  repeat' split
  all_goals simp
  omega
theorem allTo_all {p : Nat → Bool} : ∀ {n : Nat}, (∀ j, j < n → p j = true) → allTo p n = true
  | 0, _ => allTo_zero _
  | n + 1, h => by rw [allTo_succ, allTo_all fun j hj => h j (by omega), h n (by omega)]; rfl
theorem strAt_appL {us vs : List ByteArray} {j : Nat} (h : j < us.length) : strAt (us ++ vs) j = strAt us j := by
  simp [strAt, List.getD_eq_getElem?_getD, List.getElem?_append_left h]
theorem strAt_appR {us vs : List ByteArray} {j : Nat} (h : us.length ≤ j) : strAt (us ++ vs) j = strAt vs (j - us.length) := by
  simp [strAt, List.getD_eq_getElem?_getD, List.getElem?_append_right h]
/-- The lexicon of all words of two valid lexicons is the one that the model merges. -/
theorem merge_is {us vs : List ByteArray} (h : okL us = true) (h2 : okL vs = true) : makeOut (us ++ vs) = mergeOut us vs := by
  have hl : allTo (longAt (us ++ vs)) (us ++ vs).length = true := allTo_all fun j hj => by
    unfold longAt
    rw [List.length_append] at hj
    rcases Nat.lt_or_ge j us.length with h3 | h3
    · rw [strAt_appL h3]; exact okL_long h h3
    · rw [strAt_appR h3]; exact okL_long h2 (by omega)
  have he : makeL (us ++ vs) = makeTo us vs vs.length := makeTo_one (okL_rise h) (makeL_rise _) fun x => by rw [makeL_mem, List.mem_append]
  by_cases hb : (makeTo us vs vs.length).length > 200
  · rw [mergeOut_full h h2 hb, makeOut_full hl (by rw [he]; exact hb)]
  · rw [mergeOut_yes h h2 hb, makeOut_yes hl (by rw [he]; exact hb), he]

/-- Two lists laid one behind the other, in a region that draws nothing. -/
theorem concat2p {w : World} {u1 u3 : Value} {xs ys : List ByteArray} (h1 : Strs w u1 xs) (h3 : Strs w u3 ys) (hl : xs.length + ys.length ≤ 2000000) :
    Calls Try.prog 62 #[.slice (some ⟨w.heap.size, 0, none⟩) 2 2] (w.alloc (.cells #[u1, u3] 22)) fun e w' =>
      ∃ a n c, e = .returned (.slice a n c) ∧ OwnS w.heap.size w' (.slice a n c) (xs ++ ys) ∧ Below w.heap.size w w' := by
  have q := Blk.made w 22 #[u1, u3]
  have b2 := (Below.refl w.heap.size w).alloc (Nat.le_refl _) (.cells #[u1, u3] 22)
  refine (concat_any (c := w.heap.size) [xs, ys] (w.alloc (.cells #[u1, u3] 22)) ?_ q.lt (by simp) (by simp; omega) rfl).mono ?_
  · intro k hk
    match k, hk with
    | 0, _ => exact ⟨u1, q.cells 0, h1.below b2⟩
    | 1, _ => exact ⟨u3, q.cells 1, h3.below b2⟩
  · rintro e w' ⟨v, rfl, ho, hb⟩
    have e2 : [xs, ys].flatten = xs ++ ys := by simp
    rw [e2] at ho
    obtain ⟨a, c, rfl, -, -, -⟩ := own_form ho
    exact ⟨a, _, c, rfl, OwnS.lower ho b2.size, b2.trans (hb.mono b2.size)⟩

set_option maxHeartbeats 1000000 in
theorem l05Merge_any {u v : Value} {us vs : List ByteArray} (w : World) (hu : Strs w u us) (hv : Strs w v vs) (hr : Rise us) (hn : us.length ≤ 200) (hn2 : vs.length ≤ 200) :
    Calls Try.prog 73 #[u, v] w fun e w' => ∃ v', e = .returned v' ∧ OwnS w.heap.size w' v' (makeTo us vs vs.length) ∧ Below w.heap.size w w' := by
  have HU := Shh.mk hu
  obtain ⟨ua, uc, rfl, -⟩ := hu
  obtain ⟨a, cap, rfl, hl1, hm, hc⟩ := hv
  have HC := Shh.mk hc
  have HRI := Shh.mk (makeTo_rise hr vs)
  have HLN := Shh.mk (makeTo_len us vs)
  have HZ := Shh.mk (makeTo_zero us vs)
  clear hc
  go_enter Try.func73, Try.ntmps73
  go_wp2_with (at_builtin; refine wpList_append_strs rfl _ _ rfl rfl rfl (show OwnS w.heap.size _ _ [] from World.ownsRow_lit _ _ 0 (Nat.le_refl _) (by unfold maxLen; omega) rfl) (HU.out.alloc _) (by simp; omega) (by simp) ?_)
  intro v1 w1 ho1 hg1
  have HB1 := Shh.mk (((Below.refl w.heap.size w).alloc (Nat.le_refl _) (.cells #[] 9)).grown hg1 (by simp) (own_litE (Nat.le_refl _)))
  have HO1 := Shh.mk (show OwnS w.heap.size w1 v1 (makeTo us vs 0) from ho1)
  clear ho1 hg1
  go_wp2
  go_loopw [5, 6] (fun x i wr => ∃ k : Nat, k ≤ vs.length ∧ i = .int .i64 k ∧ OwnS w.heap.size wr x (makeTo us vs k) ∧ Below w.heap.size w wr) (fun _ i _ => vs.length - (intOf i).toNat)
  case atStart => exact ⟨0, Nat.zero_le _, rfl, HO1.out, HB1.out⟩
  case round =>
    obtain ⟨k, hk, rfl, ho, hb⟩ := hrel
    have HO := Shh.mk ho
    have HB := Shh.mk hb
    clear ho
    by_cases hlt : k < vs.length
    · obtain ⟨b, off, rfl, hbl, hcc⟩ := HC.out (by omega)
      have ck := (hb.cell (p := ⟨b, off + k, none⟩) hbl).trans (hcc k hlt)
      have HE := Shh.mk (makeTo_succ us vs k hlt)
      obtain ⟨y, hy⟩ : ∃ y, strAt vs k = y := ⟨_, rfl⟩
      rw [hy] at ck HE
      clear hcc hb hy
      go_wp2_with fail
      refine (insert_own y HO.out (HRI.out k hk) (by have := HLN.out k hk; omega) HB.out.size).mono ?_
      rintro e w2 ⟨v2, rfl, ho2, hb2⟩
      have HB2 := Shh.mk (HB.out.trans (hb2.mono HB.out.size))
      rw [← HE.out] at ho2
      have HO2 := Shh.mk ho2
      clear ho2 hb2
      go_wp2
      go_roundw
      case rel => exact ⟨k + 1, by omega, by go_num, HO2.out, HB2.out⟩
      case measure => simp [intOf]; omega
    · obtain rfl : k = vs.length := by omega
      go_wp2
      go_ret
      exact ⟨_, rfl, HO.out, HB.out⟩

set_option maxRecDepth 100000 in
set_option maxHeartbeats 2000000 in
theorem specMergeLexicons_any {u v : Value} {us vs : List ByteArray} (W : World) (hu : Strs W u us) (hv : Strs W v vs) (hz : ∀ s ∈ us, s.size ≤ maxLen) (hy : ∀ s ∈ vs, s.size ≤ maxLen) :
    Calls Try.prog 43 #[.agg #[u], .agg #[v]] W fun e w' => ∃ a n c, e = .returned (.tuple #[.agg #[.slice a n c], .int .i64 (mergeOut us vs).2]) ∧ OwnS W.heap.size w' (.slice a n c) (mergeOut us vs).1 ∧ Below W.heap.size W w' := by
  have ha := ((LexAt.made hu).alloc (.cells #[v] 27)).alloc (.cells #[.slice none 0 0] 27)
  have hb := (LexAt.made (hv.alloc (.cells #[u] 27))).alloc (.cells #[.slice none 0 0] 27)
  have hr := Blk.made ((W.alloc (.cells #[u] 27)).alloc (.cells #[v] 27)) 27 #[.slice none 0 0]
  rw [World.size_alloc] at hb
  rw [World.size_alloc, World.size_alloc] at hr
  have hB := (((Below.refl W.heap.size W).alloc (Nat.le_refl _) (.cells #[u] 27)).alloc (by simp) (.cells #[v] 27)).alloc (by simp; omega) (.cells #[.slice none 0 0] 27)
  have HA := Shh.mk ha
  have HC := Shh.mk hb
  have HR := Shh.mk hr
  have HB := Shh.mk hB
  have c0 := ha.blk.cells
  have c1 := hb.blk.cells
  obtain ⟨aa, ac, rfl, -⟩ := hu
  obtain ⟨ba, bc, rfl, -⟩ := hv
  clear ha hb hr hB
  cases hoa : okL us
  · have HO := Shh.mk (mergeOut_a (vs := vs) hoa)
    have HOA := Shh.mk hoa
    clear hoa
    go_enter Try.func43, Try.ntmps43
    go_wp2_with fail
    refine (ok_is HOA.out _ HA.out hz).mono ?_
    rintro e w1 ⟨rfl, k, hw⟩
    have HA1 := Shh.mk (show LexAt w1 W.heap.size _ us by rw [hw]; exact HA.out.drewN k)
    have HC1 := Shh.mk (show LexAt w1 (W.heap.size + 1) _ vs by rw [hw]; exact HC.out.drewN k)
    have HR1 := Shh.mk (show Blk w1 (W.heap.size + 1 + 1) 27 #[.slice none 0 0] by rw [hw]; exact HR.out.drewN k)
    have HB1 := Shh.mk (show Below W.heap.size W w1 by rw [hw]; exact below_drewN HB.out k)
    clear c0 c1 hw
    have c0 := HA1.out.blk.cells
    have c1 := HC1.out.blk.cells
    have c2 := HR1.out.cells
    have m2 := HR1.out.marks
    go_wp2
    refine bodyPost_ret (v := .tuple #[.agg #[.slice none 0 0], .int .i64 1]) (by simp [results, Try.results43, go_sem, c2]) rfl ?_
    rw [HO.out]
    exact ⟨_, _, _, rfl, OwnS.void _ _, HB1.out.setCell (by simp; omega) _⟩
  · have HOA := Shh.mk hoa
    cases hoc : okL vs
    · have HO := Shh.mk (mergeOut_b hoa hoc)
      have HOC := Shh.mk hoc
      clear hoa hoc
      go_enter Try.func43, Try.ntmps43
      go_wp2_with fail
      refine (ok_is HOA.out _ HA.out hz).mono ?_
      rintro e w1 ⟨rfl, k, hw⟩
      have HA1 := Shh.mk (show LexAt w1 W.heap.size _ us by rw [hw]; exact HA.out.drewN k)
      have HC1 := Shh.mk (show LexAt w1 (W.heap.size + 1) _ vs by rw [hw]; exact HC.out.drewN k)
      have HR1 := Shh.mk (show Blk w1 (W.heap.size + 1 + 1) 27 #[.slice none 0 0] by rw [hw]; exact HR.out.drewN k)
      have HB1 := Shh.mk (show Below W.heap.size W w1 by rw [hw]; exact below_drewN HB.out k)
      clear c0 c1 hw
      have c0 := HA1.out.blk.cells
      have c1 := HC1.out.blk.cells
      go_wp2_with fail
      refine (ok_is HOC.out _ HC1.out hy).mono ?_
      rintro e w2 ⟨rfl, k, hw⟩
      have HA2 := Shh.mk (show LexAt w2 W.heap.size _ us by rw [hw]; exact HA1.out.drewN k)
      have HC2 := Shh.mk (show LexAt w2 (W.heap.size + 1) _ vs by rw [hw]; exact HC1.out.drewN k)
      have HR2 := Shh.mk (show Blk w2 (W.heap.size + 1 + 1) 27 #[.slice none 0 0] by rw [hw]; exact HR1.out.drewN k)
      have HB2 := Shh.mk (show Below W.heap.size W w2 by rw [hw]; exact below_drewN HB1.out k)
      clear c0 c1 hw
      have c0 := HA2.out.blk.cells
      have c1 := HC2.out.blk.cells
      have c2 := HR2.out.cells
      have m2 := HR2.out.marks
      go_wp2
      refine bodyPost_ret (v := .tuple #[.agg #[.slice none 0 0], .int .i64 1]) (by simp [results, Try.results43, go_sem, c2]) rfl ?_
      rw [HO.out]
      exact ⟨_, _, _, rfl, OwnS.void _ _, HB2.out.setCell (by simp; omega) _⟩
    · have HOC := Shh.mk hoc
      have hn := okL_size hoa
      have hn2 := okL_size hoc
      have HRI := Shh.mk (okL_rise hoa)
      have HF := Shh.mk (mergeOut_full hoa hoc)
      have HY := Shh.mk (mergeOut_yes hoa hoc)
      clear hoa hoc
      go_enter Try.func43, Try.ntmps43
      go_wp2_with fail
      refine (ok_is HOA.out _ HA.out hz).mono ?_
      rintro e w1 ⟨rfl, k, hw⟩
      have HA1 := Shh.mk (show LexAt w1 W.heap.size _ us by rw [hw]; exact HA.out.drewN k)
      have HC1 := Shh.mk (show LexAt w1 (W.heap.size + 1) _ vs by rw [hw]; exact HC.out.drewN k)
      have HR1 := Shh.mk (show Blk w1 (W.heap.size + 1 + 1) 27 #[.slice none 0 0] by rw [hw]; exact HR.out.drewN k)
      have HB1 := Shh.mk (show Below W.heap.size W w1 by rw [hw]; exact below_drewN HB.out k)
      clear c0 c1 hw
      have c0 := HA1.out.blk.cells
      have c1 := HC1.out.blk.cells
      go_wp2_with fail
      refine (ok_is HOC.out _ HC1.out hy).mono ?_
      rintro e w2 ⟨rfl, k, hw⟩
      have HA2 := Shh.mk (show LexAt w2 W.heap.size _ us by rw [hw]; exact HA1.out.drewN k)
      have HC2 := Shh.mk (show LexAt w2 (W.heap.size + 1) _ vs by rw [hw]; exact HC1.out.drewN k)
      have HR2 := Shh.mk (show Blk w2 (W.heap.size + 1 + 1) 27 #[.slice none 0 0] by rw [hw]; exact HR1.out.drewN k)
      have HB2 := Shh.mk (show Below W.heap.size W w2 by rw [hw]; exact below_drewN HB1.out k)
      clear c0 c1 hw
      have c0 := HA2.out.blk.cells
      have c1 := HC2.out.blk.cells
      go_wp2_with fail
      refine (l05Merge_any _ HA2.out.strs HC2.out.strs HRI.out hn hn2).mono ?_
      rintro e w3 ⟨v3, rfl, ho, hb⟩
      obtain ⟨a3, c3, rfl, -, -, -⟩ := own_form ho
      have HR3 := Shh.mk (HR2.out.kept hb HR2.out.lt)
      have HB3 := Shh.mk (HB2.out.trans (hb.mono HB2.out.size))
      have HO3 := Shh.mk ho
      have HLT := Shh.mk HR2.out.lt
      clear c0 c1 ho hb
      obtain ⟨n, hnn⟩ : ∃ n, (makeTo us vs vs.length).length = n := ⟨_, rfl⟩
      rw [hnn] at HF HY HO3
      rw [hnn]
      by_cases hbig : n > 200
      · have HO := Shh.mk (HF.out hbig)
        have hbi : (200 : Int) < (n : Int) := by omega
        clear HF HY hnn
        have c2 := HR3.out.cells
        have m2 := HR3.out.marks
        go_wp2
        refine bodyPost_ret (v := .tuple #[.agg #[.slice none 0 0], .int .i64 5]) (by simp [results, Try.results43, go_sem, c2]) rfl ?_
        rw [HO.out]
        exact ⟨_, _, _, rfl, OwnS.void _ _, HB3.out.setCell (by simp; omega) _⟩
      · have HO := Shh.mk (HY.out hbig)
        have hbi : ¬ (200 : Int) < (n : Int) := by omega
        clear HF HY hnn
        have c2 := HR3.out.cells
        have m2 := HR3.out.marks
        go_wp2
        refine bodyPost_ret (v := .tuple #[.agg #[.slice a3 n c3], .int .i64 0]) (by simp [results, Try.results43, go_sem, c2]) rfl ?_
        rw [HO.out]
        exact ⟨_, _, _, rfl, OwnS.lower (HO3.out.off (g := W.heap.size + 1 + 1) HLT.out 0 _) HB2.out.size, HB3.out.setCell (by simp; omega) _⟩

set_option maxRecDepth 100000 in
set_option maxHeartbeats 2000000 in
theorem implMergeLexicons_any {u v : Value} {us vs : List ByteArray} (W : World) (hu : Strs W u us) (hv : Strs W v vs) (hz : ∀ s ∈ us, s.size ≤ maxLen) (hy : ∀ s ∈ vs, s.size ≤ maxLen) :
    Calls Try.prog 44 #[.agg #[u], .agg #[v]] W fun e w' => ∃ a n c, e = .returned (.tuple #[.agg #[.slice a n c], .int .i64 (mergeOut us vs).2]) ∧ OwnS W.heap.size w' (.slice a n c) (mergeOut us vs).1 ∧ Below W.heap.size W w' := by
  have ha := ((LexAt.made hu).alloc (.cells #[v] 27)).alloc (.cells #[.slice none 0 0] 27)
  have hb := (LexAt.made (hv.alloc (.cells #[u] 27))).alloc (.cells #[.slice none 0 0] 27)
  have hr := Blk.made ((W.alloc (.cells #[u] 27)).alloc (.cells #[v] 27)) 27 #[.slice none 0 0]
  rw [World.size_alloc] at hb
  rw [World.size_alloc, World.size_alloc] at hr
  have hB := (((Below.refl W.heap.size W).alloc (Nat.le_refl _) (.cells #[u] 27)).alloc (by simp) (.cells #[v] 27)).alloc (by simp; omega) (.cells #[.slice none 0 0] 27)
  have HA := Shh.mk ha
  have HC := Shh.mk hb
  have HR := Shh.mk hr
  have HB := Shh.mk hB
  have c0 := ha.blk.cells
  have c1 := hb.blk.cells
  obtain ⟨aa, ac, rfl, -⟩ := hu
  obtain ⟨ba, bc, rfl, -⟩ := hv
  clear ha hb hr hB
  cases hoa : okL us
  · have HO := Shh.mk (mergeOut_a (vs := vs) hoa)
    have HOA := Shh.mk hoa
    clear hoa
    go_enter Try.func44, Try.ntmps44
    go_wp2_with fail
    refine (valid_on HOA.out _ HA.out.strs hz).mono ?_
    rintro e w1 ⟨rfl, hb⟩
    have HA1 := Shh.mk (HA.out.below hb)
    have HC1 := Shh.mk (HC.out.below hb)
    have HR1 := Shh.mk (HR.out.kept hb HR.out.lt)
    have HB1 := Shh.mk (HB.out.trans (hb.mono HB.out.size))
    clear c0 c1 hb
    have c0 := HA1.out.blk.cells
    have c1 := HC1.out.blk.cells
    have c2 := HR1.out.cells
    have m2 := HR1.out.marks
    go_wp2
    refine bodyPost_ret (v := .tuple #[.agg #[.slice none 0 0], .int .i64 1]) (by simp [results, Try.results44, go_sem, c2]) rfl ?_
    rw [HO.out]
    exact ⟨_, _, _, rfl, OwnS.void _ _, HB1.out.setCell (by simp; omega) _⟩
  · have HOA := Shh.mk hoa
    cases hoc : okL vs
    · have HO := Shh.mk (mergeOut_b hoa hoc)
      have HOC := Shh.mk hoc
      clear hoa hoc
      go_enter Try.func44, Try.ntmps44
      go_wp2_with fail
      refine (valid_on HOA.out _ HA.out.strs hz).mono ?_
      rintro e w1 ⟨rfl, hb⟩
      have HA1 := Shh.mk (HA.out.below hb)
      have HC1 := Shh.mk (HC.out.below hb)
      have HR1 := Shh.mk (HR.out.kept hb HR.out.lt)
      have HB1 := Shh.mk (HB.out.trans (hb.mono HB.out.size))
      clear c0 c1 hb
      have c0 := HA1.out.blk.cells
      have c1 := HC1.out.blk.cells
      go_wp2_with fail
      refine (valid_on HOC.out _ HC1.out.strs hy).mono ?_
      rintro e w2 ⟨rfl, hb⟩
      have HA2 := Shh.mk (HA1.out.below hb)
      have HC2 := Shh.mk (HC1.out.below hb)
      have HR2 := Shh.mk (HR1.out.kept hb HR1.out.lt)
      have HB2 := Shh.mk (HB1.out.trans (hb.mono HB1.out.size))
      clear c0 c1 hb
      have c0 := HA2.out.blk.cells
      have c1 := HC2.out.blk.cells
      have c2 := HR2.out.cells
      have m2 := HR2.out.marks
      go_wp2
      refine bodyPost_ret (v := .tuple #[.agg #[.slice none 0 0], .int .i64 1]) (by simp [results, Try.results44, go_sem, c2]) rfl ?_
      rw [HO.out]
      exact ⟨_, _, _, rfl, OwnS.void _ _, HB2.out.setCell (by simp; omega) _⟩
    · have HOC := Shh.mk hoc
      have hn := okL_size hoa
      have hn2 := okL_size hoc
      obtain ⟨t, ht⟩ : ∃ t, mergeOut us vs = t := ⟨_, rfl⟩
      obtain ⟨os, cd⟩ := t
      have HM := Shh.mk ((merge_is hoa hoc).trans ht)
      rw [ht]
      clear hoa hoc ht
      go_enter Try.func44, Try.ntmps44
      go_wp2_with fail
      refine (valid_on HOA.out _ HA.out.strs hz).mono ?_
      rintro e w1 ⟨rfl, hb⟩
      have HA1 := Shh.mk (HA.out.below hb)
      have HC1 := Shh.mk (HC.out.below hb)
      have HR1 := Shh.mk (HR.out.kept hb HR.out.lt)
      have HB1 := Shh.mk (HB.out.trans (hb.mono HB.out.size))
      clear c0 c1 hb
      have c0 := HA1.out.blk.cells
      have c1 := HC1.out.blk.cells
      go_wp2_with fail
      refine (valid_on HOC.out _ HC1.out.strs hy).mono ?_
      rintro e w2 ⟨rfl, hb⟩
      have HA2 := Shh.mk (HA1.out.below hb)
      have HC2 := Shh.mk (HC1.out.below hb)
      have HR2 := Shh.mk (HR1.out.kept hb HR1.out.lt)
      have HB2 := Shh.mk (HB1.out.trans (hb.mono HB1.out.size))
      clear c0 c1 hb
      have c0 := HA2.out.blk.cells
      have c1 := HC2.out.blk.cells
      go_wp2_with fail
      refine (concat2p HA2.out.strs HC2.out.strs (by omega)).mono ?_
      rintro e w3 ⟨a3, n3, c3, rfl, ho, hb⟩
      have HR3 := Shh.mk (HR2.out.kept hb HR2.out.lt)
      have HB3 := Shh.mk (HB2.out.trans (hb.mono HB2.out.size))
      have HO3 := Shh.mk ho
      have HLT := Shh.mk HR2.out.lt
      have HSZ := Shh.mk HB2.out.size
      clear c0 c1 ho hb
      go_wp2_with fail
      refine (implMakeLexicon_any _ HO3.out.strs (fun s hs => (List.mem_append.1 hs).elim (hz s) (hy s)) (by rw [List.length_append]; omega)).mono ?_
      rw [HM.out]
      rintro e w4 ⟨v4, rfl, ho, hb⟩
      unfold retL
      have ho : OwnS w3.heap.size w4 v4 os := ho
      obtain ⟨a4, c4, rfl, -, -, -⟩ := own_form ho
      have HR4 := Shh.mk (HR3.out.kept hb HR3.out.lt)
      have HB4 := Shh.mk (HB3.out.trans (hb.mono HB3.out.size))
      have HO4 := Shh.mk ho
      have HLT4 := Shh.mk HR3.out.lt
      have HSZ4 := Shh.mk HB3.out.size
      clear ho hb
      have c2 := HR4.out.cells
      have m2 := HR4.out.marks
      go_wp2
      refine bodyPost_ret (v := .tuple #[.agg #[.slice a4 os.length c4], .int .i64 cd]) (by simp [results, Try.results44, go_sem, c2]) rfl ?_
      have hq := HO4.out.off (g := W.heap.size + 1 + 1) HLT4.out 0 (.slice a4 os.length c4)
      exact ⟨a4, os.length, c4, rfl, OwnS.lower hq HSZ4.out, HB4.out.setCell (by simp; omega) _⟩
end Go.Proofs.Ytomofgebobabnaa
