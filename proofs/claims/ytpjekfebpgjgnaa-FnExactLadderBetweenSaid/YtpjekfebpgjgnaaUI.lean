/-
  The words of a lexicon that match a pattern, or are near a word: the program's functions.
-/
import Derived.Test.YtpjekfebpgjgnaaUH
import Derived.Test.YtpjekfebpgjgnaaUG
import Derived.Test.YtpjekfebpgjgnaaUD
namespace Go.Proofs.Ytpjekfebpgjgnaa
open Go.RowKit Go.Lib

theorem Tells.below {K : FuncId} {g : Nat} {w w' : World} {us : List ByteArray} {q : ByteArray → Bool} (h : Tells K g w us q) (hb : Below w.heap.size w w') : Tells K g w' us q :=
  fun k hk wr hr => h k hk wr (hb.trans (hr.mono hb.size))
theorem word_small {us : List ByteArray} (h : okL us = true) {k : Nat} (hk : k < us.length) : allSmall (strAt us k).data.toList = true := isWordB_small (long_word (long_small h hk).1)
set_option maxRecDepth 100000 in
set_option maxHeartbeats 2000000 in
theorem wordsNear_any {v : Value} {us : List ByteArray} {q : ByteArray → Bool} {K : FuncId} {g : Nat} (s : ByteArray) (w : World) (hu : Strs w v us) (hz : ∀ s ∈ us, s.size ≤ maxLen) (hs : s.size ≤ 1048576)
    (hK : ∀ args w, (callFunc K args).run Try.prog w = .ok (.enter K args) w) (hq : codeW us s = 0 → Tells K g w us q) :
    Calls Try.prog 84 #[.agg #[v], .string s, .func (.func K) #[] #[.pointer (some ⟨g, 0, none⟩)]] w fun e w' => ∃ v0, e = retS v0 (wantOut q us (codeW us s)).2 ∧ OwnS w.heap.size w' v0 (wantOut q us (codeW us s)).1 ∧ Below w.heap.size w w' := by
  have HG := ShE.mk (LexAt.made hu)
  have HB := ShE.mk ((Below.refl w.heap.size w).alloc (Nat.le_refl _) (.cells #[v] 26))
  have c0 := HG.out.blk.cells
  have HK := ShE.mk hK
  have hK' := hK
  obtain ⟨c, hcw⟩ : ∃ c, codeW us s = c := ⟨_, rfl⟩
  have HCW := ShE.mk hcw
  by_cases hc0 : c = 0
  · subst hc0
    obtain ⟨hok, hwd⟩ := codeW_ok hcw
    have HA := ShE.mk (show wantOut q us (codeW us s) = (pickTo q us us.length, 0) by rw [hcw]; exact wantOut_yes)
    have HT := ShE.mk (hq hcw)
    have hn := okL_size hok
    clear hok hwd hcw hq
    go_enter Try.func84, Try.ntmps84
    go_wp2_with fail
    refine (check_is HCW.out _ HG.out.strs hz hs).mono ?_
    rintro e w1 ⟨rfl, hb1⟩
    have HG1 := ShE.mk (HG.out.belowG hb1)
    have HB1 := ShE.mk (HB.out.trans (hb1.mono HB.out.size))
    have c1 := HG1.out.blk.cells
    clear c0 hb1
    go_wp2_with fail
    refine (wordsWith_any _ HG1.out.strs hn HK.out (HT.out.below HB1.out)).mono ?_
    rintro e w2 ⟨v0, rfl, ho, hb2⟩
    have HO3 := ShE.mk (OwnS.lower ho HB1.out.size)
    obtain ⟨a5, c5, rfl, -, -, -⟩ := own_form ho
    clear ho
    go_wp2
    go_ret2
    rw [HA.out]
    exact ⟨_, rfl, HO3.out, HB1.out.trans (hb2.mono HB1.out.size)⟩
  · have HA := ShE.mk (show wantOut q us (codeW us s) = ([], c) by rw [hcw]; exact wantOut_bad hc0)
    have hcb : (c != 0) = true := bne_iff_ne.2 hc0
    clear hcw hc0 hq
    go_enter Try.func84, Try.ntmps84
    go_wp2_with fail
    refine (check_is HCW.out _ HG.out.strs hz hs).mono ?_
    rintro e w1 ⟨rfl, hb1⟩
    go_wp2
    go_ret2
    rw [HA.out]
    exact ⟨_, rfl, OwnS.voidG _ _, HB.out.trans (hb1.mono HB.out.size)⟩
theorem DropsOf_tells {g : Nat} {s : ByteArray} {us : List ByteArray} (W : World) (hg : Blk W g 9 #[.string s]) (hok : okL us = true) (hs : s.size ≤ 1048576) (hal : allSmall s.data.toList = true) : Tells 87 g W us (fun x => lessS x s) := by
  intro k hk wr hb
  have c0 := (hg.kept hb hg.lt).cells
  have HS := ShE.mk (long_all hok k hk)
  have HA := ShE.mk (word_small hok hk)
  obtain ⟨y, hy⟩ : ∃ y, strAt us k = y := ⟨_, rfl⟩
  rw [hy] at HS HA ⊢
  go_enter Try.func87, Try.ntmps87
  go_wp2_with fail
  refine (isDrop_any s y _ hs hal).mono ?_
  rintro e w' ⟨rfl, hb'⟩
  go_wp2
  go_ret
  exact ⟨rfl, hb'⟩
theorem DropsOf_enters : ∀ args w, (callFunc 87 args).run Try.prog w = .ok (.enter 87 args) w := enters_of Try.func87 (by kernel_rfl) rfl
theorem InsertsOf_tells {g : Nat} {s : ByteArray} {us : List ByteArray} (W : World) (hg : Blk W g 9 #[.string s]) (hok : okL us = true) (_hs : s.size ≤ 1048576) : Tells 85 g W us (fun x => lessS s x) := by
  intro k hk wr hb
  have c0 := (hg.kept hb hg.lt).cells
  have HS := ShE.mk (long_all hok k hk)
  have HA := ShE.mk (word_small hok hk)
  obtain ⟨y, hy⟩ : ∃ y, strAt us k = y := ⟨_, rfl⟩
  rw [hy] at HS HA ⊢
  go_enter Try.func85, Try.ntmps85
  go_wp2_with fail
  refine (isDrop_any y s _ HS.out HA.out).mono ?_
  rintro e w' ⟨rfl, hb'⟩
  go_wp2
  go_ret
  exact ⟨rfl, hb'⟩
theorem InsertsOf_enters : ∀ args w, (callFunc 85 args).run Try.prog w = .ok (.enter 85 args) w := enters_of Try.func85 (by kernel_rfl) rfl
theorem ChangesOf_tells {g : Nat} {s : ByteArray} {us : List ByteArray} (W : World) (hg : Blk W g 9 #[.string s]) (hok : okL us = true) (hs : s.size ≤ 1048576) (hal : allSmall s.data.toList = true) : Tells 111 g W us (fun x => nearS s x) := by
  intro k hk wr hb
  have c0 := (hg.kept hb hg.lt).cells
  have HS := ShE.mk (long_all hok k hk)
  have HA := ShE.mk (word_small hok hk)
  obtain ⟨y, hy⟩ : ∃ y, strAt us k = y := ⟨_, rfl⟩
  rw [hy] at HS HA ⊢
  go_enter Try.func111, Try.ntmps111
  go_wp2_with fail
  refine (isChange_any s y _ hs hal).mono ?_
  rintro e w' ⟨rfl, hb'⟩
  go_wp2
  go_ret
  exact ⟨rfl, hb'⟩
theorem ChangesOf_enters : ∀ args w, (callFunc 111 args).run Try.prog w = .ok (.enter 111 args) w := enters_of Try.func111 (by kernel_rfl) rfl
theorem WordsMatching_tells {g : Nat} {s : ByteArray} {us : List ByteArray} (W : World) (hg : Blk W g 9 #[.string s]) (hok : okL us = true) (hs : s.size ≤ 1048576) : Tells 67 g W us (fitsP s) := by
  intro k hk wr hb
  have c0 := (hg.kept hb hg.lt).cells
  have HS := ShE.mk (long_all hok k hk)
  have HA := ShE.mk (word_small hok hk)
  obtain ⟨y, hy⟩ : ∃ y, strAt us k = y := ⟨_, rfl⟩
  rw [hy] at HS HA ⊢
  go_enter Try.func67, Try.ntmps67
  go_wp2_with fail
  refine (matches_any _ s y _ (Nat.le_refl _) hs HS.out HA.out).mono ?_
  rintro e w' ⟨rfl, hb'⟩
  go_wp2
  go_ret
  exact ⟨rfl, hb'⟩
theorem WordsMatching_enters : ∀ args w, (callFunc 67 args).run Try.prog w = .ok (.enter 67 args) w := enters_of Try.func67 (by kernel_rfl) rfl
set_option maxRecDepth 100000 in
set_option maxHeartbeats 2000000 in
theorem implDropsOf_any {v : Value} {us : List ByteArray} (s : ByteArray) (W : World) (hu : Strs W v us) (hz : ∀ s ∈ us, s.size ≤ maxLen) (hs : s.size ≤ 1048576) :
    Calls Try.prog 35 #[.agg #[v], .string s] W fun e w' => ∃ v0, e = retS v0 (wantOut (fun x => lessS x s) us (codeW us s)).2 ∧ OwnS W.heap.size w' v0 (wantOut (fun x => lessS x s) us (codeW us s)).1 ∧ Below W.heap.size W w' := by
  have HG := ShE.mk ((LexAt.made hu).belowG ((Below.refl _ _).alloc (Nat.le_refl _) (.cells #[.string s] 9)))
  have hg := Blk.made (W.alloc (.cells #[v] 26)) 9 #[.string s]
  rw [World.size_alloc] at hg
  have HS := ShE.mk hg
  have HB := ShE.mk (((Below.refl W.heap.size W).alloc (Nat.le_refl _) (.cells #[v] 26)).alloc (by simp) (.cells #[.string s] 9))
  have c0 := HG.out.blk.cells
  have c1 := HS.out.cells
  clear hg
  go_enter Try.func35, Try.ntmps35
  go_wp2_with fail
  refine (wordsNear_any s _ HG.out.strs hz hs DropsOf_enters (fun h => DropsOf_tells _ HS.out (codeW_ok h).1 hs (isWordB_small (codeW_ok h).2))).mono ?_
  rintro e w1 ⟨v0, rfl, ho, hb1⟩
  have HO := ShE.mk (OwnS.lower ho HB.out.size)
  obtain ⟨a5, c5, rfl, -, -, -⟩ := own_form ho
  clear ho
  unfold retS
  go_wp2
  go_ret2
  exact ⟨_, rfl, HO.out, HB.out.trans (hb1.mono HB.out.size)⟩
set_option maxRecDepth 100000 in
set_option maxHeartbeats 2000000 in
theorem implInsertsOf_any {v : Value} {us : List ByteArray} (s : ByteArray) (W : World) (hu : Strs W v us) (hz : ∀ s ∈ us, s.size ≤ maxLen) (hs : s.size ≤ 1048576) :
    Calls Try.prog 34 #[.agg #[v], .string s] W fun e w' => ∃ v0, e = retS v0 (wantOut (fun x => lessS s x) us (codeW us s)).2 ∧ OwnS W.heap.size w' v0 (wantOut (fun x => lessS s x) us (codeW us s)).1 ∧ Below W.heap.size W w' := by
  have HG := ShE.mk ((LexAt.made hu).belowG ((Below.refl _ _).alloc (Nat.le_refl _) (.cells #[.string s] 9)))
  have hg := Blk.made (W.alloc (.cells #[v] 26)) 9 #[.string s]
  rw [World.size_alloc] at hg
  have HS := ShE.mk hg
  have HB := ShE.mk (((Below.refl W.heap.size W).alloc (Nat.le_refl _) (.cells #[v] 26)).alloc (by simp) (.cells #[.string s] 9))
  have c0 := HG.out.blk.cells
  have c1 := HS.out.cells
  clear hg
  go_enter Try.func34, Try.ntmps34
  go_wp2_with fail
  refine (wordsNear_any s _ HG.out.strs hz hs InsertsOf_enters (fun h => InsertsOf_tells _ HS.out (codeW_ok h).1 hs)).mono ?_
  rintro e w1 ⟨v0, rfl, ho, hb1⟩
  have HO := ShE.mk (OwnS.lower ho HB.out.size)
  obtain ⟨a5, c5, rfl, -, -, -⟩ := own_form ho
  clear ho
  unfold retS
  go_wp2
  go_ret2
  exact ⟨_, rfl, HO.out, HB.out.trans (hb1.mono HB.out.size)⟩
set_option maxRecDepth 100000 in
set_option maxHeartbeats 2000000 in
theorem implChangesOf_any {v : Value} {us : List ByteArray} (s : ByteArray) (W : World) (hu : Strs W v us) (hz : ∀ s ∈ us, s.size ≤ maxLen) (hs : s.size ≤ 1048576) :
    Calls Try.prog 47 #[.agg #[v], .string s] W fun e w' => ∃ v0, e = retS v0 (wantOut (fun x => nearS x s) us (codeW us s)).2 ∧ OwnS W.heap.size w' v0 (wantOut (fun x => nearS x s) us (codeW us s)).1 ∧ Below W.heap.size W w' := by
  have HG := ShE.mk ((LexAt.made hu).belowG ((Below.refl _ _).alloc (Nat.le_refl _) (.cells #[.string s] 9)))
  have hg := Blk.made (W.alloc (.cells #[v] 26)) 9 #[.string s]
  rw [World.size_alloc] at hg
  have HS := ShE.mk hg
  have HB := ShE.mk (((Below.refl W.heap.size W).alloc (Nat.le_refl _) (.cells #[v] 26)).alloc (by simp) (.cells #[.string s] 9))
  have c0 := HG.out.blk.cells
  have c1 := HS.out.cells
  clear hg
  rw [show (fun x => nearS x s) = fun x => nearS s x from funext fun x => nearS_comm x s]
  go_enter Try.func47, Try.ntmps47
  go_wp2_with fail
  refine (wordsNear_any s _ HG.out.strs hz hs ChangesOf_enters (fun h => ChangesOf_tells _ HS.out (codeW_ok h).1 hs (isWordB_small (codeW_ok h).2))).mono ?_
  rintro e w1 ⟨v0, rfl, ho, hb1⟩
  have HO := ShE.mk (OwnS.lower ho HB.out.size)
  obtain ⟨a5, c5, rfl, -, -, -⟩ := own_form ho
  clear ho
  unfold retS
  go_wp2
  go_ret2
  exact ⟨_, rfl, HO.out, HB.out.trans (hb1.mono HB.out.size)⟩
set_option maxRecDepth 100000 in
set_option maxHeartbeats 2000000 in
theorem implWordsMatching_any {v : Value} {us : List ByteArray} (s : ByteArray) (W : World) (hu : Strs W v us) (hz : ∀ s ∈ us, s.size ≤ maxLen) (hs : s.size ≤ 1048576) :
    Calls Try.prog 21 #[.agg #[v], .string s] W fun e w' => ∃ v0, e = retS v0 (wantOut (fitsP s) us (codeP us s)).2 ∧ OwnS W.heap.size w' v0 (wantOut (fitsP s) us (codeP us s)).1 ∧ Below W.heap.size W w' := by
  have HG := ShE.mk ((LexAt.made hu).belowG ((Below.refl _ _).alloc (Nat.le_refl _) (.cells #[.string s] 9)))
  have hg := Blk.made (W.alloc (.cells #[v] 26)) 9 #[.string s]
  rw [World.size_alloc] at hg
  have HS := ShE.mk hg
  have HB := ShE.mk (((Below.refl W.heap.size W).alloc (Nat.le_refl _) (.cells #[v] 26)).alloc (by simp) (.cells #[.string s] 9))
  have c0 := HG.out.blk.cells
  have c1 := HS.out.cells
  clear hg
  cases hok : okL us
  · have HA := ShE.mk (show wantOut (fitsP s) us (codeP us s) = ([], 1) from by rw [codeP_bad hok]; exact wantOut_bad (by decide))
    have HO := ShE.mk hok
    clear hok
    go_enter Try.func21, Try.ntmps21
    go_wp2_with fail
    refine (valid_on HO.out _ HG.out.strs hz).mono ?_
    rintro e w1 ⟨rfl, hb1⟩
    go_wp2
    go_ret2
    rw [HA.out]
    exact ⟨_, rfl, OwnS.voidG _ _, HB.out.trans (hb1.mono HB.out.size)⟩
  · have HO := ShE.mk hok
    cases hpl : okP s
    · have HA := ShE.mk (show wantOut (fitsP s) us (codeP us s) = ([], 7) from by rw [codeP_pat hok hpl]; exact wantOut_bad (by decide))
      have HP := ShE.mk hpl
      clear hok hpl
      go_enter Try.func21, Try.ntmps21
      go_wp2_with fail
      refine (valid_on HO.out _ HG.out.strs hz).mono ?_
      rintro e w1 ⟨rfl, hb1⟩
      have HB1 := ShE.mk (HB.out.trans (hb1.mono HB.out.size))
      have c2 := (HS.out.kept hb1 HS.out.lt).cells
      clear c0 c1 hb1
      go_wp2_with fail
      refine (okpI HP.out _ (by unfold maxLen; omega)).mono ?_
      rintro e w2 ⟨rfl, hb2⟩
      go_wp2
      go_ret2
      rw [HA.out]
      exact ⟨_, rfl, OwnS.voidG _ _, HB1.out.trans (hb2.mono HB1.out.size)⟩
    · have HA := ShE.mk (show wantOut (fitsP s) us (codeP us s) = (pickTo (fitsP s) us us.length, 0) from by rw [codeP_yes hok hpl]; exact wantOut_yes)
      have HP := ShE.mk hpl
      have hn := okL_size hok
      clear hok hpl
      go_enter Try.func21, Try.ntmps21
      go_wp2_with fail
      refine (valid_on HO.out _ HG.out.strs hz).mono ?_
      rintro e w1 ⟨rfl, hb1⟩
      have HB1 := ShE.mk (HB.out.trans (hb1.mono HB.out.size))
      have HS1 := ShE.mk (HS.out.kept hb1 HS.out.lt)
      have HG1 := ShE.mk (HG.out.belowG hb1)
      have c2 := HS1.out.cells
      clear c0 c1 hb1
      go_wp2_with fail
      refine (okpI HP.out _ (by unfold maxLen; omega)).mono ?_
      rintro e w2 ⟨rfl, hb2⟩
      have HB2 := ShE.mk (HB1.out.trans (hb2.mono HB1.out.size))
      have HS2 := ShE.mk (HS1.out.kept hb2 HS1.out.lt)
      have HG2 := ShE.mk (HG1.out.belowG hb2)
      have c3 := HG2.out.blk.cells
      clear c2 hb2
      go_wp2_with fail
      refine (wordsWith_any _ HG2.out.strs hn WordsMatching_enters (WordsMatching_tells _ HS2.out HO.out hs)).mono ?_
      rintro e w3 ⟨v0, rfl, ho, hb3⟩
      have HO3 := ShE.mk (OwnS.lower ho HB2.out.size)
      obtain ⟨a5, c5, rfl, -, -, -⟩ := own_form ho
      clear ho
      go_wp2
      go_ret2
      rw [HA.out]
      exact ⟨_, rfl, HO3.out, HB2.out.trans (hb3.mono HB2.out.size)⟩
end Go.Proofs.Ytpjekfebpgjgnaa
