/-
  The program's small functions on affixes; the model's making and undoing.
-/
import Derived.Test.YtpdphimlpeiifaaF4
namespace Go.Proofs.Ytpdphimlpeiifaa
open Go.RowKit

theorem apply_is {g o : Nat} {f : Bool} {n w s a word : ByteArray} {p : ByteArray × Int} (h : applyX f w s a word = p) (W : World) (hg : AffAt W g o f n w s a) (hw : w.size ≤ maxLen) (hs : s.size ≤ maxLen) (ha : a.size ≤ 1000) (hwd : word.size ≤ 1000) :
    Calls Try.prog 54 #[.pointer (some ⟨g, o, none⟩), .string word] W fun e w' => e = .returned (retX p) ∧ ∃ k, w' = W.drewN k := by
  rw [← h]; exact l04Apply_any W hg word hw hs ha hwd
set_option maxHeartbeats 1000000 in
theorem specApplyAffix_any (f : Bool) (n w s a word : ByteArray) (W : World) (hn : n.size ≤ maxLen) (hw : w.size ≤ maxLen) (hs : s.size ≤ maxLen) (ha : a.size ≤ maxLen) (hwd : word.size ≤ maxLen) :
    Calls Try.prog 19 #[.agg #[.string n, .bool f, .string w, .string s, .string a], .string word] W fun e w' => e = .returned (retX (applyOut f n w s a word)) ∧ Below W.heap.size W w' := by
  have HA := Shh.mk (AffAt.made W 25 f n w s a)
  have hB0 := (Below.refl W.heap.size W).alloc (Nat.le_refl _) (.cells #[.string n, .bool f, .string w, .string s, .string a] 25)
  cases h1 : affB n w s a
  · have HR := hid (applyOut_aff (f := f) (word := word) h1)
    have H1 := hid h1
    clear h1
    go_enter Try.func19, Try.ntmps19
    go_wp2_with fail
    refine (affix_is H1.out _ HA.out hn hw hs ha).mono ?_
    rintro e w' ⟨rfl, k, rfl⟩
    go_wp2
    go_ret2
    exact ⟨ret_x HR.out, below_drewN hB0 _⟩
  · cases h2 : longB word
    · have HR := hid (applyOut_long (f := f) h1 h2)
      have H1 := hid h1
      have H2 := hid h2
      clear h1 h2
      go_enter Try.func19, Try.ntmps19
      go_wp2_with fail
      refine (affix_is H1.out _ HA.out hn hw hs ha).mono ?_
      rintro e w' ⟨rfl, k, rfl⟩
      go_wp2_with fail
      refine (long_is H2.out _ hwd).mono ?_
      rintro e w' ⟨rfl, rfl⟩
      go_wp2
      go_ret2
      exact ⟨ret_x HR.out, below_drewN hB0 _⟩
    · have HR := Shh.mk (applyOut_yes (f := f) h1 h2)
      have ha4 := (affB_facts h1).a4
      have hw12 := (longB_size h2).2
      have H1 := hid h1
      have H2 := hid h2
      clear h1 h2
      obtain ⟨p, hp⟩ : ∃ p, applyX f w s a word = p := ⟨_, rfl⟩
      rw [hp] at HR
      have HP := Shh.mk hp
      clear hp
      obtain ⟨r, c⟩ := p
      go_enter Try.func19, Try.ntmps19
      go_wp2_with fail
      refine (affix_is H1.out _ HA.out hn hw hs ha).mono ?_
      rintro e w' ⟨rfl, k, rfl⟩
      go_wp2_with fail
      refine (long_is H2.out _ hwd).mono ?_
      rintro e w' ⟨rfl, rfl⟩
      go_wp2_with fail
      refine (apply_is HP.out _ (HA.out.drewN k) hw hs (by omega) (by omega)).mono ?_
      rintro e w' ⟨rfl, m, rfl⟩
      unfold retX
      go_wp2
      go_ret2
      exact ⟨ret_x HR.out, by first | exact below_drewN hB0 _ | exact below_drewN (below_drewN hB0 _) _⟩

set_option maxRecDepth 100000 in
set_option maxHeartbeats 4000000 in
theorem specUndoAffix_any (f : Bool) (n w s a word : ByteArray) (W : World) (hn : n.size ≤ maxLen) (hw : w.size ≤ maxLen) (hs : s.size ≤ maxLen) (ha : a.size ≤ maxLen) (hwd : word.size ≤ maxLen) :
    Calls Try.prog 17 #[.agg #[.string n, .bool f, .string w, .string s, .string a], .string word] W fun e w' => e = .returned (retX (undoOut f n w s a word)) ∧ Below W.heap.size W w' := by
  have HA := Shh.mk (AffAt.made W 25 f n w s a)
  have hB0 := (Below.refl W.heap.size W).alloc (Nat.le_refl _) (.cells #[.string n, .bool f, .string w, .string s, .string a] 25)
  cases h1 : affB n w s a
  · have HR := hid (undoOut_aff (f := f) (word := word) h1)
    have H1 := hid h1
    clear h1
    go_enter Try.func17, Try.ntmps17
    go_wp2_with fail
    refine (affix_is H1.out _ HA.out hn hw hs ha).mono ?_
    rintro e w' ⟨rfl, k, rfl⟩
    go_wp2
    go_ret2
    exact ⟨ret_x HR.out, below_drewN hB0 _⟩
  · cases h2 : longB word
    · have HR := hid (undoOut_long (f := f) h1 h2)
      have H1 := hid h1
      have H2 := hid h2
      clear h1 h2
      go_enter Try.func17, Try.ntmps17
      go_wp2_with fail
      refine (affix_is H1.out _ HA.out hn hw hs ha).mono ?_
      rintro e w' ⟨rfl, k, rfl⟩
      go_wp2_with fail
      refine (long_is H2.out _ hwd).mono ?_
      rintro e w' ⟨rfl, rfl⟩
      go_wp2
      go_ret2
      exact ⟨ret_x HR.out, below_drewN hB0 _⟩
    · have HR := Shh.mk (undoOut_yes (f := f) h1 h2)
      have ha4 := (affB_facts h1).a4
      have hs4 := (affB_facts h1).s4
      have hw12 := (longB_size h2).2
      have H1 := hid h1
      have H2 := hid h2
      clear h1 h2
      have hwd1 : word.size ≤ maxLen := hwd
      by_cases hle : a.size ≤ word.size
      · obtain ⟨X, hX⟩ : ∃ X, endX f word a.size = X := ⟨_, rfl⟩
        have HX := Shh.mk hX
        have hfs := fitX_short (f := f) hle
        rw [hX] at hfs
        cases hfit : fitX f word a
        · rw [hfit] at hfs
          have HU := Shh.mk (HR.out.trans (undoX_fit hfit))
          have hne := hfs.symm
          clear hX hfs hfit HR
          go_enter Try.func17, Try.ntmps17
          go_wp2_with fail
          refine (affix_is H1.out _ HA.out hn hw hs ha).mono ?_
          rintro e w' ⟨rfl, k, rfl⟩
          go_wp2_with fail
          refine (long_is H2.out _ hwd).mono ?_
          rintro e w' ⟨rfl, rfl⟩
          have hgk := HA.out.drewN k
          have c4 := hgk.c4
          go_wp2_with fail
          refine (l04End_yes _ hgk word a.size hle hwd HX.out).mono ?_
          rintro e w' ⟨rfl, rfl⟩
          go_wp2
          go_ret2
          exact ⟨ret_x HU.out, below_drewN hB0 _⟩
        · rw [hfit] at hfs
          have hne := hfs.symm
          have hrs := restX_size f word hle
          have hjs := joinX_size f (restX f word a.size) s
          have h20 := fun h => HR.out.trans (undoX_no hfit h)
          have h21 := fun h => HR.out.trans (undoX_yes hfit h)
          obtain ⟨R, hR⟩ : ∃ R, restX f word a.size = R := ⟨_, rfl⟩
          rw [hR] at hrs hjs h20 h21
          obtain ⟨O, hO⟩ : ∃ O, joinX f R s = O := ⟨_, rfl⟩
          rw [hO] at hjs h20 h21
          have hOm : O.size ≤ maxLen := by unfold maxLen; omega
          have HRR := Shh.mk hR
          have HO := Shh.mk hO
          clear hX hfs hfit HR hR hO
          cases h3 : longB O
          · have HU := Shh.mk (h20 (by rw [h3]; rfl))
            have H3 := hid h3
            clear h20 h21 h3
            go_enter Try.func17, Try.ntmps17
            go_wp2_with fail
            refine (affix_is H1.out _ HA.out hn hw hs ha).mono ?_
            rintro e w' ⟨rfl, k, rfl⟩
            go_wp2_with fail
            refine (long_is H2.out _ hwd).mono ?_
            rintro e w1 ⟨rfl, hk⟩
            have HK := Shh.mk hk
            have hgk : AffAt w1 W.heap.size 0 f n w s a := by rw [← hk]; exact HA.out.drewN k
            have c3 := hgk.c3
            have c4 := hgk.c4
            clear hk
            go_wp2_with fail
            refine (l04End_yes _ hgk word a.size hle hwd HX.out).mono ?_
            rintro e w' ⟨rfl, rfl⟩
            go_wp2
            go_quiet (first | (go_at_call 60; exact quietF (l04Rest_any _ (hgk.drewN _) word a.size hle hwd1 HRR.out)) | (go_at_call 59; exact quietF (l04Join_any _ (hgk.drewN _) R s (by omega) (by omega) HO.out)))
            go_wp2_with fail
            refine (long_is H3.out _ hOm).mono ?_
            rintro e w' ⟨rfl, rfl⟩
            go_wp2
            go_ret2
            exact ⟨ret_x HU.out, by rw [← HK.out]; exact below_drewN (below_drewN hB0 _) _⟩
          · cases h4 : matchX f w s O
            · have HU := Shh.mk (h20 (by rw [h3, h4]; rfl))
              have H3 := hid h3
              have H4 := hid h4
              clear h20 h21 h3 h4
              go_enter Try.func17, Try.ntmps17
              go_wp2_with fail
              refine (affix_is H1.out _ HA.out hn hw hs ha).mono ?_
              rintro e w' ⟨rfl, k, rfl⟩
              go_wp2_with fail
              refine (long_is H2.out _ hwd).mono ?_
              rintro e w1 ⟨rfl, hk⟩
              have HK := Shh.mk hk
              have hgk : AffAt w1 W.heap.size 0 f n w s a := by rw [← hk]; exact HA.out.drewN k
              have c3 := hgk.c3
              have c4 := hgk.c4
              clear hk
              go_wp2_with fail
              refine (l04End_yes _ hgk word a.size hle hwd HX.out).mono ?_
              rintro e w' ⟨rfl, rfl⟩
              go_wp2
              go_quiet (first | (go_at_call 60; exact quietF (l04Rest_any _ (hgk.drewN _) word a.size hle hwd1 HRR.out)) | (go_at_call 59; exact quietF (l04Join_any _ (hgk.drewN _) R s (by omega) (by omega) HO.out)))
              go_wp2_with fail
              refine (long_is H3.out _ hOm).mono ?_
              rintro e w' ⟨rfl, rfl⟩
              go_wp2_with fail
              refine (matches_is H4.out _ (hgk.drewN _) hw hs hOm).mono ?_
              rintro e w' ⟨rfl, m, rfl⟩
              go_wp2
              go_ret2
              exact ⟨ret_x HU.out, by rw [← HK.out]; first | exact below_drewN (below_drewN hB0 _) _ | exact below_drewN (below_drewN (below_drewN hB0 _) _) _⟩
            · have HU := Shh.mk (h21 (by rw [h3, h4]; rfl))
              have H3 := hid h3
              have H4 := hid h4
              clear h20 h21 h3 h4
              go_enter Try.func17, Try.ntmps17
              go_wp2_with fail
              refine (affix_is H1.out _ HA.out hn hw hs ha).mono ?_
              rintro e w' ⟨rfl, k, rfl⟩
              go_wp2_with fail
              refine (long_is H2.out _ hwd).mono ?_
              rintro e w1 ⟨rfl, hk⟩
              have HK := Shh.mk hk
              have hgk : AffAt w1 W.heap.size 0 f n w s a := by rw [← hk]; exact HA.out.drewN k
              have c3 := hgk.c3
              have c4 := hgk.c4
              clear hk
              go_wp2_with fail
              refine (l04End_yes _ hgk word a.size hle hwd HX.out).mono ?_
              rintro e w' ⟨rfl, rfl⟩
              go_wp2
              go_quiet (first | (go_at_call 60; exact quietF (l04Rest_any _ (hgk.drewN _) word a.size hle hwd1 HRR.out)) | (go_at_call 59; exact quietF (l04Join_any _ (hgk.drewN _) R s (by omega) (by omega) HO.out)))
              go_wp2_with fail
              refine (long_is H3.out _ hOm).mono ?_
              rintro e w' ⟨rfl, rfl⟩
              go_wp2_with fail
              refine (matches_is H4.out _ (hgk.drewN _) hw hs hOm).mono ?_
              rintro e w' ⟨rfl, m, rfl⟩
              go_wp2
              go_ret2
              exact ⟨ret_x HU.out, by rw [← HK.out]; first | exact below_drewN (below_drewN hB0 _) _ | exact below_drewN (below_drewN (below_drewN hB0 _) _) _⟩
      · have HU := Shh.mk (HR.out.trans (undoX_fit (fitX_long hle)))
        clear HR
        go_enter Try.func17, Try.ntmps17
        go_wp2_with fail
        refine (affix_is H1.out _ HA.out hn hw hs ha).mono ?_
        rintro e w' ⟨rfl, k, rfl⟩
        go_wp2_with fail
        refine (long_is H2.out _ hwd).mono ?_
        rintro e w' ⟨rfl, rfl⟩
        have hgk := HA.out.drewN k
        have c4 := hgk.c4
        go_wp2_with fail
        refine (l04End_no _ word a.size hle).mono ?_
        rintro e w' ⟨rfl, rfl⟩
        go_wp2
        go_ret2
        exact ⟨ret_x HU.out, below_drewN hB0 _⟩
end Go.Proofs.Ytpdphimlpeiifaa
