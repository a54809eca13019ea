/-
  The program's functions on affixes: matching, making, undoing.
-/
import Derived.Test.YtpdphimlpeiifaaF8
namespace Go.Proofs.Ytpdphimlpeiifaa
open Go.RowKit

set_option maxHeartbeats 2000000 in
theorem implMatchesAffix_any (f : Bool) (n w s a word : ByteArray) (W : World) (hn : n.size ≤ maxLen) (hw : w.size ≤ maxLen) (hs : s.size ≤ maxLen) (ha : a.size ≤ maxLen) (hwd : word.size ≤ maxLen) :
    Calls Try.prog 20 #[.agg #[.string n, .bool f, .string w, .string s, .string a], .string word] W fun e w' => e = .returned (.bool (matchB f n w s a word)) ∧ Below W.heap.size W w' := by
  cases h1 : affB n w s a
  · have HR := hid (matchB_aff (f := f) (word := word) h1)
    have H1 := hid h1
    clear h1
    go_enter Try.func20, Try.ntmps20
    go_wp2_with fail
    refine (validI H1.out _ hn hw hs ha).mono ?_
    rintro e w1 ⟨rfl, hb1⟩
    have p1 := Shh.mk ((Boxed.made W f n w s a).next hb1)
    have c1 := p1.out.cells
    go_wp2
    go_ret
    exact ⟨ret_bool HR.out.symm, p1.out.below⟩
  · cases h2 : longB word
    · have HR := hid (matchB_long (f := f) (n := n) (w := w) (s := s) (a := a) h2)
      have H1 := hid h1
      have H2 := hid h2
      clear h1 h2
      go_enter Try.func20, Try.ntmps20
      go_wp2_with fail
      refine (validI H1.out _ hn hw hs ha).mono ?_
      rintro e w1 ⟨rfl, hb1⟩
      have p1 := Shh.mk ((Boxed.made W f n w s a).next hb1)
      have c1 := p1.out.cells
      go_wp2_with fail
      refine (longI H2.out _ hwd).mono ?_
      rintro e w2 ⟨rfl, hb2⟩
      have p2 := Shh.mk (p1.out.next hb2)
      clear c1
      have c2 := p2.out.cells
      go_wp2
      go_ret
      exact ⟨ret_bool HR.out.symm, p2.out.below⟩
    · have HR := hid (matchB_yes (f := f) h1 h2)
      have H1 := hid h1
      have H2 := hid h2
      clear h1 h2
      obtain ⟨t, ht⟩ : ∃ t, matchX f w s word = t := ⟨_, rfl⟩
      rw [ht] at HR
      have H3 := hid ht
      clear ht
      go_enter Try.func20, Try.ntmps20
      go_wp2_with fail
      refine (validI H1.out _ hn hw hs ha).mono ?_
      rintro e w1 ⟨rfl, hb1⟩
      have p1 := Shh.mk ((Boxed.made W f n w s a).next hb1)
      have c1 := p1.out.cells
      go_wp2_with fail
      refine (longI H2.out _ hwd).mono ?_
      rintro e w2 ⟨rfl, hb2⟩
      have p2 := Shh.mk (p1.out.next hb2)
      clear c1
      have c2 := p2.out.cells
      go_wp2_with fail
      refine (matchesI H3.out _ hw hwd).mono ?_
      rintro e w3 ⟨rfl, hb3⟩
      have p3 := Shh.mk (p2.out.next hb3)
      clear c2
      have c3 := p3.out.cells
      go_wp2
      go_ret
      exact ⟨ret_bool HR.out.symm, p3.out.below⟩
theorem matchI {f : Bool} {n w s a word : ByteArray} {v : Bool} (h : matchB f n w s a word = v) (W : World) (hn : n.size ≤ maxLen) (hw : w.size ≤ maxLen) (hs : s.size ≤ maxLen) (ha : a.size ≤ maxLen) (hwd : word.size ≤ maxLen) :
    Calls Try.prog 20 #[.agg #[.string n, .bool f, .string w, .string s, .string a], .string word] W fun e w' => e = .returned (.bool v) ∧ Below W.heap.size W w' := by rw [← h]; exact implMatchesAffix_any f n w s a word W hn hw hs ha hwd

set_option maxHeartbeats 2000000 in
theorem apply_any (f : Bool) (n w s a word : ByteArray) (W : World) (hw : w.size ≤ maxLen) (ha : a.size ≤ 1000) (hws : word.size ≤ 1000) :
    Calls Try.prog 62 #[.agg #[.string n, .bool f, .string w, .string s, .string a], .string word] W fun e w' => e = .returned (retX (applyX f w s a word)) ∧ Below W.heap.size W w' := by
  have hwd : word.size ≤ maxLen := by unfold maxLen; omega
  cases h3 : matchX f w s word
  · have HR := hid (applyX_no (a := a) h3)
    have H3 := hid h3
    clear h3
    go_enter Try.func62, Try.ntmps62
    go_wp2_with fail
    refine (matchesI H3.out _ hw hwd).mono ?_
    rintro e w1 ⟨rfl, hb1⟩
    have p1 := Shh.mk ((Boxed.made W f n w s a).next hb1)
    have c1 := p1.out.cells
    go_wp2
    go_ret2
    exact ⟨ret_x HR.out, p1.out.below⟩
  · have hfit := matchX_fits h3
    have hsz := fitX_size hfit
    have hrs := restX_size f word hsz
    have hjs := joinX_size f (restX f word s.size) a
    have h20 := fun h => applyX_short (a := a) h3 h
    have h21 := fun h => applyX_yes (a := a) h3 h
    have hcut := cutX_yes hfit
    obtain ⟨R, hR⟩ : ∃ R, restX f word s.size = R := ⟨_, rfl⟩
    rw [hR] at hrs hjs h20 h21 hcut
    obtain ⟨O, hO⟩ : ∃ O, joinX f R a = O := ⟨_, rfl⟩
    rw [hO] at hjs h20 h21
    have hOm : O.size ≤ maxLen := by unfold maxLen; omega
    have HC := Shh.mk hcut
    have HF := Shh.mk hfit
    have HO := Shh.mk hO
    have H3 := hid h3
    clear hR hO h3 hcut hfit
    cases h2 : longB O
    · have HR := Shh.mk (h20 h2)
      have H2 := hid h2
      clear h20 h21 h2
      go_enter Try.func62, Try.ntmps62
      go_wp2_with fail
      refine (matchesI H3.out _ hw hwd).mono ?_
      rintro e w1 ⟨rfl, hb1⟩
      have p1 := Shh.mk ((Boxed.made W f n w s a).next hb1)
      have c1 := p1.out.cells
      go_wp2_with fail
      refine (cut_any f n w s a word s _ hwd HC.out HF.out).mono ?_
      rintro e w2 ⟨rfl, hb2⟩
      have p2 := Shh.mk (p1.out.next hb2)
      clear c1
      have c2 := p2.out.cells
      go_wp2_with fail
      refine (join_any f n w s a R a _ (by omega) (by omega) HO.out).mono ?_
      rintro e w3 ⟨rfl, hb3⟩
      have p3 := Shh.mk (p2.out.next hb3)
      clear c2
      have c3 := p3.out.cells
      go_wp2_with fail
      refine (longI H2.out _ hOm).mono ?_
      rintro e w4 ⟨rfl, hb4⟩
      have p4 := Shh.mk (p3.out.next hb4)
      clear c3
      have c4 := p4.out.cells
      go_wp2
      go_ret2
      exact ⟨ret_x HR.out, p4.out.below⟩
    · have HR := Shh.mk (h21 h2)
      have H2 := hid h2
      clear h20 h21 h2
      go_enter Try.func62, Try.ntmps62
      go_wp2_with fail
      refine (matchesI H3.out _ hw hwd).mono ?_
      rintro e w1 ⟨rfl, hb1⟩
      have p1 := Shh.mk ((Boxed.made W f n w s a).next hb1)
      have c1 := p1.out.cells
      go_wp2_with fail
      refine (cut_any f n w s a word s _ hwd HC.out HF.out).mono ?_
      rintro e w2 ⟨rfl, hb2⟩
      have p2 := Shh.mk (p1.out.next hb2)
      clear c1
      have c2 := p2.out.cells
      go_wp2_with fail
      refine (join_any f n w s a R a _ (by omega) (by omega) HO.out).mono ?_
      rintro e w3 ⟨rfl, hb3⟩
      have p3 := Shh.mk (p2.out.next hb3)
      clear c2
      have c3 := p3.out.cells
      go_wp2_with fail
      refine (longI H2.out _ hOm).mono ?_
      rintro e w4 ⟨rfl, hb4⟩
      have p4 := Shh.mk (p3.out.next hb4)
      clear c3
      have c4 := p4.out.cells
      go_wp2
      go_ret2
      exact ⟨ret_x HR.out, p4.out.below⟩
theorem applyI {f : Bool} {n w s a word : ByteArray} {p : ByteArray × Int} (h : applyX f w s a word = p) (W : World) (hw : w.size ≤ maxLen) (ha : a.size ≤ 1000) (hws : word.size ≤ 1000) :
    Calls Try.prog 62 #[.agg #[.string n, .bool f, .string w, .string s, .string a], .string word] W fun e w' => e = .returned (retX p) ∧ Below W.heap.size W w' := by rw [← h]; exact apply_any f n w s a word W hw ha hws

set_option maxHeartbeats 2000000 in
theorem implApplyAffix_any (f : Bool) (n w s a word : ByteArray) (W : World) (hn : n.size ≤ maxLen) (hw : w.size ≤ maxLen) (hs : s.size ≤ maxLen) (ha : a.size ≤ maxLen) (hwd : word.size ≤ maxLen) :
    Calls Try.prog 18 #[.agg #[.string n, .bool f, .string w, .string s, .string a], .string word] W fun e w' => e = .returned (retX (applyOut f n w s a word)) ∧ Below W.heap.size W w' := by
  cases h1 : affB n w s a
  · have HR := hid (applyOut_aff (f := f) (word := word) h1)
    have H1 := hid h1
    clear h1
    go_enter Try.func18, Try.ntmps18
    go_wp2_with fail
    refine (validI H1.out _ hn hw hs ha).mono ?_
    rintro e w1 ⟨rfl, hb1⟩
    have p1 := Shh.mk ((Boxed.made W f n w s a).next hb1)
    have c1 := p1.out.cells
    go_wp2
    go_ret2
    exact ⟨ret_x HR.out, p1.out.below⟩
  · cases h2 : longB word
    · have HR := hid (applyOut_long (f := f) h1 h2)
      have H1 := hid h1
      have H2 := hid h2
      clear h1 h2
      go_enter Try.func18, Try.ntmps18
      go_wp2_with fail
      refine (validI H1.out _ hn hw hs ha).mono ?_
      rintro e w1 ⟨rfl, hb1⟩
      have p1 := Shh.mk ((Boxed.made W f n w s a).next hb1)
      have c1 := p1.out.cells
      go_wp2_with fail
      refine (longI H2.out _ hwd).mono ?_
      rintro e w2 ⟨rfl, hb2⟩
      have p2 := Shh.mk (p1.out.next hb2)
      clear c1
      have c2 := p2.out.cells
      go_wp2
      go_ret2
      exact ⟨ret_x HR.out, p2.out.below⟩
    · have HR := Shh.mk (applyOut_yes (f := f) h1 h2)
      have ha4 := (affB_facts h1).a4
      have hw12 := (longB_size h2).2
      have H1 := hid h1
      have H2 := hid h2
      clear h1 h2
      obtain ⟨p, hp⟩ : ∃ p, applyX f w s a word = p := ⟨_, rfl⟩
      rw [hp] at HR
      have HP := Shh.mk hp
      clear hp
      obtain ⟨r, c⟩ := p
      go_enter Try.func18, Try.ntmps18
      go_wp2_with fail
      refine (validI H1.out _ hn hw hs ha).mono ?_
      rintro e w1 ⟨rfl, hb1⟩
      have p1 := Shh.mk ((Boxed.made W f n w s a).next hb1)
      have c1 := p1.out.cells
      go_wp2_with fail
      refine (longI H2.out _ hwd).mono ?_
      rintro e w2 ⟨rfl, hb2⟩
      have p2 := Shh.mk (p1.out.next hb2)
      clear c1
      have c2 := p2.out.cells
      go_wp2_with fail
      refine (applyI HP.out _ hw (by omega) (by omega)).mono ?_
      rintro e w3 ⟨rfl, hb3⟩
      unfold retX
      have p3 := Shh.mk (p2.out.next hb3)
      clear c2
      have c3 := p3.out.cells
      go_wp2
      go_ret2
      exact ⟨ret_x HR.out, p3.out.below⟩

set_option maxHeartbeats 2000000 in
theorem implUndoAffix_any (f : Bool) (n w s a word : ByteArray) (W : World) (hn : n.size ≤ maxLen) (hw : w.size ≤ maxLen) (hs : s.size ≤ maxLen) (ha : a.size ≤ maxLen) (hwd : word.size ≤ maxLen) :
    Calls Try.prog 16 #[.agg #[.string n, .bool f, .string w, .string s, .string a], .string word] W fun e w' => e = .returned (retX (undoOut f n w s a word)) ∧ Below W.heap.size W w' := by
  cases h1 : affB n w s a
  · have HR := hid (undoOut_aff (f := f) (word := word) h1)
    have H1 := hid h1
    clear h1
    go_enter Try.func16, Try.ntmps16
    go_wp2_with fail
    refine (validI H1.out _ hn hw hs ha).mono ?_
    rintro e w1 ⟨rfl, hb1⟩
    have p1 := Shh.mk ((Boxed.made W f n w s a).next hb1)
    have c1 := p1.out.cells
    go_wp2
    go_ret2
    exact ⟨ret_x HR.out, p1.out.below⟩
  · cases h2 : longB word
    · have HR := hid (undoOut_long (f := f) h1 h2)
      have H1 := hid h1
      have H2 := hid h2
      clear h1 h2
      go_enter Try.func16, Try.ntmps16
      go_wp2_with fail
      refine (validI H1.out _ hn hw hs ha).mono ?_
      rintro e w1 ⟨rfl, hb1⟩
      have p1 := Shh.mk ((Boxed.made W f n w s a).next hb1)
      have c1 := p1.out.cells
      go_wp2_with fail
      refine (longI H2.out _ hwd).mono ?_
      rintro e w2 ⟨rfl, hb2⟩
      have p2 := Shh.mk (p1.out.next hb2)
      clear c1
      have c2 := p2.out.cells
      go_wp2
      go_ret2
      exact ⟨ret_x HR.out, p2.out.below⟩
    · have HU := undoOut_yes (f := f) h1 h2
      have ha4 := (affB_facts h1).a4
      have hs4 := (affB_facts h1).s4
      have hw12 := (longB_size h2).2
      have H1 := hid h1
      have H2 := hid h2
      cases hfit : fitX f word a
      · have HR := Shh.mk (HU.trans (undoX_fit hfit))
        have HC := Shh.mk (cutX_no hfit)
        have HF := Shh.mk hfit
        have hjs := joinX_size f word s
        obtain ⟨O, hO⟩ : ∃ O, joinX f word s = O := ⟨_, rfl⟩
        have HO := Shh.mk hO
        clear h1 h2 hfit HU hO hjs
        go_enter Try.func16, Try.ntmps16
        go_wp2_with fail
        refine (validI H1.out _ hn hw hs ha).mono ?_
        rintro e w1 ⟨rfl, hb1⟩
        have p1 := Shh.mk ((Boxed.made W f n w s a).next hb1)
        have c1 := p1.out.cells
        go_wp2_with fail
        refine (longI H2.out _ hwd).mono ?_
        rintro e w2 ⟨rfl, hb2⟩
        have p2 := Shh.mk (p1.out.next hb2)
        clear c1
        have c2 := p2.out.cells
        go_wp2_with fail
        refine (cut_any f n w s a word a _ hwd HC.out HF.out).mono ?_
        rintro e w3 ⟨rfl, hb3⟩
        have p3 := Shh.mk (p2.out.next hb3)
        clear c2
        have c3 := p3.out.cells
        go_wp2_with fail
        refine (join_any f n w s a word s _ (by omega) (by omega) HO.out).mono ?_
        rintro e w4 ⟨rfl, hb4⟩
        have p4 := Shh.mk (p3.out.next hb4)
        clear c3
        have c4 := p4.out.cells
        go_wp2
        go_ret2
        exact ⟨ret_x HR.out, p4.out.below⟩
      · have hsz := fitX_size hfit
        have hrs := restX_size f word hsz
        have hjs := joinX_size f (restX f word a.size) s
        have h20 := fun h => HU.trans (undoX_no hfit h)
        have h21 := fun h => HU.trans (undoX_yes hfit h)
        have hcut := cutX_yes hfit
        obtain ⟨R, hR⟩ : ∃ R, restX f word a.size = R := ⟨_, rfl⟩
        rw [hR] at hrs hjs h20 h21 hcut
        obtain ⟨O, hO⟩ : ∃ O, joinX f R s = O := ⟨_, rfl⟩
        rw [hO] at hjs h20 h21
        have hOm : O.size ≤ maxLen := by unfold maxLen; omega
        have hmb : matchB f n w s a O = (longB O && matchX f w s O) := by
          unfold matchB
          rw [h1, Bool.true_and]
        have HC := Shh.mk hcut
        have HF := Shh.mk hfit
        have HO := Shh.mk hO
        clear h1 h2 hR hO hcut hfit HU
        cases h3 : (longB O && matchX f w s O)
        · have HR := Shh.mk (h20 h3)
          have H3 := hid (hmb.trans h3)
          clear h20 h21 h3 hmb
          go_enter Try.func16, Try.ntmps16
          go_wp2_with fail
          refine (validI H1.out _ hn hw hs ha).mono ?_
          rintro e w1 ⟨rfl, hb1⟩
          have p1 := Shh.mk ((Boxed.made W f n w s a).next hb1)
          have c1 := p1.out.cells
          go_wp2_with fail
          refine (longI H2.out _ hwd).mono ?_
          rintro e w2 ⟨rfl, hb2⟩
          have p2 := Shh.mk (p1.out.next hb2)
          clear c1
          have c2 := p2.out.cells
          go_wp2_with fail
          refine (cut_any f n w s a word a _ hwd HC.out HF.out).mono ?_
          rintro e w3 ⟨rfl, hb3⟩
          have p3 := Shh.mk (p2.out.next hb3)
          clear c2
          have c3 := p3.out.cells
          go_wp2_with fail
          refine (join_any f n w s a R s _ (by omega) (by omega) HO.out).mono ?_
          rintro e w4 ⟨rfl, hb4⟩
          have p4 := Shh.mk (p3.out.next hb4)
          clear c3
          have c4 := p4.out.cells
          go_wp2_with fail
          refine (matchI H3.out _ hn hw hs ha hOm).mono ?_
          rintro e w5 ⟨rfl, hb5⟩
          have p5 := Shh.mk (p4.out.next hb5)
          clear c4
          have c5 := p5.out.cells
          go_wp2
          go_ret2
          exact ⟨ret_x HR.out, p5.out.below⟩
        · have HR := Shh.mk (h21 h3)
          have H3 := hid (hmb.trans h3)
          clear h20 h21 h3 hmb
          go_enter Try.func16, Try.ntmps16
          go_wp2_with fail
          refine (validI H1.out _ hn hw hs ha).mono ?_
          rintro e w1 ⟨rfl, hb1⟩
          have p1 := Shh.mk ((Boxed.made W f n w s a).next hb1)
          have c1 := p1.out.cells
          go_wp2_with fail
          refine (longI H2.out _ hwd).mono ?_
          rintro e w2 ⟨rfl, hb2⟩
          have p2 := Shh.mk (p1.out.next hb2)
          clear c1
          have c2 := p2.out.cells
          go_wp2_with fail
          refine (cut_any f n w s a word a _ hwd HC.out HF.out).mono ?_
          rintro e w3 ⟨rfl, hb3⟩
          have p3 := Shh.mk (p2.out.next hb3)
          clear c2
          have c3 := p3.out.cells
          go_wp2_with fail
          refine (join_any f n w s a R s _ (by omega) (by omega) HO.out).mono ?_
          rintro e w4 ⟨rfl, hb4⟩
          have p4 := Shh.mk (p3.out.next hb4)
          clear c3
          have c4 := p4.out.cells
          go_wp2_with fail
          refine (matchI H3.out _ hn hw hs ha hOm).mono ?_
          rintro e w5 ⟨rfl, hb5⟩
          have p5 := Shh.mk (p4.out.next hb5)
          clear c4
          have c5 := p5.out.cells
          go_wp2
          go_ret2
          exact ⟨ret_x HR.out, p5.out.below⟩
end Go.Proofs.Ytpdphimlpeiifaa
