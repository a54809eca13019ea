/-
  The program's functions on affixes: matching, making, undoing.
-/
import Derived.Test.YtilagppmljpclaaF8
namespace Go.Proofs.Ytilagppmljpclaa
open Go.RowKit


set_option maxHeartbeats 2000000 in
theorem apply_any (f : Bool) (n w s a word : ByteArray) (W : World) (hw : w.size ≤ maxLen) (ha : a.size ≤ 1000) (hws : word.size ≤ 1000) :
    Calls Try.prog 134 #[.agg #[.string n, .bool f, .string w, .string s, .string a], .string word] W fun e w' => e = .returned (retX (applyX f w s a word)) ∧ Below W.heap.size W w' := by
  have hwd : word.size ≤ maxLen := by unfold maxLen; omega
  cases h3 : matchX f w s word
  · have HR := hid (applyX_no (a := a) h3)
    have H3 := hid h3
    clear h3
    go_enter Try.func134, Try.ntmps134
    go_wp2_with fail
    refine (matchesI H3.out _ hw hwd).mono ?_
    rintro e w1 ⟨rfl, hb1⟩
    have p1 := Shh.mk ((Boxed.made W f n w s a).next hb1)
    have c1 := p1.out.cells
    go_wp2
    go_ret2
    exact ⟨ret_x HR.out, p1.out.below⟩
  · have hfit := matchX_fits h3
    have hsz := fitX_size hfit
    have hrs := restX_size f word hsz
    have hjs := joinX_size f (restX f word s.size) a
    have h20 := fun h => applyX_short (a := a) h3 h
    have h21 := fun h => applyX_yes (a := a) h3 h
    have hcut := cutX_yes hfit
    obtain ⟨R, hR⟩ : ∃ R, restX f word s.size = R := ⟨_, rfl⟩
    rw [hR] at hrs hjs h20 h21 hcut
    obtain ⟨O, hO⟩ : ∃ O, joinX f R a = O := ⟨_, rfl⟩
    rw [hO] at hjs h20 h21
    have hOm : O.size ≤ maxLen := by unfold maxLen; omega
    have HC := Shh.mk hcut
    have HF := Shh.mk hfit
    have HO := Shh.mk hO
    have H3 := hid h3
    clear hR hO h3 hcut hfit
    cases h2 : longB O
    · have HR := Shh.mk (h20 h2)
      have H2 := hid h2
      clear h20 h21 h2
      go_enter Try.func134, Try.ntmps134
      go_wp2_with fail
      refine (matchesI H3.out _ hw hwd).mono ?_
      rintro e w1 ⟨rfl, hb1⟩
      have p1 := Shh.mk ((Boxed.made W f n w s a).next hb1)
      have c1 := p1.out.cells
      go_wp2_with fail
      refine (cut_any f n w s a word s _ hwd HC.out HF.out).mono ?_
      rintro e w2 ⟨rfl, hb2⟩
      have p2 := Shh.mk (p1.out.next hb2)
      clear c1
      have c2 := p2.out.cells
      go_wp2_with fail
      refine (join_any f n w s a R a _ (by omega) (by omega) HO.out).mono ?_
      rintro e w3 ⟨rfl, hb3⟩
      have p3 := Shh.mk (p2.out.next hb3)
      clear c2
      have c3 := p3.out.cells
      go_wp2_with fail
      refine (longI H2.out _ hOm).mono ?_
      rintro e w4 ⟨rfl, hb4⟩
      have p4 := Shh.mk (p3.out.next hb4)
      clear c3
      have c4 := p4.out.cells
      go_wp2
      go_ret2
      exact ⟨ret_x HR.out, p4.out.below⟩
    · have HR := Shh.mk (h21 h2)
      have H2 := hid h2
      clear h20 h21 h2
      go_enter Try.func134, Try.ntmps134
      go_wp2_with fail
      refine (matchesI H3.out _ hw hwd).mono ?_
      rintro e w1 ⟨rfl, hb1⟩
      have p1 := Shh.mk ((Boxed.made W f n w s a).next hb1)
      have c1 := p1.out.cells
      go_wp2_with fail
      refine (cut_any f n w s a word s _ hwd HC.out HF.out).mono ?_
      rintro e w2 ⟨rfl, hb2⟩
      have p2 := Shh.mk (p1.out.next hb2)
      clear c1
      have c2 := p2.out.cells
      go_wp2_with fail
      refine (join_any f n w s a R a _ (by omega) (by omega) HO.out).mono ?_
      rintro e w3 ⟨rfl, hb3⟩
      have p3 := Shh.mk (p2.out.next hb3)
      clear c2
      have c3 := p3.out.cells
      go_wp2_with fail
      refine (longI H2.out _ hOm).mono ?_
      rintro e w4 ⟨rfl, hb4⟩
      have p4 := Shh.mk (p3.out.next hb4)
      clear c3
      have c4 := p4.out.cells
      go_wp2
      go_ret2
      exact ⟨ret_x HR.out, p4.out.below⟩
theorem applyI {f : Bool} {n w s a word : ByteArray} {p : ByteArray × Int} (h : applyX f w s a word = p) (W : World) (hw : w.size ≤ maxLen) (ha : a.size ≤ 1000) (hws : word.size ≤ 1000) :
    Calls Try.prog 134 #[.agg #[.string n, .bool f, .string w, .string s, .string a], .string word] W fun e w' => e = .returned (retX p) ∧ Below W.heap.size W w' := by rw [← h]; exact apply_any f n w s a word W hw ha hws


end Go.Proofs.Ytilagppmljpclaa
