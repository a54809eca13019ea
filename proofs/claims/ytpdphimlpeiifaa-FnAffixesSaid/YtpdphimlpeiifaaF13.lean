/-
  An affix and a word that the model draws for undoing.
-/
import Derived.Test.YtpdphimlpeiifaaF12
namespace Go.Proofs.Ytpdphimlpeiifaa
open Go.RowKit

theorem applyX_size {f : Bool} {w s a word r : ByteArray} {c : Int} (h : applyX f w s a word = (r, c)) : r.size ≤ word.size + a.size := by
  cases h1 : matchX f w s word
  · rw [applyX_no h1] at h
    obtain rfl := (Prod.mk.inj h).1
    show 0 ≤ _
    omega
  · have hsz := fitX_size (matchX_fits h1)
    cases h2 : longB (joinX f (restX f word s.size) a)
    · rw [applyX_short h1 h2] at h
      obtain rfl := (Prod.mk.inj h).1
      show 0 ≤ _
      omega
    · rw [applyX_yes h1 h2] at h
      obtain rfl := (Prod.mk.inj h).1
      rw [joinX_size, restX_size f word hsz]
      omega

/-- An affix and a word were drawn. -/
def DrewAW (W : World) (e : Ending) (w' : World) : Prop :=
  ∃ (f : Bool) (n w s a word : ByteArray), (n.size ≤ 20 ∧ w.size ≤ 20 ∧ s.size ≤ 20 ∧ a.size ≤ 20) ∧ word.size ≤ 40 ∧ e = .returned (.tuple #[.agg #[.string n, .bool f, .string w, .string s, .string a], .string word]) ∧ Below W.heap.size W w'
theorem below_five {W w' : World} (h : Below W.heap.size W w') (u0 u1 u2 u3 u4 : Value) :
    Below W.heap.size W (((((w'.setCell ⟨W.heap.size, 0, none⟩ u0).setCell ⟨W.heap.size, 1, none⟩ u1).setCell ⟨W.heap.size, 2, none⟩ u2).setCell ⟨W.heap.size, 3, none⟩ u3).setCell ⟨W.heap.size, 4, none⟩ u4) :=
  ((((h.setCell (Nat.le_refl _) u0).setCell (Nat.le_refl _) u1).setCell (Nat.le_refl _) u2).setCell (Nat.le_refl _) u3).setCell (Nat.le_refl _) u4

set_option maxRecDepth 100000 in
set_option maxHeartbeats 1000000 in
theorem drawUndo_any (W : World) (v : Value) (zs : List Int) (hz : Ints .u8 W v zs) : Calls Try.prog 15 #[v] W (DrewAW W) := by
  have hzA := hz.alloc (.cells zeroA 25)
  have HS0 := Shh.mk (src_made hzA)
  have hf := l00From_any _ v zs hzA
  rw [World.size_alloc] at hf
  have HF := Shh.mk hf
  clear hf
  have hsl : ∃ a l c, v = .slice a l c := by obtain ⟨a, cap, rfl, -⟩ := hz; exact ⟨_, _, _, rfl⟩
  obtain ⟨av, lv, cv, rfl⟩ := hsl
  clear hz hzA
  go_enter Try.func15, Try.ntmps15
  go_wp2_with fail
  refine HF.out.mono ?_
  rintro e w1 ⟨rfl, hw1⟩
  have HS1 := Shh.mk HS0.out
  rw [← hw1] at HS1
  rw [World.size_alloc] at HS1
  have hz1 : w1.heap.size = W.heap.size + 2 := by rw [hw1]; simp
  have P0 : Shh (Blk w1 W.heap.size 25 zeroA) := ⟨by rw [hw1]; exact (Blk.made W _ _).alloc _⟩
  clear hw1 HS0 HF
  go_wp2_with fail
  refine (l04Both_any _ _ _ _ zs 0 0 HS1.out (by omega)).mono ?_
  rintro e w2 ⟨f, n, w, s, a, word, p2, s2, ⟨zn, zw, zs2, za⟩, zwd, rfl, hp2, hs2, hg2⟩
  have Q0 := Shh.mk ((blk_grown P0.out hg2 (by simp)).alloc (.cells #[.string n, .bool f, .string w, .string s, .string a] 25))
  have hz2 : w1.heap.size ≤ w2.heap.size := hg2.size
  have HS2 := Shh.mk (src_grown hs2 ((Below.refl _ _).alloc (Nat.le_refl _) (.cells #[.string n, .bool f, .string w, .string s, .string a] 25)))
  have Q1 := Shh.mk (Blk.made w2 25 #[.string n, .bool f, .string w, .string s, .string a])
  have hAf := AffAt.made w2 25 f n w s a
  have HAF := Shh.mk hAf
  clear hs2 hg2 hAf
  have mn : n.size ≤ maxLen := by unfold maxLen; omega
  have mw : w.size ≤ maxLen := by unfold maxLen; omega
  have ms : s.size ≤ maxLen := by unfold maxLen; omega
  have ma : a.size ≤ maxLen := by unfold maxLen; omega
  have mwd : word.size ≤ maxLen := by unfold maxLen; omega
  have hend : ∀ {wr : World} {p' : Nat} {s' : Int} {b : Nat}, SrcIs (W.alloc (.cells zeroA 25)) wr b (.slice av lv cv) zs p' s' → Below W.heap.size W wr := fun h =>
    ((Below.refl W.heap.size W).alloc (Nat.le_refl _) (.cells zeroA 25)).trans (h.below.mono (by simp))
  have HEND := Shh.mk @hend
  clear hend
  cases h1 : affB n w s a
  · have H1 := hid h1
    clear h1
    go_wp2_with fail
    refine (affix_is H1.out _ HAF.out mn mw ms ma).mono ?_
    rintro e w3 ⟨rfl, k, rfl⟩
    have c1 := Q1.out.cells
    have c0 : ∀ j, (w2.alloc (.cells #[.string n, .bool f, .string w, .string s, .string a] 25)).cell? ⟨W.heap.size, j, none⟩ = (#[.string ⟨#[]⟩, .bool false, .string ⟨#[]⟩, .string ⟨#[]⟩, .string ⟨#[]⟩] : Array Value)[j]? := Q0.out.cells
    have f0 := Q0.out.marks
    go_wp2
    refine bodyPost_ret (v := .tuple #[.agg #[.string n, .bool f, .string w, .string s, .string a], .string word]) (by simp [results, Try.results15, go_sem, c0]) rfl ?_
    exact ⟨f, n, w, s, a, word, ⟨zn, zw, zs2, za⟩, by omega, rfl, below_five (below_drewN (HEND.out HS2.out) k) _ _ _ _ _⟩
  · have H1 := hid h1
    clear h1
    cases h2 : longB word
    · have H2 := hid h2
      clear h2
      go_wp2_with fail
      refine (affix_is H1.out _ HAF.out mn mw ms ma).mono ?_
      rintro e w3 ⟨rfl, k, rfl⟩
      go_wp2_with fail
      refine (long_is H2.out _ mwd).mono ?_
      rintro e w4 ⟨rfl, rfl⟩
      have c1 := Q1.out.cells
      have c0 : ∀ j, (w2.alloc (.cells #[.string n, .bool f, .string w, .string s, .string a] 25)).cell? ⟨W.heap.size, j, none⟩ = (#[.string ⟨#[]⟩, .bool false, .string ⟨#[]⟩, .string ⟨#[]⟩, .string ⟨#[]⟩] : Array Value)[j]? := Q0.out.cells
      have f0 := Q0.out.marks
      go_wp2
      refine bodyPost_ret (v := .tuple #[.agg #[.string n, .bool f, .string w, .string s, .string a], .string word]) (by simp [results, Try.results15, go_sem, c0]) rfl ?_
      exact ⟨f, n, w, s, a, word, ⟨zn, zw, zs2, za⟩, by omega, rfl, below_five (below_drewN (HEND.out HS2.out) k) _ _ _ _ _⟩
    · have H2 := hid h2
      clear h2
      go_wp2_with fail
      refine (affix_is H1.out _ HAF.out mn mw ms ma).mono ?_
      rintro e w3 ⟨rfl, k, hk⟩
      have HS3 : Shh (SrcIs _ w3 _ _ zs p2 s2) := ⟨by rw [hk]; exact src_grown HS2.out (below_drewN (Below.refl _ _) k)⟩
      have R0 : Shh (Blk w3 W.heap.size 25 zeroA) := ⟨by rw [hk]; exact Q0.out⟩
      have R1 : Shh (Blk w3 w2.heap.size 25 #[.string n, .bool f, .string w, .string s, .string a]) := ⟨by rw [hk]; exact Q1.out⟩
      clear hk
      go_wp2_with fail
      refine (long_is H2.out _ mwd).mono ?_
      rintro e w4 ⟨rfl, rfl⟩
      go_wp2_with fail
      refine (one_any _ _ _ _ zs p2 s2 2 HS3.out (by omega) (by omega) (by omega)).mono ?_
      rintro e w5 ⟨x, p5, s5, rfl, hp5, hs5, hg5⟩
      have HS5 := Shh.mk hs5
      have T0 := Shh.mk (blk_grown R0.out hg5 (by simp))
      have T1 := Shh.mk (blk_grown R1.out hg5 (by simp; omega))
      have hgA : AffAt w5 w2.heap.size 0 f n w s a := .of T1.out
      clear hs5 hg5
      cases x
      · have c1 := T1.out.cells
        have c0 : ∀ j, w5.cell? ⟨W.heap.size, j, none⟩ = (#[.string ⟨#[]⟩, .bool false, .string ⟨#[]⟩, .string ⟨#[]⟩, .string ⟨#[]⟩] : Array Value)[j]? := T0.out.cells
        have f0 := T0.out.marks
        go_wp2
        refine bodyPost_ret (v := .tuple #[.agg #[.string n, .bool f, .string w, .string s, .string a], .string word]) (by simp [results, Try.results15, go_sem, c0]) rfl ?_
        exact ⟨f, n, w, s, a, word, ⟨zn, zw, zs2, za⟩, by omega, rfl, below_five (HEND.out HS5.out) _ _ _ _ _⟩
      · obtain ⟨pr, hpr⟩ : ∃ pr, applyX f w s a word = pr := ⟨_, rfl⟩
        obtain ⟨r, c⟩ := pr
        have hrz := applyX_size hpr
        have HP := Shh.mk hpr
        clear hpr
        go_wp2_with fail
        refine (apply_is HP.out _ hgA mw ms (by omega) (by omega)).mono ?_
        rintro e w6 ⟨rfl, k, hk⟩
        unfold retX
        have U0 : Shh (Blk w6 W.heap.size 25 zeroA) := ⟨by rw [hk]; exact T0.out⟩
        have U1 : Shh (Blk w6 w2.heap.size 25 #[.string n, .bool f, .string w, .string s, .string a]) := ⟨by rw [hk]; exact T1.out⟩
        have HB6 : Shh (Below W.heap.size W w6) := ⟨by rw [hk]; exact below_drewN (HEND.out HS5.out) k⟩
        clear hk
        have c1 := U1.out.cells
        have c0 : ∀ j, w6.cell? ⟨W.heap.size, j, none⟩ = (#[.string ⟨#[]⟩, .bool false, .string ⟨#[]⟩, .string ⟨#[]⟩, .string ⟨#[]⟩] : Array Value)[j]? := U0.out.cells
        have f0 := U0.out.marks
        by_cases hc : c = 0
        · subst hc
          go_wp2
          refine bodyPost_ret (v := .tuple #[.agg #[.string n, .bool f, .string w, .string s, .string a], .string r]) (by simp [results, Try.results15, go_sem, c0]) rfl ?_
          exact ⟨f, n, w, s, a, r, ⟨zn, zw, zs2, za⟩, by omega, rfl, below_five HB6.out _ _ _ _ _⟩
        · have hc' : (c == 0) = false := beq_eq_false_iff_ne.2 hc
          clear hc
          go_wp2
          refine bodyPost_ret (v := .tuple #[.agg #[.string n, .bool f, .string w, .string s, .string a], .string word]) (by simp [results, Try.results15, go_sem, c0]) rfl ?_
          exact ⟨f, n, w, s, a, word, ⟨zn, zw, zs2, za⟩, by omega, rfl, below_five HB6.out _ _ _ _ _⟩
end Go.Proofs.Ytpdphimlpeiifaa
