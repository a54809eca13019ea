/-
  The words that can be placed with some tiles: the program's WordsFrom.
-/
import Derived.Test.YtdleinognmdfmaaDoorUG
import Derived.Test.YtdleinognmdfmaaDoorOA
namespace Go.Proofs.YtdleinognmdfmaaDoor
open Go.RowKit Go.Lib

def canQ (p x : ByteArray) : Bool := canL p.data.toList x.data.toList
def fromOut (us : List ByteArray) (p : ByteArray) : List ByteArray × Int :=
  if okL us = false then ([], 1) else if pileB p.data.toList = false then ([], 2) else (pickTo (canQ p) us us.length, 0)
theorem fromOut_bad {us : List ByteArray} {p : ByteArray} (h : okL us = false) : fromOut us p = ([], 1) := by simp [fromOut, h]
theorem fromOut_pile {us : List ByteArray} {p : ByteArray} (h : okL us = true) (h2 : pileB p.data.toList = false) : fromOut us p = ([], 2) := by simp [fromOut, h, h2]
theorem fromOut_yes {us : List ByteArray} {p : ByteArray} (h : okL us = true) (h2 : pileB p.data.toList = true) : fromOut us p = (pickTo (canQ p) us us.length, 0) := by simp [fromOut, h, h2]
theorem fromOut_len (us : List ByteArray) (p : ByteArray) : (fromOut us p).1.length ≤ us.length := by
  unfold fromOut
  have := pickTo_len (canQ p) us us.length
  repeat' split
  all_goals simp
  omega

theorem canMake_on {p s : ByteArray} {b : Bool} (h : canQ p s = b) (w : World) (hp : p.size ≤ 1048576) (hl : longB s = true) (hs : s.size ≤ 1048576) (hpl : pileB p.data.toList = true) :
    Calls Tryd.prog 25 #[.string p, .string s] w fun e w' => e = .returned (.bool b) ∧ Below w.heap.size w w' := by
  have := implCanMake_any p s w hp hs
  rw [canB_yes hpl (long_word hl)] at this
  rw [← h]
  exact this
theorem validPile_on {p : ByteArray} {b : Bool} (h : pileB p.data.toList = b) (w : World) (hp : p.size ≤ 1048576) : Calls Tryd.prog 22 #[.string p] w fun e w' => e = .returned (.bool b) ∧ Below w.heap.size w w' := by
  rw [← h]; exact implValidPile_any p w hp
theorem WordsFrom_tells {g : Nat} {s : ByteArray} {us : List ByteArray} (W : World) (hg : Blk W g 9 #[.string s]) (hok : okL us = true) (hs : s.size ≤ 1048576) (hpl : pileB s.data.toList = true) : Tells 24 g W us (canQ s) := by
  intro k hk wr hb
  have c0 := (hg.kept hb hg.lt).cells
  have HS := ShE.mk (long_small hok hk).2
  have HLW := ShE.mk (long_small hok hk).1
  obtain ⟨y, hy⟩ : ∃ y, strAt us k = y := ⟨_, rfl⟩
  rw [hy] at HS HLW ⊢
  go_enter Tryd.func24, Tryd.ntmps24
  go_wp2_with fail
  refine (canMake_on rfl _ hs HLW.out HS.out hpl).mono ?_
  rintro e w' ⟨rfl, hb'⟩
  go_wp2
  go_ret
  exact ⟨rfl, hb'⟩
theorem WordsFrom_enters : ∀ args w, (callFunc 24 args).run Tryd.prog w = .ok (.enter 24 args) w := enters_of Tryd.func24 (by kernel_rfl) rfl
set_option maxRecDepth 100000 in
set_option maxHeartbeats 2000000 in
theorem implWordsFrom_any {v : Value} {us : List ByteArray} (s : ByteArray) (W : World) (hu : Strs W v us) (hz : ∀ s ∈ us, s.size ≤ maxLen) (hs : s.size ≤ 1048576) :
    Calls Tryd.prog 8 #[.agg #[v], .string s] W fun e w' => ∃ v0, e = retS v0 (fromOut us s).2 ∧ OwnS W.heap.size w' v0 (fromOut us s).1 ∧ Below W.heap.size W w' := by
  have HG := ShE.mk ((LexAt.made hu).belowG ((Below.refl _ _).alloc (Nat.le_refl _) (.cells #[.string s] 9)))
  have hg := Blk.made (W.alloc (.cells #[v] 26)) 9 #[.string s]
  rw [World.size_alloc] at hg
  have HS := ShE.mk hg
  have HB := ShE.mk (((Below.refl W.heap.size W).alloc (Nat.le_refl _) (.cells #[v] 26)).alloc (by simp) (.cells #[.string s] 9))
  have c0 := HG.out.blk.cells
  have c1 := HS.out.cells
  clear hg
  cases hok : okL us
  · have HA := ShE.mk (show fromOut us s = ([], 1) from fromOut_bad hok)
    have HO := ShE.mk hok
    clear hok
    go_enter Tryd.func8, Tryd.ntmps8
    go_wp2_with fail
    refine (valid_on HO.out _ HG.out.strs hz).mono ?_
    rintro e w1 ⟨rfl, hb1⟩
    go_wp2
    go_ret2
    rw [HA.out]
    exact ⟨_, rfl, OwnS.voidG _ _, HB.out.trans (hb1.mono HB.out.size)⟩
  · have HO := ShE.mk hok
    cases hpl : pileB s.data.toList
    · have HA := ShE.mk (show fromOut us s = ([], 2) from fromOut_pile hok hpl)
      have HP := ShE.mk hpl
      clear hok hpl
      go_enter Tryd.func8, Tryd.ntmps8
      go_wp2_with fail
      refine (valid_on HO.out _ HG.out.strs hz).mono ?_
      rintro e w1 ⟨rfl, hb1⟩
      have HB1 := ShE.mk (HB.out.trans (hb1.mono HB.out.size))
      have c2 := (HS.out.kept hb1 HS.out.lt).cells
      clear c0 c1 hb1
      go_wp2_with fail
      refine (validPile_on HP.out _ hs).mono ?_
      rintro e w2 ⟨rfl, hb2⟩
      go_wp2
      go_ret2
      rw [HA.out]
      exact ⟨_, rfl, OwnS.voidG _ _, HB1.out.trans (hb2.mono HB1.out.size)⟩
    · have HA := ShE.mk (show fromOut us s = (pickTo (canQ s) us us.length, 0) from fromOut_yes hok hpl)
      have HP := ShE.mk hpl
      have hn := okL_size hok
      clear hok hpl
      go_enter Tryd.func8, Tryd.ntmps8
      go_wp2_with fail
      refine (valid_on HO.out _ HG.out.strs hz).mono ?_
      rintro e w1 ⟨rfl, hb1⟩
      have HB1 := ShE.mk (HB.out.trans (hb1.mono HB.out.size))
      have HS1 := ShE.mk (HS.out.kept hb1 HS.out.lt)
      have HG1 := ShE.mk (HG.out.belowG hb1)
      have c2 := HS1.out.cells
      clear c0 c1 hb1
      go_wp2_with fail
      refine (validPile_on HP.out _ hs).mono ?_
      rintro e w2 ⟨rfl, hb2⟩
      have HB2 := ShE.mk (HB1.out.trans (hb2.mono HB1.out.size))
      have HS2 := ShE.mk (HS1.out.kept hb2 HS1.out.lt)
      have HG2 := ShE.mk (HG1.out.belowG hb2)
      have c3 := HG2.out.blk.cells
      clear c2 hb2
      go_wp2_with fail
      refine (wordsWith_any _ HG2.out.strs hn WordsFrom_enters (WordsFrom_tells _ HS2.out HO.out hs HP.out)).mono ?_
      rintro e w3 ⟨v0, rfl, ho, hb3⟩
      have HO3 := ShE.mk (OwnS.lower ho HB2.out.size)
      obtain ⟨a5, c5, rfl, -, -, -⟩ := own_form ho
      clear ho
      go_wp2
      go_ret2
      rw [HA.out]
      exact ⟨_, rfl, HO3.out, HB2.out.trans (hb3.mono HB2.out.size)⟩
end Go.Proofs.YtdleinognmdfmaaDoor
