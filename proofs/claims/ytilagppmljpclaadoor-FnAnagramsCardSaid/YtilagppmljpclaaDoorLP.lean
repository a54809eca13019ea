/-
  The words that can be placed with some tiles: the program's WordsFrom.
-/
import Derived.Test.YtilagppmljpclaaDoorLM
import Derived.Test.YtilagppmljpclaaDoorOA
namespace Go.Proofs.YtilagppmljpclaaDoor
open Go.RowKit Go.Lib

def canQ (p x : ByteArray) : Bool := canL p.data.toList x.data.toList
def fromOut (us : List ByteArray) (p : ByteArray) : List ByteArray × Int :=
  if okL us = false then ([], 1) else if pileB p.data.toList = false then ([], 2) else (pickTo (canQ p) us us.length, 0)
theorem fromOut_bad {us : List ByteArray} {p : ByteArray} (h : okL us = false) : fromOut us p = ([], 1) := by simp [fromOut, h]
theorem fromOut_pile {us : List ByteArray} {p : ByteArray} (h : okL us = true) (h2 : pileB p.data.toList = false) : fromOut us p = ([], 2) := by simp [fromOut, h, h2]
theorem fromOut_yes {us : List ByteArray} {p : ByteArray} (h : okL us = true) (h2 : pileB p.data.toList = true) : fromOut us p = (pickTo (canQ p) us us.length, 0) := by simp [fromOut, h, h2]
theorem fromOut_len (us : List ByteArray) (p : ByteArray) : (fromOut us p).1.length ≤ us.length := by
  unfold fromOut
  have := pickTo_len (canQ p) us us.length
  repeat' split
  all_goals simp
  omega

theorem canMake_on {p s : ByteArray} {b : Bool} (h : canQ p s = b) (w : World) (hp : p.size ≤ 1048576) (hl : longB s = true) (hs : s.size ≤ 1048576) (hpl : pileB p.data.toList = true) :
    Calls Tryd.prog 23 #[.string p, .string s] w fun e w' => e = .returned (.bool b) ∧ Below w.heap.size w w' := by
  have := implCanMake_any p s w hp hs
  rw [canB_yes hpl (long_word hl)] at this
  rw [← h]
  exact this
theorem validPile_on {p : ByteArray} {b : Bool} (h : pileB p.data.toList = b) (w : World) (hp : p.size ≤ 1048576) : Calls Tryd.prog 22 #[.string p] w fun e w' => e = .returned (.bool b) ∧ Below w.heap.size w w' := by
  rw [← h]; exact implValidPile_any p w hp
set_option maxRecDepth 100000 in
set_option maxHeartbeats 1000000 in
theorem implWordsFrom_any {v : Value} {us : List ByteArray} (p : ByteArray) (W : World) (hu : Strs W v us) (hz : ∀ s ∈ us, s.size ≤ maxLen) (hp : p.size ≤ 1048576) :
    Calls Tryd.prog 8 #[.agg #[v], .string p] W fun e w' => ∃ v0, e = retS v0 (fromOut us p).2 ∧ OwnS W.heap.size w' v0 (fromOut us p).1 ∧ Below W.heap.size W w' := by
  have hul := hu.len
  have HG := Shh.mk (LexAt.made hu)
  have c0 := HG.out.blk.cells
  have HB := Shh.mk ((Below.refl W.heap.size W).alloc (Nat.le_refl _) (.cells #[v] 26))
  obtain ⟨aa, ac, rfl, -, -, hc⟩ := hu
  cases hok : okL us
  · have HA := Shh.mk (fromOut_bad (p := p) hok)
    have HO := Shh.mk hok
    clear hok
    go_enter Tryd.func8, Tryd.ntmps8
    go_wp2_with fail
    refine (valid_on HO.out _ HG.out.strs hz).mono ?_
    rintro e w1 ⟨rfl, hb1⟩
    go_wp2
    go_ret2
    rw [HA.out]
    exact ⟨_, rfl, OwnS.voidG _ _, HB.out.trans (hb1.mono HB.out.size)⟩
  · have HO := Shh.mk hok
    cases hpl : pileB p.data.toList
    · have HA := Shh.mk (fromOut_pile hok hpl)
      have HP := Shh.mk hpl
      clear hok hpl
      go_enter Tryd.func8, Tryd.ntmps8
      go_wp2_with fail
      refine (valid_on HO.out _ HG.out.strs hz).mono ?_
      rintro e w1 ⟨rfl, hb1⟩
      have HB1 := Shh.mk (HB.out.trans (hb1.mono HB.out.size))
      clear c0 hb1
      go_wp2_with fail
      refine (validPile_on HP.out _ hp).mono ?_
      rintro e w2 ⟨rfl, hb2⟩
      go_wp2
      go_ret2
      rw [HA.out]
      exact ⟨_, rfl, OwnS.voidG _ _, HB1.out.trans (hb2.mono HB1.out.size)⟩
    · have HA := Shh.mk (fromOut_yes hok hpl)
      have HP := Shh.mk hpl
      have HLS := Shh.mk (fun (k : Nat) (hk : k < us.length) => long_small hok hk)
      have HLN := Shh.mk (pickTo_len (canQ p) us)
      have hn := okL_size hok
      clear hok hpl
      go_enter Tryd.func8, Tryd.ntmps8
      go_wp2_with fail
      refine (valid_on HO.out _ HG.out.strs hz).mono ?_
      rintro e w1 ⟨rfl, hb1⟩
      have HG1 := Shh.mk (HG.out.belowG hb1)
      have HB1 := Shh.mk (HB.out.trans (hb1.mono HB.out.size))
      clear c0 hb1
      go_wp2_with fail
      refine (validPile_on HP.out _ hp).mono ?_
      rintro e w2 ⟨rfl, hb2⟩
      have HG2 := Shh.mk (HG1.out.belowG hb2)
      have HB2 := Shh.mk (HB1.out.trans (hb2.mono HB1.out.size))
      have HC := Shh.mk HG2.out.strs
      have c0 := HG2.out.blk.cells
      clear hb2
      go_wp2
      go_loopw [6, 8, 18] (fun x _ i wr => ∃ k : Nat, k ≤ us.length ∧ i = .int .i64 k ∧ OwnS w2.heap.size wr x (pickTo (canQ p) us k) ∧ Below w2.heap.size w2 wr) (fun _ _ i _ => us.length - (intOf i).toNat)
      case atStart => exact ⟨0, Nat.zero_le _, rfl, OwnS.voidG _ _, Below.refl _ _⟩
      case round =>
        obtain ⟨k, hk, rfl, ho, hb⟩ := hrel
        have HO1 := Shh.mk ho
        have HBk := Shh.mk hb
        clear ho c0
        by_cases hlt : k < us.length
        · obtain ⟨a', cap', hv, -, -, hcc0⟩ := HC.out
          obtain ⟨b, off, ha, hbl, hcc⟩ := hcc0 (by omega)
          injection hv with hv1 _ hv3
          subst hv1
          subst hv3
          subst ha
          have ck := (hb.cell (p := ⟨b, off + k, none⟩) hbl).trans (hcc k hlt)
          have hls := HLS.out k hlt
          have hS := fun h => pickTo_skip (q := canQ p) (us := us) hlt h
          have hM := fun h => pickTo_more (q := canQ p) (us := us) hlt h
          obtain ⟨y, hy⟩ : ∃ y, strAt us k = y := ⟨_, rfl⟩
          rw [hy] at ck hls hS hM
          have HL := Shh.mk hls
          clear hcc hcc0 hy hls
          cases hq : canQ p y
          · have HQ := Shh.mk hq
            have HE := Shh.mk (hS hq)
            clear hS hM hq hb
            go_wp2_with fail
            refine (canMake_on HQ.out _ hp HL.out.1 HL.out.2 HP.out).mono ?_
            rintro e w3 ⟨rfl, hb3⟩
            have HB3 := Shh.mk (HBk.out.trans (hb3.mono HBk.out.size))
            have HO3 := Shh.mk (show OwnS w2.heap.size w3 _ (pickTo (canQ p) us (k + 1)) by rw [HE.out]; exact OwnS.kept HO1.out hb3)
            clear hb3 ck
            go_wp2
            go_roundw
            case rel => exact ⟨k + 1, by omega, by go_num, HO3.out, HB3.out⟩
            case measure => simp [intOf]; omega
          · have HQ := Shh.mk hq
            have HE := Shh.mk (hM hq)
            clear hS hM hq hb
            go_wp2_with fail
            refine (canMake_on HQ.out _ hp HL.out.1 HL.out.2 HP.out).mono ?_
            rintro e w3 ⟨rfl, hb3⟩
            have HB3 := Shh.mk (HBk.out.trans (hb3.mono HBk.out.size))
            have HO3 := Shh.mk (OwnS.kept HO1.out hb3)
            clear hb3 ck
            go_wp2_with (at_builtin; refine wpList_append_strs rfl _ _ rfl rfl rfl (OwnS.kept HO3.out ((Below.refl _ _).alloc (Nat.le_refl _) _)) (Strs.made1 _ y) (by have := HLN.out k; simp; omega) (by have := HB3.out.size; simp; omega) ?_)
            intro v' w4 ho4 hg4
            have HB4 := Shh.mk ((HB3.out.alloc HB3.out.size (.cells #[.string y] 9)).grown hg4 (by have := HB3.out.size; simp; omega) (OwnS.block HO3.out))
            have HO4 := Shh.mk (show OwnS w2.heap.size w4 v' (pickTo (canQ p) us (k + 1)) by rw [HE.out]; exact ho4)
            clear ho4 hg4
            go_wp2
            go_roundw
            case rel => exact ⟨k + 1, by omega, by go_num, HO4.out, HB4.out⟩
            case measure => simp [intOf]; omega
        · obtain rfl : k = us.length := by omega
          go_wp2
          go_ret2
          rw [HA.out]
          exact ⟨_, rfl, OwnS.lower HO1.out HB2.out.size, HB2.out.trans (HBk.out.mono HB2.out.size)⟩
end Go.Proofs.YtilagppmljpclaaDoor
