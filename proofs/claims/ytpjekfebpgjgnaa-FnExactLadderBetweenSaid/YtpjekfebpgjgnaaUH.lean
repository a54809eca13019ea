/-
  The words of a lexicon that match a pattern, or are near a word: the model's functions.
-/
import Derived.Test.YtpjekfebpgjgnaaUB
import Derived.Test.YtpjekfebpgjgnaaUE
import Derived.Test.YtpjekfebpgjgnaaLM
namespace Go.Proofs.Ytpjekfebpgjgnaa
open Go.RowKit Go.Lib

/-- The words that are wanted, or a code. -/
def wantOut (q : ByteArray → Bool) (us : List ByteArray) (c : Int) : List ByteArray × Int := if c = 0 then (pickTo q us us.length, 0) else ([], c)
theorem wantOut_bad {q : ByteArray → Bool} {us : List ByteArray} {c : Int} (h : ¬ c = 0) : wantOut q us c = ([], c) := if_neg h
theorem wantOut_yes {q : ByteArray → Bool} {us : List ByteArray} : wantOut q us 0 = (pickTo q us us.length, 0) := if_pos rfl
theorem wantOut_len (q : ByteArray → Bool) (us : List ByteArray) (c : Int) : (wantOut q us c).1.length ≤ us.length := by
  unfold wantOut
  have := pickTo_len q us us.length
  split
  all_goals simp
  omega
theorem codeW_cases (us : List ByteArray) (s : ByteArray) : codeW us s = 0 ∨ ¬ codeW us s = 0 := by omega
theorem codeW_ok {us : List ByteArray} {s : ByteArray} (h : codeW us s = 0) : okL us = true ∧ isWordB s.data.toList = true := by
  unfold codeW at h
  split at h
  · cases h
  · split at h
    · cases h
    · rename_i h1 h2
      exact ⟨by simpa using h1, by simpa using h2⟩
theorem long_all {us : List ByteArray} (h : okL us = true) (k : Nat) (hk : k < us.length) : (strAt us k).size ≤ 1048576 := (long_small h hk).2
def codeP (us : List ByteArray) (p : ByteArray) : Int := if okL us = false then 1 else if okP p = false then 7 else 0
theorem codeP_bad {us : List ByteArray} {s : ByteArray} (h : okL us = false) : codeP us s = 1 := by simp [codeP, h]
theorem codeP_pat {us : List ByteArray} {s : ByteArray} (h : okL us = true) (h2 : okP s = false) : codeP us s = 7 := by simp [codeP, h, h2]
theorem codeP_yes {us : List ByteArray} {s : ByteArray} (h : okL us = true) (h2 : okP s = true) : codeP us s = 0 := by simp [codeP, h, h2]
theorem less_is {a b : ByteArray} {t : Bool} (h : lessS a b = t) (w : World) (ha : a.size ≤ 1048576) (hb : b.size ≤ 1048576) : Calls Try.prog 90 #[.string a, .string b] w fun e w' => e = .returned (.bool t) ∧ ∃ k, w' = w.drewN k := by
  rw [← h]; exact l10Less_any a b w ha hb
theorem near_is {a b : ByteArray} {t : Bool} (h : nearS a b = t) (w : World) (ha : a.size ≤ 1048576) (hb : b.size ≤ 1048576) : Calls Try.prog 97 #[.string a, .string b] w fun e w' => e = .returned (.bool t) ∧ ∃ k, w' = w.drewN k := by
  rw [← h]; exact l10Near_any a b w ha hb
set_option maxRecDepth 100000 in
set_option maxHeartbeats 2000000 in
theorem specDropsOf_any {v : Value} {us : List ByteArray} (s : ByteArray) (W : World) (hu : Strs W v us) (hz : ∀ s ∈ us, s.size ≤ maxLen) (hs : s.size ≤ 1048576) :
    Calls Try.prog 39 #[.agg #[v], .string s] W fun e w' => ∃ v0, e = retS v0 (wantOut (fun x => lessS x s) us (codeW us s)).2 ∧ Strs w' v0 (wantOut (fun x => lessS x s) us (codeW us s)).1 ∧ Below W.heap.size W w' := by
  have hul := hu.len
  have HG := ShE.mk (LexAt.made hu)
  have c0 := HG.out.blk.cells
  have HB := ShE.mk ((Below.refl W.heap.size W).alloc (Nat.le_refl _) (.cells #[v] 26))
  obtain ⟨aa, ac, rfl, -, -, hc⟩ := hu
  obtain ⟨c, hcw⟩ : ∃ c, codeW us s = c := ⟨_, rfl⟩
  have HCW := ShE.mk hcw
  by_cases hc0 : c = 0
  · subst hc0
    obtain ⟨hok, hwd⟩ := codeW_ok hcw
    have HA := ShE.mk (show wantOut (fun x => lessS x s) us (codeW us s) = (pickTo (fun x => lessS x s) us us.length, 0) by rw [hcw]; exact wantOut_yes)
    obtain ⟨q, hq0⟩ : ∃ q : ByteArray → Bool, (fun x => lessS x s) = q := ⟨_, rfl⟩
    have HQ0 := ShE.mk (fun x => show q x = (fun x => lessS x s) x by rw [← hq0])
    rw [hq0] at HA ⊢
    have HLS := ShE.mk (long_all hok)
    have HLN := ShE.mk (pickTo_len q us)
    have hn := okL_size hok
    clear hok hwd hcw hq0
    go_enter Try.func39, Try.ntmps39
    go_wp2_with fail
    refine (code_is HCW.out _ HG.out hz hs).mono ?_
    rintro e w2 ⟨rfl, k, hw1⟩
    have HG2 := ShE.mk (show LexAt w2 W.heap.size _ us by rw [hw1]; exact HG.out.drewN k)
    have HB2 := ShE.mk (show Below W.heap.size W w2 by rw [hw1]; exact below_drewN HB.out k)
    have HC := ShE.mk HG2.out.strs
    clear c0 hw1
    go_wp2
    go_loopw [7, 8] (fun x i wr => ∃ k : Nat, k ≤ us.length ∧ i = .int .i64 k ∧ OwnS w2.heap.size wr x (pickTo q us k) ∧ Below w2.heap.size w2 wr) (fun _ i _ => us.length - (intOf i).toNat)
    case atStart => exact ⟨0, Nat.zero_le _, rfl, World.ownsRow_lit w2 _ 0 (Nat.le_refl _) (by unfold maxLen; omega) rfl, (Below.refl _ _).alloc (Nat.le_refl _) _⟩
    case round =>
      obtain ⟨k, hk, rfl, ho, hb⟩ := hrel
      have G := ShE.mk (HG2.out.belowG hb)
      have HO1 := ShE.mk ho
      have HBk := ShE.mk hb
      have c0 := G.out.blk.cells
      clear ho
      by_cases hlt : k < us.length
      · obtain ⟨a', cap', hv, -, -, hcc0⟩ := HC.out
        obtain ⟨b, off, ha, hbl, hcc⟩ := hcc0 (by omega)
        injection hv with hv1 _ hv3
        subst hv1
        subst hv3
        subst ha
        have ck := (hb.cell (p := ⟨b, off + k, none⟩) hbl).trans (hcc k hlt)
        have hls := HLS.out k hlt
        have hS := fun h => pickTo_skip (q := q) (us := us) hlt h
        have hM := fun h => pickTo_more (q := q) (us := us) hlt h
        obtain ⟨y, hy⟩ : ∃ y, strAt us k = y := ⟨_, rfl⟩
        rw [hy] at ck hls hS hM
        have HL := ShE.mk hls
        have HQY := ShE.mk (HQ0.out y)
        clear hcc hcc0 hy hls
        cases hq : q y
        · have HQ := ShE.mk (HQY.out.symm.trans hq)
          have HE := ShE.mk (hS hq)
          clear hS hM hq hb
          go_wp2_with fail
          refine (less_is HQ.out _ HL.out hs).mono ?_
          rintro e w3 ⟨rfl, k3, rfl⟩
          have HB3 := ShE.mk (below_drewN HBk.out k3)
          have HO3 := ShE.mk (show OwnS w2.heap.size (wr.drewN k3) _ (pickTo q us (k + 1)) by rw [HE.out]; exact OwnS.kept HO1.out (below_drewN (Below.refl _ _) k3))
          clear c0 ck
          go_wp2
          go_roundw
          case rel => exact ⟨k + 1, by omega, by go_num, HO3.out, HB3.out⟩
          case measure => simp [intOf]; omega
        · have HQ := ShE.mk (HQY.out.symm.trans hq)
          have HE := ShE.mk (hM hq)
          clear hS hM hq hb
          go_wp2_with fail
          refine (less_is HQ.out _ HL.out hs).mono ?_
          rintro e w3 ⟨rfl, k3, hw3⟩
          have HB3 := ShE.mk (show Below w2.heap.size w2 w3 by rw [hw3]; exact below_drewN HBk.out k3)
          have HO3 := ShE.mk (show OwnS w2.heap.size w3 _ (pickTo q us k) by rw [hw3]; exact OwnS.kept HO1.out (below_drewN (Below.refl _ _) k3))
          have c3 := (show LexAt w3 _ _ us by rw [hw3]; exact G.out.drewN k3).blk.cells
          have ck3 : w3.cell? ⟨b, off + k, none⟩ = some (.string y) := by rw [hw3]; exact ck
          clear c0 ck hw3
          go_wp2_with (at_builtin; refine wpList_append_strs rfl _ _ rfl rfl rfl (OwnS.kept HO3.out ((Below.refl _ _).alloc (Nat.le_refl _) _)) (Strs.made1 _ y) (by have := HLN.out k; simp; omega) (by have := HB3.out.size; simp; omega) ?_)
          intro v' w4 ho4 hg4
          have HB4 := ShE.mk ((HB3.out.alloc HB3.out.size (.cells #[.string y] 9)).grown hg4 (by have := HB3.out.size; simp; omega) (OwnS.block HO3.out))
          have HO4 := ShE.mk (show OwnS w2.heap.size w4 v' (pickTo q us (k + 1)) by rw [HE.out]; exact ho4)
          clear ho4 hg4
          go_wp2
          go_roundw
          case rel => exact ⟨k + 1, by omega, by go_num, HO4.out, HB4.out⟩
          case measure => simp [intOf]; omega
      · obtain rfl : k = us.length := by omega
        go_wp2
        go_ret2
        rw [HA.out]
        exact ⟨_, rfl, HO1.out.strs, HB2.out.trans (HBk.out.mono HB2.out.size)⟩
  · have HA := ShE.mk (show wantOut (fun x => lessS x s) us (codeW us s) = ([], c) by rw [hcw]; exact wantOut_bad hc0)
    have hcb : (c != 0) = true := bne_iff_ne.2 hc0
    clear hcw hc0
    go_enter Try.func39, Try.ntmps39
    go_wp2_with fail
    refine (code_is HCW.out _ HG.out hz hs).mono ?_
    rintro e w2 ⟨rfl, k, rfl⟩
    go_wp2
    go_ret2
    rw [HA.out]
    exact ⟨_, rfl, Strs.void _ _ (Nat.zero_le _), below_drewN HB.out k⟩
set_option maxRecDepth 100000 in
set_option maxHeartbeats 2000000 in
theorem specInsertsOf_any {v : Value} {us : List ByteArray} (s : ByteArray) (W : World) (hu : Strs W v us) (hz : ∀ s ∈ us, s.size ≤ maxLen) (hs : s.size ≤ 1048576) :
    Calls Try.prog 38 #[.agg #[v], .string s] W fun e w' => ∃ v0, e = retS v0 (wantOut (fun x => lessS s x) us (codeW us s)).2 ∧ Strs w' v0 (wantOut (fun x => lessS s x) us (codeW us s)).1 ∧ Below W.heap.size W w' := by
  have hul := hu.len
  have HG := ShE.mk (LexAt.made hu)
  have c0 := HG.out.blk.cells
  have HB := ShE.mk ((Below.refl W.heap.size W).alloc (Nat.le_refl _) (.cells #[v] 26))
  obtain ⟨aa, ac, rfl, -, -, hc⟩ := hu
  obtain ⟨c, hcw⟩ : ∃ c, codeW us s = c := ⟨_, rfl⟩
  have HCW := ShE.mk hcw
  by_cases hc0 : c = 0
  · subst hc0
    obtain ⟨hok, hwd⟩ := codeW_ok hcw
    have HA := ShE.mk (show wantOut (fun x => lessS s x) us (codeW us s) = (pickTo (fun x => lessS s x) us us.length, 0) by rw [hcw]; exact wantOut_yes)
    obtain ⟨q, hq0⟩ : ∃ q : ByteArray → Bool, (fun x => lessS s x) = q := ⟨_, rfl⟩
    have HQ0 := ShE.mk (fun x => show q x = (fun x => lessS s x) x by rw [← hq0])
    rw [hq0] at HA ⊢
    have HLS := ShE.mk (long_all hok)
    have HLN := ShE.mk (pickTo_len q us)
    have hn := okL_size hok
    clear hok hwd hcw hq0
    go_enter Try.func38, Try.ntmps38
    go_wp2_with fail
    refine (code_is HCW.out _ HG.out hz hs).mono ?_
    rintro e w2 ⟨rfl, k, hw1⟩
    have HG2 := ShE.mk (show LexAt w2 W.heap.size _ us by rw [hw1]; exact HG.out.drewN k)
    have HB2 := ShE.mk (show Below W.heap.size W w2 by rw [hw1]; exact below_drewN HB.out k)
    have HC := ShE.mk HG2.out.strs
    clear c0 hw1
    go_wp2
    go_loopw [7, 8] (fun x i wr => ∃ k : Nat, k ≤ us.length ∧ i = .int .i64 k ∧ OwnS w2.heap.size wr x (pickTo q us k) ∧ Below w2.heap.size w2 wr) (fun _ i _ => us.length - (intOf i).toNat)
    case atStart => exact ⟨0, Nat.zero_le _, rfl, World.ownsRow_lit w2 _ 0 (Nat.le_refl _) (by unfold maxLen; omega) rfl, (Below.refl _ _).alloc (Nat.le_refl _) _⟩
    case round =>
      obtain ⟨k, hk, rfl, ho, hb⟩ := hrel
      have G := ShE.mk (HG2.out.belowG hb)
      have HO1 := ShE.mk ho
      have HBk := ShE.mk hb
      have c0 := G.out.blk.cells
      clear ho
      by_cases hlt : k < us.length
      · obtain ⟨a', cap', hv, -, -, hcc0⟩ := HC.out
        obtain ⟨b, off, ha, hbl, hcc⟩ := hcc0 (by omega)
        injection hv with hv1 _ hv3
        subst hv1
        subst hv3
        subst ha
        have ck := (hb.cell (p := ⟨b, off + k, none⟩) hbl).trans (hcc k hlt)
        have hls := HLS.out k hlt
        have hS := fun h => pickTo_skip (q := q) (us := us) hlt h
        have hM := fun h => pickTo_more (q := q) (us := us) hlt h
        obtain ⟨y, hy⟩ : ∃ y, strAt us k = y := ⟨_, rfl⟩
        rw [hy] at ck hls hS hM
        have HL := ShE.mk hls
        have HQY := ShE.mk (HQ0.out y)
        clear hcc hcc0 hy hls
        cases hq : q y
        · have HQ := ShE.mk (HQY.out.symm.trans hq)
          have HE := ShE.mk (hS hq)
          clear hS hM hq hb
          go_wp2_with fail
          refine (less_is HQ.out _ hs HL.out).mono ?_
          rintro e w3 ⟨rfl, k3, rfl⟩
          have HB3 := ShE.mk (below_drewN HBk.out k3)
          have HO3 := ShE.mk (show OwnS w2.heap.size (wr.drewN k3) _ (pickTo q us (k + 1)) by rw [HE.out]; exact OwnS.kept HO1.out (below_drewN (Below.refl _ _) k3))
          clear c0 ck
          go_wp2
          go_roundw
          case rel => exact ⟨k + 1, by omega, by go_num, HO3.out, HB3.out⟩
          case measure => simp [intOf]; omega
        · have HQ := ShE.mk (HQY.out.symm.trans hq)
          have HE := ShE.mk (hM hq)
          clear hS hM hq hb
          go_wp2_with fail
          refine (less_is HQ.out _ hs HL.out).mono ?_
          rintro e w3 ⟨rfl, k3, hw3⟩
          have HB3 := ShE.mk (show Below w2.heap.size w2 w3 by rw [hw3]; exact below_drewN HBk.out k3)
          have HO3 := ShE.mk (show OwnS w2.heap.size w3 _ (pickTo q us k) by rw [hw3]; exact OwnS.kept HO1.out (below_drewN (Below.refl _ _) k3))
          have c3 := (show LexAt w3 _ _ us by rw [hw3]; exact G.out.drewN k3).blk.cells
          have ck3 : w3.cell? ⟨b, off + k, none⟩ = some (.string y) := by rw [hw3]; exact ck
          clear c0 ck hw3
          go_wp2_with (at_builtin; refine wpList_append_strs rfl _ _ rfl rfl rfl (OwnS.kept HO3.out ((Below.refl _ _).alloc (Nat.le_refl _) _)) (Strs.made1 _ y) (by have := HLN.out k; simp; omega) (by have := HB3.out.size; simp; omega) ?_)
          intro v' w4 ho4 hg4
          have HB4 := ShE.mk ((HB3.out.alloc HB3.out.size (.cells #[.string y] 9)).grown hg4 (by have := HB3.out.size; simp; omega) (OwnS.block HO3.out))
          have HO4 := ShE.mk (show OwnS w2.heap.size w4 v' (pickTo q us (k + 1)) by rw [HE.out]; exact ho4)
          clear ho4 hg4
          go_wp2
          go_roundw
          case rel => exact ⟨k + 1, by omega, by go_num, HO4.out, HB4.out⟩
          case measure => simp [intOf]; omega
      · obtain rfl : k = us.length := by omega
        go_wp2
        go_ret2
        rw [HA.out]
        exact ⟨_, rfl, HO1.out.strs, HB2.out.trans (HBk.out.mono HB2.out.size)⟩
  · have HA := ShE.mk (show wantOut (fun x => lessS s x) us (codeW us s) = ([], c) by rw [hcw]; exact wantOut_bad hc0)
    have hcb : (c != 0) = true := bne_iff_ne.2 hc0
    clear hcw hc0
    go_enter Try.func38, Try.ntmps38
    go_wp2_with fail
    refine (code_is HCW.out _ HG.out hz hs).mono ?_
    rintro e w2 ⟨rfl, k, rfl⟩
    go_wp2
    go_ret2
    rw [HA.out]
    exact ⟨_, rfl, Strs.void _ _ (Nat.zero_le _), below_drewN HB.out k⟩
set_option maxRecDepth 100000 in
set_option maxHeartbeats 2000000 in
theorem specWordsMatching_any {v : Value} {us : List ByteArray} (s : ByteArray) (W : World) (hu : Strs W v us) (hz : ∀ s ∈ us, s.size ≤ maxLen) (hs : s.size ≤ 1048576) :
    Calls Try.prog 22 #[.agg #[v], .string s] W fun e w' => ∃ v0, e = retS v0 (wantOut (fitsP s) us (codeP us s)).2 ∧ Strs w' v0 (wantOut (fitsP s) us (codeP us s)).1 ∧ Below W.heap.size W w' := by
  have hul := hu.len
  have HG := ShE.mk (LexAt.made hu)
  have c0 := HG.out.blk.cells
  have HB := ShE.mk ((Below.refl W.heap.size W).alloc (Nat.le_refl _) (.cells #[v] 26))
  have hsm : s.size ≤ maxLen := by unfold maxLen; omega
  obtain ⟨aa, ac, rfl, -, -, hc⟩ := hu
  cases hok : okL us
  · have HA := ShE.mk (show wantOut (fitsP s) us (codeP us s) = ([], 1) by rw [codeP_bad hok]; exact wantOut_bad (by decide))
    have HO := ShE.mk hok
    clear hok
    go_enter Try.func22, Try.ntmps22
    go_wp2_with fail
    refine (ok_is HO.out _ HG.out hz).mono ?_
    rintro e w1 ⟨rfl, k, rfl⟩
    go_wp2
    go_ret2
    rw [HA.out]
    exact ⟨_, rfl, Strs.void _ _ (Nat.zero_le _), below_drewN HB.out k⟩
  · have HO := ShE.mk hok
    cases hpl : okP s
    · have HA := ShE.mk (show wantOut (fitsP s) us (codeP us s) = ([], 7) by rw [codeP_pat hok hpl]; exact wantOut_bad (by decide))
      have HP := ShE.mk hpl
      clear hok hpl
      go_enter Try.func22, Try.ntmps22
      go_wp2_with fail
      refine (ok_is HO.out _ HG.out hz).mono ?_
      rintro e w1 ⟨rfl, k, hw1⟩
      have HB1 := ShE.mk (show Below W.heap.size W w1 by rw [hw1]; exact below_drewN HB.out k)
      clear c0 hw1
      go_wp2_with fail
      refine (okp_is HP.out _ hsm).mono ?_
      rintro e w2 ⟨rfl, rfl⟩
      go_wp2
      go_ret2
      rw [HA.out]
      exact ⟨_, rfl, Strs.void _ _ (Nat.zero_le _), HB1.out⟩
    · have HA := ShE.mk (show wantOut (fitsP s) us (codeP us s) = (pickTo (fitsP s) us us.length, 0) by rw [codeP_yes hok hpl]; exact wantOut_yes)
      have HP := ShE.mk hpl
      obtain ⟨q, hq0⟩ : ∃ q : ByteArray → Bool, fitsP s = q := ⟨_, rfl⟩
      have HQ0 := ShE.mk (fun x => show q x = fitsP s x by rw [← hq0])
      rw [hq0] at HA ⊢
      have HLS := ShE.mk (long_all hok)
      have HLN := ShE.mk (pickTo_len q us)
      have hn := okL_size hok
      clear hok hpl hq0
      go_enter Try.func22, Try.ntmps22
      go_wp2_with fail
      refine (ok_is HO.out _ HG.out hz).mono ?_
      rintro e w1 ⟨rfl, k, hw1⟩
      have HG1 := ShE.mk (show LexAt w1 W.heap.size _ us by rw [hw1]; exact HG.out.drewN k)
      have HB1 := ShE.mk (show Below W.heap.size W w1 by rw [hw1]; exact below_drewN HB.out k)
      clear c0 hw1
      go_wp2_with fail
      refine (okp_is HP.out _ hsm).mono ?_
      rintro e w2 ⟨rfl, hw2⟩
      have HG2 := ShE.mk (show LexAt w2 W.heap.size _ us by rw [hw2]; exact HG1.out)
      have HB2 := ShE.mk (show Below W.heap.size W w2 by rw [hw2]; exact HB1.out)
      have HC := ShE.mk HG2.out.strs
      clear hw2
      go_wp2
      go_loopw [6, 7] (fun x i wr => ∃ k : Nat, k ≤ us.length ∧ i = .int .i64 k ∧ OwnS w2.heap.size wr x (pickTo q us k) ∧ Below w2.heap.size w2 wr) (fun _ i _ => us.length - (intOf i).toNat)
      case atStart => exact ⟨0, Nat.zero_le _, rfl, World.ownsRow_lit w2 _ 0 (Nat.le_refl _) (by unfold maxLen; omega) rfl, (Below.refl _ _).alloc (Nat.le_refl _) _⟩
      case round =>
        obtain ⟨k, hk, rfl, ho, hb⟩ := hrel
        have G := ShE.mk (HG2.out.belowG hb)
        have HO1 := ShE.mk ho
        have HBk := ShE.mk hb
        have c0 := G.out.blk.cells
        clear ho
        by_cases hlt : k < us.length
        · obtain ⟨a', cap', hv, -, -, hcc0⟩ := HC.out
          obtain ⟨b, off, ha, hbl, hcc⟩ := hcc0 (by omega)
          injection hv with hv1 _ hv3
          subst hv1
          subst hv3
          subst ha
          have ck := (hb.cell (p := ⟨b, off + k, none⟩) hbl).trans (hcc k hlt)
          have hls := HLS.out k hlt
          have hS := fun h => pickTo_skip (q := q) (us := us) hlt h
          have hM := fun h => pickTo_more (q := q) (us := us) hlt h
          obtain ⟨y, hy⟩ : ∃ y, strAt us k = y := ⟨_, rfl⟩
          rw [hy] at ck hls hS hM
          have HL := ShE.mk hls
          have HQY := ShE.mk (HQ0.out y)
          clear hcc hcc0 hy hls
          cases hq : q y
          · have HQ := ShE.mk (HQY.out.symm.trans hq)
            have HE := ShE.mk (hS hq)
            clear hS hM hq hb
            go_wp2_with fail
            refine (fit_is HQ.out _ hs HL.out).mono ?_
            rintro e w3 ⟨rfl, k3, rfl⟩
            have HB3 := ShE.mk (below_drewN HBk.out k3)
            have HO3 := ShE.mk (show OwnS w2.heap.size (wr.drewN k3) _ (pickTo q us (k + 1)) by rw [HE.out]; exact OwnS.kept HO1.out (below_drewN (Below.refl _ _) k3))
            clear c0 ck
            go_wp2
            go_roundw
            case rel => exact ⟨k + 1, by omega, by go_num, HO3.out, HB3.out⟩
            case measure => simp [intOf]; omega
          · have HQ := ShE.mk (HQY.out.symm.trans hq)
            have HE := ShE.mk (hM hq)
            clear hS hM hq hb
            go_wp2_with fail
            refine (fit_is HQ.out _ hs HL.out).mono ?_
            rintro e w3 ⟨rfl, k3, hw3⟩
            have HB3 := ShE.mk (show Below w2.heap.size w2 w3 by rw [hw3]; exact below_drewN HBk.out k3)
            have HO3 := ShE.mk (show OwnS w2.heap.size w3 _ (pickTo q us k) by rw [hw3]; exact OwnS.kept HO1.out (below_drewN (Below.refl _ _) k3))
            have c3 := (show LexAt w3 _ _ us by rw [hw3]; exact G.out.drewN k3).blk.cells
            have ck3 : w3.cell? ⟨b, off + k, none⟩ = some (.string y) := by rw [hw3]; exact ck
            clear c0 ck hw3
            go_wp2_with (at_builtin; refine wpList_append_strs rfl _ _ rfl rfl rfl (OwnS.kept HO3.out ((Below.refl _ _).alloc (Nat.le_refl _) _)) (Strs.made1 _ y) (by have := HLN.out k; simp; omega) (by have := HB3.out.size; simp; omega) ?_)
            intro v' w4 ho4 hg4
            have HB4 := ShE.mk ((HB3.out.alloc HB3.out.size (.cells #[.string y] 9)).grown hg4 (by have := HB3.out.size; simp; omega) (OwnS.block HO3.out))
            have HO4 := ShE.mk (show OwnS w2.heap.size w4 v' (pickTo q us (k + 1)) by rw [HE.out]; exact ho4)
            clear ho4 hg4
            go_wp2
            go_roundw
            case rel => exact ⟨k + 1, by omega, by go_num, HO4.out, HB4.out⟩
            case measure => simp [intOf]; omega
        · obtain rfl : k = us.length := by omega
          go_wp2
          go_ret2
          rw [HA.out]
          exact ⟨_, rfl, HO1.out.strs, HB2.out.trans (HBk.out.mono HB2.out.size)⟩
set_option maxRecDepth 100000 in
set_option maxHeartbeats 2000000 in
theorem l10Changes_any {g : Nat} {v : Value} {us : List ByteArray} (s : ByteArray) (w2 : World) (hg : LexAt w2 g v us) (hok : okL us = true) (hs : s.size ≤ 1048576) :
    Calls Try.prog 125 #[.pointer (some ⟨g, 0, none⟩), .string s] w2 fun e w' => ∃ v0, e = .returned v0 ∧ OwnS w2.heap.size w' v0 (pickTo (fun x => nearS x s) us us.length) ∧ Below w2.heap.size w2 w' := by
  have hul := hg.strs.len
  have HG2 := ShE.mk hg
  have HC := ShE.mk hg.strs
  have HLS := ShE.mk (long_all hok)
  have hn := okL_size hok
  obtain ⟨aa, ac, rfl, -, -, hc⟩ := hg.strs
  obtain ⟨q, hq0⟩ : ∃ q : ByteArray → Bool, (fun x => nearS x s) = q := ⟨_, rfl⟩
  have HQ0 := ShE.mk (fun x => show q x = (fun x => nearS x s) x by rw [← hq0])
  rw [hq0]
  have HLN := ShE.mk (pickTo_len q us)
  clear hok hq0 hg hc
  go_enter Try.func125, Try.ntmps125
  go_wp2
  go_loopw [5, 6] (fun x i wr => ∃ k : Nat, k ≤ us.length ∧ i = .int .i64 k ∧ OwnS w2.heap.size wr x (pickTo q us k) ∧ Below w2.heap.size w2 wr) (fun _ i _ => us.length - (intOf i).toNat)
  case atStart => exact ⟨0, Nat.zero_le _, rfl, World.ownsRow_lit w2 _ 0 (Nat.le_refl _) (by unfold maxLen; omega) rfl, (Below.refl _ _).alloc (Nat.le_refl _) _⟩
  case round =>
    obtain ⟨k, hk, rfl, ho, hb⟩ := hrel
    have G := ShE.mk (HG2.out.belowG hb)
    have HO1 := ShE.mk ho
    have HBk := ShE.mk hb
    have c0 := G.out.blk.cells
    clear ho
    by_cases hlt : k < us.length
    · obtain ⟨a', cap', hv, -, -, hcc0⟩ := HC.out
      obtain ⟨b, off, ha, hbl, hcc⟩ := hcc0 (by omega)
      injection hv with hv1 _ hv3
      subst hv1
      subst hv3
      subst ha
      have ck := (hb.cell (p := ⟨b, off + k, none⟩) hbl).trans (hcc k hlt)
      have hls := HLS.out k hlt
      have hS := fun h => pickTo_skip (q := q) (us := us) hlt h
      have hM := fun h => pickTo_more (q := q) (us := us) hlt h
      obtain ⟨y, hy⟩ : ∃ y, strAt us k = y := ⟨_, rfl⟩
      rw [hy] at ck hls hS hM
      have HL := ShE.mk hls
      have HQY := ShE.mk (HQ0.out y)
      clear hcc hcc0 hy hls
      cases hq : q y
      · have HQ := ShE.mk (HQY.out.symm.trans hq)
        have HE := ShE.mk (hS hq)
        clear hS hM hq hb
        go_wp2_with fail
        refine (near_is HQ.out _ HL.out hs).mono ?_
        rintro e w3 ⟨rfl, k3, rfl⟩
        have HB3 := ShE.mk (below_drewN HBk.out k3)
        have HO3 := ShE.mk (show OwnS w2.heap.size (wr.drewN k3) _ (pickTo q us (k + 1)) by rw [HE.out]; exact OwnS.kept HO1.out (below_drewN (Below.refl _ _) k3))
        clear c0 ck
        go_wp2
        go_roundw
        case rel => exact ⟨k + 1, by omega, by go_num, HO3.out, HB3.out⟩
        case measure => simp [intOf]; omega
      · have HQ := ShE.mk (HQY.out.symm.trans hq)
        have HE := ShE.mk (hM hq)
        clear hS hM hq hb
        go_wp2_with fail
        refine (near_is HQ.out _ HL.out hs).mono ?_
        rintro e w3 ⟨rfl, k3, hw3⟩
        have HB3 := ShE.mk (show Below w2.heap.size w2 w3 by rw [hw3]; exact below_drewN HBk.out k3)
        have HO3 := ShE.mk (show OwnS w2.heap.size w3 _ (pickTo q us k) by rw [hw3]; exact OwnS.kept HO1.out (below_drewN (Below.refl _ _) k3))
        have c3 := (show LexAt w3 _ _ us by rw [hw3]; exact G.out.drewN k3).blk.cells
        have ck3 : w3.cell? ⟨b, off + k, none⟩ = some (.string y) := by rw [hw3]; exact ck
        clear c0 ck hw3
        go_wp2_with (at_builtin; refine wpList_append_strs rfl _ _ rfl rfl rfl (OwnS.kept HO3.out ((Below.refl _ _).alloc (Nat.le_refl _) _)) (Strs.made1 _ y) (by have := HLN.out k; simp; omega) (by have := HB3.out.size; simp; omega) ?_)
        intro v' w4 ho4 hg4
        have HB4 := ShE.mk ((HB3.out.alloc HB3.out.size (.cells #[.string y] 9)).grown hg4 (by have := HB3.out.size; simp; omega) (OwnS.block HO3.out))
        have HO4 := ShE.mk (show OwnS w2.heap.size w4 v' (pickTo q us (k + 1)) by rw [HE.out]; exact ho4)
        clear ho4 hg4
        go_wp2
        go_roundw
        case rel => exact ⟨k + 1, by omega, by go_num, HO4.out, HB4.out⟩
        case measure => simp [intOf]; omega
    · obtain rfl : k = us.length := by omega
      go_wp2
      go_ret
      exact ⟨_, rfl, HO1.out, HBk.out⟩
set_option maxRecDepth 100000 in
set_option maxHeartbeats 2000000 in
theorem specChangesOf_any {v : Value} {us : List ByteArray} (s : ByteArray) (W : World) (hu : Strs W v us) (hz : ∀ s ∈ us, s.size ≤ maxLen) (hs : s.size ≤ 1048576) :
    Calls Try.prog 61 #[.agg #[v], .string s] W fun e w' => ∃ v0, e = retS v0 (wantOut (fun x => nearS x s) us (codeW us s)).2 ∧ Strs w' v0 (wantOut (fun x => nearS x s) us (codeW us s)).1 ∧ Below W.heap.size W w' := by
  have hul := hu.len
  have HG := ShE.mk (LexAt.made hu)
  have c0 := HG.out.blk.cells
  have HB := ShE.mk ((Below.refl W.heap.size W).alloc (Nat.le_refl _) (.cells #[v] 26))
  obtain ⟨aa, ac, rfl, -, -, hc⟩ := hu
  obtain ⟨c, hcw⟩ : ∃ c, codeW us s = c := ⟨_, rfl⟩
  have HCW := ShE.mk hcw
  by_cases hc0 : c = 0
  · subst hc0
    obtain ⟨hok, hwd⟩ := codeW_ok hcw
    have HA := ShE.mk (show wantOut (fun x => nearS x s) us (codeW us s) = (pickTo (fun x => nearS x s) us us.length, 0) by rw [hcw]; exact wantOut_yes)
    have HO := ShE.mk hok
    clear hok hwd hcw
    go_enter Try.func61, Try.ntmps61
    go_wp2_with fail
    refine (code_is HCW.out _ HG.out hz hs).mono ?_
    rintro e w2 ⟨rfl, k, hw1⟩
    have HG2 := ShE.mk (show LexAt w2 W.heap.size _ us by rw [hw1]; exact HG.out.drewN k)
    have HB2 := ShE.mk (show Below W.heap.size W w2 by rw [hw1]; exact below_drewN HB.out k)
    clear c0 hw1
    go_wp2_with fail
    refine (l10Changes_any s _ HG2.out HO.out hs).mono ?_
    rintro e w3 ⟨v0, rfl, ho, hb3⟩
    have HO3 := ShE.mk ho
    obtain ⟨a5, c5, rfl, -, -, -⟩ := own_form ho
    clear ho
    go_wp2
    go_ret2
    rw [HA.out]
    exact ⟨_, rfl, HO3.out.strs, HB2.out.trans (hb3.mono HB2.out.size)⟩
  · have HA := ShE.mk (show wantOut (fun x => nearS x s) us (codeW us s) = ([], c) by rw [hcw]; exact wantOut_bad hc0)
    have hcb : (c != 0) = true := bne_iff_ne.2 hc0
    clear hcw hc0
    go_enter Try.func61, Try.ntmps61
    go_wp2_with fail
    refine (code_is HCW.out _ HG.out hz hs).mono ?_
    rintro e w2 ⟨rfl, k, rfl⟩
    go_wp2
    go_ret2
    rw [HA.out]
    exact ⟨_, rfl, Strs.void _ _ (Nat.zero_le _), below_drewN HB.out k⟩
end Go.Proofs.Ytpjekfebpgjgnaa
