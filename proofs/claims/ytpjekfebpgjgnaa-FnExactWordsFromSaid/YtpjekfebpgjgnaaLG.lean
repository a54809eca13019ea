/-
  The words that can be placed with some tiles: the model's WordsFrom.
-/
import Derived.Test.YtpjekfebpgjgnaaLP
import Derived.Test.YtpjekfebpgjgnaaO9
namespace Go.Proofs.Ytpjekfebpgjgnaa
open Go.RowKit Go.Lib

theorem l03Can_on {p s : ByteArray} {b : Bool} (h : canQ p s = b) (w : World) (hp : p.size ≤ 1048576) (hl : longB s = true) (hs : s.size ≤ 1048576) :
    Calls Try.prog 110 #[.string p, .string s] w fun e w' => e = .returned (.bool b) ∧ Below w.heap.size w w' := can_is h w hp hs (long_word hl)
set_option maxRecDepth 100000 in
set_option maxHeartbeats 1000000 in
theorem specWordsFrom_any {v : Value} {us : List ByteArray} (p : ByteArray) (W : World) (hu : Strs W v us) (hz : ∀ s ∈ us, s.size ≤ maxLen) (hp : p.size ≤ 1048576) :
    Calls Try.prog 49 #[.agg #[v], .string p] W fun e w' => ∃ v0, e = retS v0 (fromOut us p).2 ∧ Strs w' v0 (fromOut us p).1 ∧ Below W.heap.size W w' := by
  have hul := hu.len
  have HG := Shh.mk (LexAt.made hu)
  have c0 := HG.out.blk.cells
  have HB := Shh.mk ((Below.refl W.heap.size W).alloc (Nat.le_refl _) (.cells #[v] 26))
  obtain ⟨aa, ac, rfl, -, -, hc⟩ := hu
  cases hok : okL us
  · have HA := Shh.mk (fromOut_bad (p := p) hok)
    have HO := Shh.mk hok
    clear hok
    go_enter Try.func49, Try.ntmps49
    go_wp2_with fail
    refine (ok_is HO.out _ HG.out hz).mono ?_
    rintro e w1 ⟨rfl, k, rfl⟩
    go_wp2
    go_ret2
    rw [HA.out]
    exact ⟨_, rfl, Strs.void _ _ (Nat.zero_le _), below_drewN HB.out k⟩
  · have HO := Shh.mk hok
    cases hpl : pileB p.data.toList
    · have HA := Shh.mk (fromOut_pile hok hpl)
      have HP := Shh.mk hpl
      clear hok hpl
      go_enter Try.func49, Try.ntmps49
      go_wp2_with fail
      refine (ok_is HO.out _ HG.out hz).mono ?_
      rintro e w1 ⟨rfl, k, hw1⟩
      have HB1 := Shh.mk (show Below W.heap.size W w1 by rw [hw1]; exact below_drewN HB.out k)
      clear c0 hw1
      go_wp2_with fail
      refine (pile_is HP.out _ hp).mono ?_
      rintro e w2 ⟨rfl, hb2⟩
      go_wp2
      go_ret2
      rw [HA.out]
      exact ⟨_, rfl, Strs.void _ _ (Nat.zero_le _), HB1.out.trans (hb2.mono HB1.out.size)⟩
    · have HA := Shh.mk (fromOut_yes hok hpl)
      have HP := Shh.mk hpl
      have HLS := Shh.mk (fun (k : Nat) (hk : k < us.length) => long_small hok hk)
      have HLN := Shh.mk (pickTo_len (canQ p) us)
      have hn := okL_size hok
      clear hok hpl
      go_enter Try.func49, Try.ntmps49
      go_wp2_with fail
      refine (ok_is HO.out _ HG.out hz).mono ?_
      rintro e w1 ⟨rfl, k, hw1⟩
      have HG1 := Shh.mk (show LexAt w1 W.heap.size _ us by rw [hw1]; exact HG.out.drewN k)
      have HB1 := Shh.mk (show Below W.heap.size W w1 by rw [hw1]; exact below_drewN HB.out k)
      clear c0 hw1
      go_wp2_with fail
      refine (pile_is HP.out _ hp).mono ?_
      rintro e w2 ⟨rfl, hb2⟩
      have HG2 := Shh.mk (HG1.out.belowG hb2)
      have HB2 := Shh.mk (HB1.out.trans (hb2.mono HB1.out.size))
      have HC := Shh.mk HG2.out.strs
      clear hb2
      go_wp2
      go_loopw [6, 7] (fun x i wr => ∃ k : Nat, k ≤ us.length ∧ i = .int .i64 k ∧ OwnS w2.heap.size wr x (pickTo (canQ p) us k) ∧ Below w2.heap.size w2 wr) (fun _ i _ => us.length - (RowKit.intOf i).toNat)
      case atStart => exact ⟨0, Nat.zero_le _, rfl, World.ownsRow_lit w2 _ 0 (Nat.le_refl _) (by unfold maxLen; omega) rfl, (Below.refl _ _).alloc (Nat.le_refl _) _⟩
      case round =>
        obtain ⟨k, hk, rfl, ho, hb⟩ := hrel
        have G := Shh.mk (HG2.out.belowG hb)
        have HO1 := Shh.mk ho
        have HBk := Shh.mk hb
        have c0 := G.out.blk.cells
        clear ho
        by_cases hlt : k < us.length
        · obtain ⟨a', cap', hv, -, -, hcc0⟩ := HC.out
          obtain ⟨b, off, ha, hbl, hcc⟩ := hcc0 (by omega)
          injection hv with hv1 _ hv3
          subst hv1
          subst hv3
          subst ha
          have ck := (hb.cell (p := ⟨b, off + k, none⟩) hbl).trans (hcc k hlt)
          have hls := HLS.out k hlt
          have hS := fun h => pickTo_skip (q := canQ p) (us := us) hlt h
          have hM := fun h => pickTo_more (q := canQ p) (us := us) hlt h
          obtain ⟨y, hy⟩ : ∃ y, strAt us k = y := ⟨_, rfl⟩
          rw [hy] at ck hls hS hM
          have HL := Shh.mk hls
          clear hcc hcc0 hy hls
          cases hq : canQ p y
          · have HQ := Shh.mk hq
            have HE := Shh.mk (hS hq)
            clear hS hM hq hb
            go_wp2_with fail
            refine (l03Can_on HQ.out _ hp HL.out.1 HL.out.2).mono ?_
            rintro e w3 ⟨rfl, hb3⟩
            have HB3 := Shh.mk (HBk.out.trans (hb3.mono HBk.out.size))
            have HO3 := Shh.mk (show OwnS w2.heap.size w3 _ (pickTo (canQ p) us (k + 1)) by rw [HE.out]; exact OwnS.kept HO1.out hb3)
            clear hb3 c0 ck
            go_wp2
            go_roundw
            case rel => exact ⟨k + 1, by omega, by go_num, HO3.out, HB3.out⟩
            case measure => simp [RowKit.intOf]; omega
          · have HQ := Shh.mk hq
            have HE := Shh.mk (hM hq)
            clear hS hM hq hb
            go_wp2_with fail
            refine (l03Can_on HQ.out _ hp HL.out.1 HL.out.2).mono ?_
            rintro e w3 ⟨rfl, hb3⟩
            have HB3 := Shh.mk (HBk.out.trans (hb3.mono HBk.out.size))
            have HO3 := Shh.mk (OwnS.kept HO1.out hb3)
            have c3 := (G.out.belowG hb3).blk.cells
            have ck3 : w3.cell? ⟨b, off + k, none⟩ = some (.string y) := (hb3.cell (p := ⟨b, off + k, none⟩) (Nat.lt_of_lt_of_le hbl HBk.out.size)).trans ck
            clear hb3 c0 ck
            go_wp2_with (at_builtin; refine wpList_append_strs rfl _ _ rfl rfl rfl (OwnS.kept HO3.out ((Below.refl _ _).alloc (Nat.le_refl _) _)) (Strs.made1 _ y) (by have := HLN.out k; simp; omega) (by have := HB3.out.size; simp; omega) ?_)
            intro v' w4 ho4 hg4
            have HB4 := Shh.mk ((HB3.out.alloc HB3.out.size (.cells #[.string y] 9)).grown hg4 (by have := HB3.out.size; simp; omega) (OwnS.block HO3.out))
            have HO4 := Shh.mk (show OwnS w2.heap.size w4 v' (pickTo (canQ p) us (k + 1)) by rw [HE.out]; exact ho4)
            clear ho4 hg4
            go_wp2
            go_roundw
            case rel => exact ⟨k + 1, by omega, by go_num, HO4.out, HB4.out⟩
            case measure => simp [RowKit.intOf]; omega
        · obtain rfl : k = us.length := by omega
          go_wp2
          go_ret2
          rw [HA.out]
          exact ⟨_, rfl, HO1.out.strs, HB2.out.trans (HBk.out.mono HB2.out.size)⟩
end Go.Proofs.Ytpjekfebpgjgnaa
