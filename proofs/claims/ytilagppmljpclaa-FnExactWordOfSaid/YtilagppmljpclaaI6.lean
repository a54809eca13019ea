/-
  Derivations: whether a grammar has a derivation, the program's.
-/
import Derived.Test.YtilagppmljpclaaI5
namespace Go.Proofs.Ytilagppmljpclaa
open Go.RowKit

/-- The place of a stem, or -1. -/
def ixI (ss : List Stm) (word : ByteArray) (k : Nat) : Int := match stemIx ss word k with
  | none => -1
  | some i => (i : Int)
set_option maxRecDepth 100000 in
set_option maxHeartbeats 1000000 in
theorem indexStem_any {v u : Value} {ss : List Stm} {stem : ByteArray} {d : Nat} (W : World) (hs : Stms W v ss) (hd : Blk W d 50 #[.string stem, u]) :
    Calls Try.prog 130 #[v, .func (.func 131) #[] #[.pointer (some ⟨d, 0, none⟩)]] W fun e w' => e = .returned (.int .i64 (ixI ss stem ss.length)) ∧ Below W.heap.size W w' := by
  have hsl := hs.len
  have HD := Shh.mk hd
  obtain ⟨sa, sc, rfl, hsl1, hsm, hsc⟩ := hs
  have HCS := Shh.mk hsc
  clear hsc hd
  go_enter Try.func130, Try.ntmps130
  go_wp2
  go_loopw [5, 8] (fun _ i wr => ∃ k : Nat, k ≤ ss.length ∧ i = .int .i64 k ∧ Shh (stemIx ss stem k = none) ∧ Shh (Below W.heap.size W wr)) (fun _ i _ => ss.length - (intOf i).toNat)
  case atStart => exact ⟨0, Nat.zero_le _, rfl, ⟨rfl⟩, ⟨Below.refl _ _⟩⟩
  case round =>
    obtain ⟨k, hk, rfl, hn, hb⟩ := hrel
    by_cases hlt : k < ss.length
    · obtain ⟨bs, os, rfl, hbs, hcc⟩ := HCS.out (by omega)
      have ha := StmIs.below (hcc k hlt) hb.out hbs
      have HY := Shh.mk (fun h => stemIx_old (ss := ss) (word := stem) (i := k) hn.out h (k := ss.length) hlt)
      have HN := Shh.mk (fun h => stemIx_no (ss := ss) (word := stem) (k := k) hn.out h)
      obtain ⟨y, hy⟩ : ∃ y, stmG ss k = y := ⟨_, rfl⟩
      rw [hy] at ha HY HN
      obtain ⟨word, us⟩ := y
      obtain ⟨k0, u2, k1, hu⟩ := ha
      simp only at k0 k1 hu HY HN
      obtain ⟨ua, uc, rfl, -⟩ := hu
      have hD2 := Shh.mk (HD.out.kept hb.out HD.out.lt)
      clear hcc hy
      go_wp2_with fail
      refine (isDer1_any _ hD2.out ⟨_, _, _, rfl⟩).mono ?_
      cases hq : (word.toList == stem.toList)
      · have HNN := Shh.mk (HN.out hq)
        clear hq
        rintro e w1 ⟨rfl, hb1⟩
        have HB1 := Shh.mk (hb.out.trans (hb1.mono hb.out.size))
        clear hb1 k0 k1
        go_wp2
        go_roundw
        case rel => exact ⟨k + 1, by omega, by go_num, HNN, HB1⟩
        case measure => simp [intOf]; omega
      · have HR := Shh.mk (show ixI ss stem ss.length = (k : Int) by unfold ixI; rw [HY.out hq])
        clear hq
        rintro e w1 ⟨rfl, hb1⟩
        have HB1 := Shh.mk (hb.out.trans (hb1.mono hb.out.size))
        clear hb1 k0 k1
        go_wp2
        go_ret
        exact ⟨by rw [HR.out]; rfl, HB1.out⟩
    · obtain rfl : k = ss.length := by omega
      have HR := Shh.mk (show ixI ss stem ss.length = -1 by unfold ixI; rw [hn.out])
      go_wp2
      go_ret
      exact ⟨by rw [HR.out]; rfl, hb.out⟩

theorem okTo_no {u us : List ByteArray} {k : Nat} (hk : k < us.length) (h : okTo u us (k + 1) = false) : okTo u us us.length = false := by
  have : ∀ i, okTo u us (k + 1 + i) = false := by
    intro i
    induction i with
    | zero => exact h
    | succ i ih => rw [show k + 1 + (i + 1) = (k + 1 + i) + 1 by omega, okTo, ih, Bool.false_and]
  have h2 := this (us.length - (k + 1))
  rw [show k + 1 + (us.length - (k + 1)) = us.length by omega] at h2
  exact h2
set_option maxRecDepth 100000 in
set_option maxHeartbeats 4000000 in
theorem isDerivation_any {va vs v : Value} {xs : List Aff} {ss : List Stm} {stem : ByteArray} {us : List ByteArray} (W : World) (hg : Gram W va vs xs ss) (hu : Strs W v us) :
    Calls Try.prog 75 #[.agg #[va, vs], .agg #[.string stem, v]] W fun e w' => e = .returned (.bool (okD ss stem us)) ∧ Below W.heap.size W w' := by
  have hul := hu.len
  have hsl := hg.stms.len
  have HP := Shh.mk ((Blk.made W 48 #[va, vs]).alloc (.cells #[.string stem, v] 50))
  have hq := Blk.made (W.alloc (.cells #[va, vs] 48)) 50 #[.string stem, v]
  rw [World.size_alloc] at hq
  have HQ := Shh.mk hq
  have HB := Shh.mk (((Below.refl W.heap.size W).alloc (Nat.le_refl _) (.cells #[va, vs] 48)).alloc (by simp) (.cells #[.string stem, v] 50))
  have HG := Shh.mk ((hg.alloc (.cells #[va, vs] 48)).alloc (.cells #[.string stem, v] 50))
  have HU := Shh.mk ((hu.alloc (.cells #[va, vs] 48)).alloc (.cells #[.string stem, v] 50))
  have hp0 := HP.out.cells
  have hq0 := HQ.out.cells
  obtain ⟨⟨aa, ac, rfl, -, -, -⟩, ⟨sa, sc, rfl, -, -, -⟩⟩ := hg
  obtain ⟨ua, uc, rfl, -, -, -⟩ := hu
  clear hq
  cases hix : stemIx ss stem ss.length with
  | none =>
    have HI := Shh.mk (show ixI ss stem ss.length = -1 by unfold ixI; rw [hix])
    have HR := Shh.mk (okD_none (us := us) hix)
    clear hix
    go_enter Try.func75, Try.ntmps75
    go_wp2_with fail
    refine (indexStem_any _ HG.out.stms HQ.out).mono ?_
    rw [HI.out]
    rintro e w1 ⟨rfl, hb1⟩
    go_wp2
    go_ret
    exact ⟨ret_bool HR.out.symm, HB.out.trans (hb1.mono HB.out.size)⟩
  | some i' =>
    have HI := Shh.mk (show ixI ss stem ss.length = (i' : Int) by unfold ixI; rw [hix])
    have hR := okD_some (us := us) hix
    have hil := (stemIx_word hix).1
    have hi0 : ¬ (i' : Int) < 0 := by omega
    clear hix
    by_cases h2 : us.length ≤ 2
    · rw [decide_eq_true h2, Bool.true_and] at hR
      have HR := Shh.mk hR
      have h2i : ¬ (2 : Int) < (us.length : Int) := by omega
      clear hR
      go_enter Try.func75, Try.ntmps75
      go_wp2_with fail
      refine (indexStem_any _ HG.out.stms HQ.out).mono ?_
      rw [HI.out]
      rintro e w1 ⟨rfl, hb1⟩
      have HB1 := Shh.mk (HB.out.trans (hb1.mono HB.out.size))
      have HP1 := Shh.mk (HP.out.kept hb1 HP.out.lt)
      have HQ1 := Shh.mk (HQ.out.kept hb1 HQ.out.lt)
      have HG1 := Shh.mk (HG.out.below hb1)
      have HU1 := Shh.mk (HU.out.below hb1)
      have hp1 := HP1.out.cells
      have hq1 := HQ1.out.cells
      clear hb1 hp0 hq0
      go_wp2
      go_loopw [6, 7, 23] (fun _ _ i wr => ∃ k : Nat, k ≤ us.length ∧ i = .int .i64 k ∧ Shh (okTo (stmG ss i').uses us k = true) ∧ wr = w1) (fun _ _ i _ => us.length - (intOf i).toNat)
      case atStart => exact ⟨0, Nat.zero_le _, rfl, ⟨rfl⟩, rfl⟩
      case round =>
        obtain ⟨k, hk, rfl, ho, rfl⟩ := hrel
        by_cases hlt : k < us.length
        · obtain ⟨a', cap', hv, hcle, -, hcc0⟩ := HU1.out
          obtain ⟨bu, ou, hab, hbu, hcc⟩ := hcc0 (by omega)
          injection hv with hv1 _ hv3
          subst hv1
          subst hv3
          subst hab
          obtain ⟨a2, cap2, hv2, -, -, hcs0⟩ := HG1.out.stms
          obtain ⟨bs, os, hab2, hbs, hcs⟩ := hcs0 (by omega)
          injection hv2 with hw1 _ hw3
          subst hw1
          subst hw3
          subst hab2
          have ck := hcc k hlt
          obtain ⟨-, u, k1, hu⟩ := hcs i' hil
          have HUS := Shh.mk hu
          have HTK := Shh.mk (Strs.takeI HU1.out (k := k) (by omega))
          have HE := Shh.mk (inTo_take (us := us) (s := strAt us k) (k := k) (j := k) (Nat.le_refl _))
          have HSU : Shh (okTo (stmG ss i').uses us (k + 1) = (inTo (stmG ss i').uses (strAt us k) (stmG ss i').uses.length && !inTo us (strAt us k) k)) := ⟨by rw [okTo, ho.out, Bool.true_and]⟩
          have HNO := Shh.mk (fun (h : okTo (stmG ss i').uses us (k + 1) = false) => okTo_no (u := (stmG ss i').uses) hlt h)
          obtain ⟨us2, hus2⟩ : ∃ us2, (stmG ss i').uses = us2 := ⟨_, rfl⟩
          have HU2 := Shh.mk hus2
          rw [hus2] at HUS HSU HNO HR ho
          obtain ⟨y, hy⟩ : ∃ y, strAt us k = y := ⟨_, rfl⟩
          rw [hy] at ck HE HSU
          have hk0 : (0 : Int) ≤ (k : Int) := by omega
          have hkl : (k : Int) < (us.length : Int) := by omega
          have hkle : (k : Int) ≤ (uc : Int) := by omega
          have hii0 : (0 : Int) ≤ (i' : Int) := by omega
          have hiil : (i' : Int) < (ss.length : Int) := by omega
          obtain ⟨ua2, uc2, rfl, -, -, -⟩ := hu
          clear hcc hcc0 hcs hcs0 hus2 hy
          go_wp2_with fail
          refine (containsS_any y _ HUS.out).mono ?_
          cases hc1 : inTo us2 y us2.length
          · have HF := Shh.mk (HNO.out (by rw [HSU.out, hc1]; rfl))
            clear hc1
            rintro e w2 ⟨rfl, rfl⟩
            go_wp2
            go_ret
            exact ⟨ret_bool (by rw [HR.out, HF.out]), HB1.out⟩
          · have HC1 := Shh.mk hc1
            clear hc1
            rintro e w2 ⟨rfl, rfl⟩
            go_wp2_with fail
            refine (containsS_any y _ HTK.out).mono ?_
            rw [show inTo (us.take k) y (us.take k).length = inTo us y k by rw [List.length_take, Nat.min_eq_left (by omega)]; exact HE.out]
            cases hc2 : inTo us y k
            · have HN := Shh.mk (show okTo us2 us (k + 1) = true by rw [HSU.out, HC1.out, hc2]; rfl)
              clear hc2
              rintro e w3 ⟨rfl, rfl⟩
              go_wp2
              go_roundw
              case rel => exact ⟨k + 1, by omega, by go_num, by rw [HU2.out]; exact HN, by first | trivial | rfl⟩
              case measure => simp [intOf]; omega
            · have HF := Shh.mk (HNO.out (by rw [HSU.out, HC1.out, hc2]; rfl))
              clear hc2
              rintro e w3 ⟨rfl, rfl⟩
              go_wp2
              go_ret
              exact ⟨ret_bool (by rw [HR.out, HF.out]), HB1.out⟩
        · obtain rfl : k = us.length := by omega
          have HF := Shh.mk (ho.out)
          go_wp2
          go_ret
          exact ⟨ret_bool (by rw [HR.out, HF.out]), HB1.out⟩
    · rw [decide_eq_false h2, Bool.false_and] at hR
      have HR := Shh.mk hR
      have h2i : (2 : Int) < (us.length : Int) := by omega
      clear hR
      go_enter Try.func75, Try.ntmps75
      go_wp2_with fail
      refine (indexStem_any _ HG.out.stms HQ.out).mono ?_
      rw [HI.out]
      rintro e w1 ⟨rfl, hb1⟩
      have hq1 := (HQ.out.kept hb1 HQ.out.lt).cells
      clear hq0 hp0
      go_wp2
      go_ret
      exact ⟨ret_bool HR.out.symm, HB.out.trans (hb1.mono HB.out.size)⟩
end Go.Proofs.Ytilagppmljpclaa
