/-
  The word of a derivation: the program's.
-/
import Derived.Test.YtilagppmljpclaaI8
import Derived.Test.YtilagppmljpclaaHG
import Derived.Test.YtilagppmljpclaaHF
import Derived.Deep.RegionHeld3
namespace Go.Proofs.Ytilagppmljpclaa
open Go.RowKit Go.Lib

theorem names_of {xs : List Aff} {ss : List Stm} (h : okG xs ss = true) : Names xs ∧ Shortish xs ∧ xs.length ≤ 1000 := by
  have h1 := (okG_split h).1
  have h2 : ∀ k, k < xs.length → affB (affG xs k).n (affG xs k).w (affG xs k).s (affG xs k).a = true ∧ freshB xs k = true := fun k hk => by
    have := h1 k hk
    unfold okA at this
    rw [Bool.and_eq_true] at this
    exact this
  refine ⟨⟨fun k hk => (h2 k hk).2, fun k hk => ?_⟩, ⟨fun k hk => ?_, fun k hk => ?_⟩, ?_⟩
  · have h3 := (h2 k hk).1
    simp only [affB, Bool.and_eq_true] at h3
    have h4 := h3.1.1.1.1
    simp only [isNameB, Bool.and_eq_true, decide_eq_true_eq] at h4
    have := h4.1.2
    rw [Array.length_toList] at this
    unfold maxLen
    exact Nat.le_trans this (by decide)
  · have h3 := (h2 k hk).1
    simp only [affB, Bool.and_eq_true] at h3
    have := partB_size h3.1.1.1.2
    unfold maxLen
    omega
  · have h3 := (h2 k hk).1
    simp only [affB, Bool.and_eq_true] at h3
    have := partB_size h3.1.2
    omega
  · rcases Nat.lt_or_ge 12 xs.length with h3 | h3
    · rw [okG_len (fun e => by omega)] at h; cases h
    · omega
theorem okD_two {ss : List Stm} {stem : ByteArray} {us : List ByteArray} (h : okD ss stem us = true) : us.length ≤ 2 := by
  unfold okD at h
  split at h
  · cases h
  · rw [Bool.and_eq_true, decide_eq_true_eq] at h
    exact h.1
theorem validG_is {va vs : Value} {xs : List Aff} {ss : List Stm} {b : Bool} (h : okG xs ss = b) (W : World) (hg : Gram W va vs xs ss) (hx : ∀ x ∈ xs, AffFine x) (hs : ∀ x ∈ ss, StmFine x) :
    Calls Try.prog 74 #[.agg #[va, vs]] W fun e w' => e = .returned (.bool b) ∧ Below W.heap.size W w' := by rw [← h]; exact implValidGrammar_any W hg hx hs
theorem isDer_is {va vs v : Value} {xs : List Aff} {ss : List Stm} {stem : ByteArray} {us : List ByteArray} {b : Bool} (h : okD ss stem us = b) (W : World) (hg : Gram W va vs xs ss) (hu : Strs W v us) :
    Calls Try.prog 75 #[.agg #[va, vs], .agg #[.string stem, v]] W fun e w' => e = .returned (.bool b) ∧ Below W.heap.size W w' := by rw [← h]; exact isDerivation_any W hg hu
theorem steps_on {va vs : Value} {xs : List Aff} {ss : List Stm} (a w : World) (hb : Below a.heap.size a w) (hg : Gram a va vs xs ss) (hn : Names xs) (hx : xs.length ≤ 1000) :
    Calls Try.prog 77 #[.agg #[va, vs]] w fun e w' => ∃ b n D, e = .returned (.map (some b)) ∧ Steps w' b n D xs xs.length ∧ Below a.heap.size a w' :=
  (stepsByName_any w (hg.below hb) hn hx).mono fun _ _ ⟨h1, ⟨n, D, h2⟩, h3⟩ => ⟨_, n, D, h1, h2, hb.trans (h3.mono hb.size)⟩
theorem derive_on {b n : Nat} {D : DataW Value} {v : Value} {xs : List Aff} {us : List ByteArray} {stem r : ByteArray} {c : Int} (hr : wordX xs us stem = (r, c)) (a w : World) (hb : Below a.heap.size a w) (hst : Steps w b n D xs xs.length) (hu : Strs a v us) (hx : Shortish xs) (hnm : Names xs)
    (hi : ∀ u ∈ us, knowsTo xs u xs.length = true) (hul : us.length ≤ 2) (hw : stem.size ≤ 1000) :
    Calls Try.prog 76 #[.map (some b), .agg #[.string stem, v]] w fun e w' => e = .returned (.tuple #[.string r, .int .i64 c]) ∧ Below a.heap.size a w' := by
  have := derive_any w hst (hu.below hb) hx hnm hi hul hw
  rw [hr] at this
  exact this.mono fun _ _ ⟨h1, h2⟩ => ⟨h1, hb.trans (h2.mono hb.size)⟩

set_option maxRecDepth 100000 in
set_option maxHeartbeats 4000000 in
theorem implWordOf_any {va vs v : Value} {xs : List Aff} {ss : List Stm} {stem : ByteArray} {us : List ByteArray} (W : World) (hg : Gram W va vs xs ss) (hx : ∀ x ∈ xs, AffFine x) (hs : ∀ x ∈ ss, StmFine x) (hu : Strs W v us) :
    Calls Try.prog 25 #[.agg #[va, vs], .agg #[.string stem, v]] W fun e w' => e = .returned (retX (wordOut xs ss stem us)) ∧ Below W.heap.size W w' := by
  have HP := Shh.mk ((Blk.made W 48 #[va, vs]).alloc (.cells #[.string stem, v] 50))
  have hq := Blk.made (W.alloc (.cells #[va, vs] 48)) 50 #[.string stem, v]
  rw [World.size_alloc] at hq
  have HQ := Shh.mk hq
  have HB := Shh.mk (((Below.refl W.heap.size W).alloc (Nat.le_refl _) (.cells #[va, vs] 48)).alloc (by simp) (.cells #[.string stem, v] 50))
  have HG := Shh.mk ((hg.alloc (.cells #[va, vs] 48)).alloc (.cells #[.string stem, v] 50))
  have HU := Shh.mk ((hu.alloc (.cells #[va, vs] 48)).alloc (.cells #[.string stem, v] 50))
  have hp0 := HP.out.cells
  have hq0 := HQ.out.cells
  obtain ⟨⟨aa, ac, rfl, -, -, -⟩, ⟨sa, sc, rfl, -, -, -⟩⟩ := hg
  obtain ⟨ua, uc, rfl, -, -, -⟩ := hu
  clear hq
  cases hok : okG xs ss
  · have HO := Shh.mk hok
    have HR := Shh.mk (wordOut_bad (stem := stem) (us := us) hok)
    clear hok
    go_enter Try.func25, Try.ntmps25
    go_wp2_with fail
    refine (validG_is HO.out _ HG.out hx hs).mono ?_
    rintro e w1 ⟨rfl, hb1⟩
    go_wp2
    go_ret2
    exact ⟨by rw [HR.out]; rfl, HB.out.trans (hb1.mono HB.out.size)⟩
  · have HO := Shh.mk hok
    cases hd : okD ss stem us
    · have HD := Shh.mk hd
      have HR := Shh.mk (wordOut_no hok hd)
      clear hok hd
      go_enter Try.func25, Try.ntmps25
      go_wp2_with fail
      refine (validG_is HO.out _ HG.out hx hs).mono ?_
      rintro e w1 ⟨rfl, hb1⟩
      have hp1 := (HP.out.kept hb1 HP.out.lt).cells
      have hq1 := (HQ.out.kept hb1 HQ.out.lt).cells
      have HB1 := Shh.mk (HB.out.trans (hb1.mono HB.out.size))
      have HG1 := Shh.mk (HG.out.below hb1)
      have HU1 := Shh.mk (HU.out.below hb1)
      clear hb1 hp0 hq0
      go_wp2_with fail
      refine (isDer_is HD.out _ HG1.out HU1.out).mono ?_
      rintro e w2 ⟨rfl, hb2⟩
      go_wp2
      go_ret2
      exact ⟨by rw [HR.out]; rfl, HB1.out.trans (hb2.mono HB1.out.size)⟩
    · have HD := Shh.mk hd
      have HR := Shh.mk (wordOut_yes hok hd)
      have HN := Shh.mk (names_of hok)
      have HKN := Shh.mk (okD_known hok hd)
      have HTW := Shh.mk (okD_two hd)
      obtain ⟨⟨r, c⟩, hr⟩ : ∃ p, wordX xs us stem = p := ⟨_, rfl⟩
      have HRR := Shh.mk hr
      clear hok hd hr
      go_enter Try.func25, Try.ntmps25
      go_wp2_with fail
      refine (validG_is HO.out _ HG.out hx hs).mono ?_
      rintro e w1 ⟨rfl, hb1⟩
      have HP1 := Shh.mk (HP.out.kept hb1 HP.out.lt)
      have HQ1 := Shh.mk (HQ.out.kept hb1 HQ.out.lt)
      have hp1 := HP1.out.cells
      have hq1 := HQ1.out.cells
      have HB1 := Shh.mk (HB.out.trans (hb1.mono HB.out.size))
      have HG1 := Shh.mk (HG.out.below hb1)
      have HU1 := Shh.mk (HU.out.below hb1)
      clear hb1 hp0 hq0
      go_wp2_with fail
      refine (isDer_is HD.out _ HG1.out HU1.out).mono ?_
      rintro e w2 ⟨rfl, hb2⟩
      have HP2 := Shh.mk (HP1.out.kept hb2 HP1.out.lt)
      have HQ2 := Shh.mk (HQ1.out.kept hb2 HQ1.out.lt)
      have HB2 := Shh.mk (HB1.out.trans (hb2.mono HB1.out.size))
      have HG2 := Shh.mk (HG1.out.below hb2)
      have HU2 := Shh.mk (HU1.out.below hb2)
      have HK := Shh.mk (fun w' (hb : Below w2.heap.size w2 w') => (⟨(HP2.out.kept hb HP2.out.lt).cells 0, (HP2.out.kept hb HP2.out.lt).cells 1, (HQ2.out.kept hb HQ2.out.lt).cells 0, (HQ2.out.kept hb HQ2.out.lt).cells 1⟩ :
        w'.cell? ⟨W.heap.size, 0, none⟩ = some (.slice aa xs.length ac) ∧ w'.cell? ⟨W.heap.size, 1, none⟩ = some (.slice sa ss.length sc) ∧ w'.cell? ⟨W.heap.size + 1, 0, none⟩ = some (.string stem) ∧ w'.cell? ⟨W.heap.size + 1, 1, none⟩ = some (.slice ua us.length uc)))
      clear hb2 hp1 hq1
      go_wp2
      go_region_held3 (fun w' => w'.cell? ⟨W.heap.size, 0, none⟩ = some (.slice aa xs.length ac) ∧ w'.cell? ⟨W.heap.size, 1, none⟩ = some (.slice sa ss.length sc) ∧ w'.cell? ⟨W.heap.size + 1, 0, none⟩ = some (.string stem) ∧ w'.cell? ⟨W.heap.size + 1, 1, none⟩ = some (.slice ua us.length uc))
        (exact HK.out _ (by first | assumption | exact (Below.refl _ _).drew))
        (first
          | (go_at_call 77; refine (steps_on w2 _ (by first | assumption | exact (Below.refl _ _).drew) HG2.out HN.out.1 HN.out.2.2).mono ?_; rintro e w3 ⟨bm, n, D, rfl, hst, hb3⟩)
          | (go_at_call 76; refine (derive_on HRR.out w2 _ (by assumption) hst HU2.out HN.out.2.1 HN.out.1 HKN.out.2 HTW.out HKN.out.1).mono ?_; rintro e w4 ⟨rfl, hb4⟩))
      all_goals
        go_wp2
        go_ret2
        exact ⟨by rw [HR.out, HRR.out]; rfl, HB2.out.trans (hb4.mono HB2.out.size)⟩
end Go.Proofs.Ytilagppmljpclaa
