/-
  The law of anagrams is true of whatever bytes a lexicon and a word are drawn from: anagrams have the same sorted letters, and the words that can be made from a word's own letters are found.
-/
import Derived.Test.YtdleinognmdfmaaDoorM7
import Derived.Test.YtdleinognmdfmaaDoorLD
import Derived.Test.YtdleinognmdfmaaDoorCards
import Derived.Test.YtdleinognmdfmaaDoorTie
import Derived.WalkKit
import Derived.ProofKit
import Derived.OpenShut
import Derived.ShutString
import Derived.ChangeOld
import Derived.Below
import Derived.Stop.LaidErr
import Derived.OpenVars
import Derived.ChangeVars
import Derived.Lay
import Derived.Deep.DeepHandedRow
import Derived.Lib.LaidTab
import Derived.Lib.LaidU8
namespace Go.Proofs.YtdleinognmdfmaaDoor
open Go.ChangeShapes Go.WideShapes Go.ChangeAt Go.RowKit Go.Joins Go.Deep
open Go.ChangeMaps (open_string shut_string)

set_option maxRecDepth 100000 in
set_option maxHeartbeats 8000000 in
theorem FnAnagrams_walk (W : World) (v u : Value) (zs ys : List Int) (hz : Ints .u8 W v zs) (hy : Ints .u8 W u ys) (hTAB : Tabs W) :
    Calls Tryd.prog 3 #[v, u] W fun e w' => e = .returned (.bool true) ∧ Below W.heap.size W w' := by
  have HTAB := Shh.mk hTAB
  have HZ := Shh.mk hz
  have HY := Shh.mk hy
  clear hTAB hz hy
  cases hlong : (decide (3000 < zs.length) || decide (3000 < ys.length))
  case true =>
    have HL := Shh.mk hlong
    clear hlong
    go_enter Tryd.func3, Tryd.ntmps3
    go_wp2_with fail
    refine (long_any W HZ.out HY.out HL.out).mono ?_
    rintro e w0 ⟨rfl, rfl⟩
    go_wp2
    go_ret
    exact ⟨rfl, Below.refl _ _⟩
  case false =>
    have HL := Shh.mk hlong
    clear hlong
    go_enter Tryd.func3, Tryd.ntmps3
    go_wp2_with fail
    refine (long_any W HZ.out HY.out HL.out).mono ?_
    rintro e w0 ⟨rfl, rfl⟩
    go_wp2_with fail
    refine (a2Lexicon_any W v zs HZ.out).mono ?_
    rintro e w1 ⟨a, n, c, us, hD, rfl, ho, hb1⟩
    obtain ⟨a', c', hv, -, -, -⟩ := own_form ho
    injection hv with hv1 hv2 hv3
    subst hv1 hv2 hv3
    have HG2 := Shh.mk (LexAt.made (OwnS.strs ho))
    have HB2 := Shh.mk (hb1.alloc hb1.size (.cells #[.slice a us.length c] 26))
    have HG1 := Shh.mk (show W.heap.size ≤ w1.heap.size from hb1.size)
    clear ho hb1
    go_wp2_with fail
    refine (a2Word_any _ u ys (HY.out.below HB2.out)).mono ?_
    rintro e w3 ⟨y, hym, rfl, hb3⟩
    obtain ⟨A, G, hA⟩ := ana_of hD hym
    have R := Shh.mk hA
    have HG3 := Shh.mk (HG2.out.belowG hb3)
    have HB3 := Shh.mk (HB2.out.trans (hb3.mono HB2.out.size))
    have c0 := HG3.out.blk.cells
    clear hb3 hA hD hym HG2 HB2
    go_wp2_with fail
    refine (implAnagramsOf_any y _ HG3.out.strs (sizes_us R.out.small) (word_sizeS R.out.word) (HTAB.out.on HB3.out)).mono ?_
    rw [R.out.ana]
    rintro e w4 ⟨v4, rfl, ho4, hb4⟩
    unfold retS
    have ho4 : OwnS w3.heap.size w4 v4 A := ho4
    obtain ⟨a4, c4, rfl, -, -, -⟩ := own_form ho4
    have HO4 := Shh.mk ho4
    have HG4 := Shh.mk (HG3.out.belowG hb4)
    have HB4 := Shh.mk (HB3.out.trans (hb4.mono HB3.out.size))
    obtain ⟨T, hT⟩ : ∃ T, sortT y = T := ⟨_, rfl⟩
    have HT := Shh.mk hT
    have HTS := Shh.mk (show T.size ≤ 1048576 by rw [← hT]; exact Nat.le_trans (sorted_size y R.out.word) (by decide))
    have HM := Shh.mk (show fromOut us T = (G, 0) by rw [← hT]; exact R.out.made)
    clear ho4 hb4 c0 HG3 hT
    have HK := Shh.mk (fun w' (hb : Below w4.heap.size w4 w') => (HG4.out.blk.kept hb HG4.out.blk.lt).cells 0)
    go_wp2
    go_region_held3 (fun w' => w'.cell? ⟨w1.heap.size, 0, none⟩ = some (.slice a us.length c))
      (exact HK.out _ (by first | assumption | exact (Below.refl _ _).drew))
      (first
        | (go_at_call 9; with_reducible refine (tilesS_on HT.out R.out.word w4 _ (by first | assumption | exact (Below.refl _ _).drew)).mono ?_; rintro e w5 ⟨rfl, hb5⟩)
        | (go_at_call 8; with_reducible refine (madeI_on HM.out w4 _ (by assumption) HG4.out.strs (sizes_us R.out.small) HTS.out).mono ?_; rintro e w6 ⟨c6, d6, rfl, ho6, hb6⟩))
    all_goals
      clear HK
      have HO6 := Shh.mk ho6
      have HOA := Shh.mk (OwnS.kept HO4.out hb6)
      have HG6 := Shh.mk (HG4.out.belowG hb6)
      have HB6 := Shh.mk (HB4.out.trans (hb6.mono HB4.out.size))
      clear ho6 hb6 HO4 HG4 HB4
      go_wp2_with fail
      refine (rises_any _ (OwnS.strs HOA.out) R.out.riseA).mono ?_
      rintro e w7 ⟨rfl, hb7⟩
      have HO7 := Shh.mk (OwnS.kept HO6.out hb7)
      have HOA7 := Shh.mk (OwnS.kept HOA.out hb7)
      have HG7 := Shh.mk (HG6.out.belowG hb7)
      have HB7 := Shh.mk (HB6.out.trans (hb7.mono HB6.out.size))
      clear hb7 HO6 HOA HG6 HB6
      go_wp2_with fail
      refine (rises_any _ (OwnS.strs HO7.out) R.out.riseG).mono ?_
      rintro e w8 ⟨rfl, hb8⟩
      have HO8 := Shh.mk (OwnS.strs (OwnS.kept HO7.out hb8))
      have HOA8 := Shh.mk (OwnS.strs (OwnS.kept HOA7.out hb8))
      have HG8 := Shh.mk (HG7.out.belowG hb8)
      have HB8 := Shh.mk (HB7.out.trans (hb8.mono HB7.out.size))
      have hla := R.out.la
      have hlg := R.out.lg
      have hlu := R.out.lus
      clear hb8 HO7 HOA7 HG7 HB7
      go_wp2
      go_loopw [11] (fun i wr => ∃ k : Nat, k ≤ A.length ∧ i = .int .i64 k ∧ Shh (Below w8.heap.size w8 wr)) (fun i _ => A.length - (intOf i).toNat)
      case atStart => exact ⟨0, Nat.zero_le _, rfl, ⟨Below.refl _ _⟩⟩
      case round =>
        obtain ⟨k, hk, rfl, hb⟩ := hrel
        by_cases hlt : k < A.length
        · obtain ⟨aq, cq, hvq, -, -, hcq⟩ := HOA8.out
          obtain ⟨b, off, hab, hbl, hcc⟩ := hcq (by omega)
          injection hvq with hvq1 _ hvq3
          subst hvq1
          subst hvq3
          subst hab
          have hx1 := R.out.inA _ (strAt_mem hlt)
          have ck := hcc k hlt
          obtain ⟨x, hx⟩ : ∃ x, strAt A k = x := ⟨_, rfl⟩
          rw [hx] at hx1 ck
          have HX := Shh.mk (hx1.2.trans HT.out)
          have HXW := Shh.mk (R.out.small x hx1.1)
          have HH := Shh.mk (show hasOut us x = true by rw [hasOut_yes R.out.ok]; exact (hasL_mem (okL_rise R.out.ok)).2 hx1.1)
          have HK := Shh.mk (fun w' (hb2 : Below wr.heap.size wr w') => (⟨(((hb.out.trans (hb2.mono hb.out.size)).cell (p := ⟨b, off + k, none⟩) hbl).trans ck), (HG8.out.blk.kept (hb.out.trans (hb2.mono hb.out.size)) HG8.out.blk.lt).cells 0⟩ : w'.cell? ⟨b, off + k, none⟩ = some (.string x) ∧ w'.cell? ⟨w1.heap.size, 0, none⟩ = some (.slice a us.length c)))
          have HU := Shh.mk (HG8.out.strs.below hb.out)
          have h0 := same_txtS T
          clear hcc hcq hx hx1 ck
          go_wp2
          go_region_held3 (fun w' => w'.cell? ⟨b, off + k, none⟩ = some (.string x) ∧ w'.cell? ⟨w1.heap.size, 0, none⟩ = some (.slice a us.length c))
            (exact HK.out _ (by first | assumption | exact (Below.refl _ _).drew))
            (first
              | (go_at_call 9; (with_reducible first | refine (tilesS_on HT.out R.out.word wr _ (by first | assumption | exact (Below.refl _ _).drew)).mono ?_ | refine (tilesS_on HX.out HXW.out wr _ (by first | assumption | exact (Below.refl _ _).drew)).mono ?_); rintro e w9 ⟨rfl, hbz⟩)
              | (go_at_call 11; with_reducible refine (hasS_on HH.out wr _ (by assumption) HU.out (sizes_us R.out.small) (word_sizeS HXW.out)).mono ?_; rintro e w10 ⟨rfl, hbz⟩))
          all_goals
            have HB10 := Shh.mk (hb.out.trans (hbz.mono hb.out.size))
            clear HK
            go_wp2
            go_roundw
            case rel => exact ⟨k + 1, by omega, by go_num, HB10⟩
            case measure => simp [intOf]; omega
        · obtain rfl : k = A.length := by omega
          have HBL := hb
          have HKC := Shh.mk (fun w' (hb2 : Below wr.heap.size wr w') => (HG8.out.blk.kept (hb.out.trans (hb2.mono hb.out.size)) HG8.out.blk.lt).cells 0)
          have HO9 := Shh.mk (HO8.out.below hb.out)
          have HOA9 := Shh.mk (HOA8.out.below hb.out)
          have HG9 := Shh.mk (HG8.out.belowG hb.out)
          have HB9 := Shh.mk (HB8.out.trans (hb.out.mono HB8.out.size))
          obtain ⟨w9, rfl⟩ : ∃ x, x = wr := ⟨_, rfl⟩
          have c9 := HG9.out.blk.cells
          clear hk hlt HO8 HOA8 HG8 HB8 hb HBL HKC
          go_wp2
          go_loopw [12, 13, 14] (fun i _ _ wr => ∃ k : Nat, k ≤ us.length ∧ i = .int .i64 k ∧ Shh (Below w9.heap.size w9 wr)) (fun i _ _ _ => us.length - (intOf i).toNat)
          case atStart => exact ⟨0, Nat.zero_le _, rfl, ⟨Below.refl _ _⟩⟩
          case round =>
            obtain ⟨k, hk, rfl, hb⟩ := hrel
            have HG10 := Shh.mk (HG9.out.belowG hb.out)
            have c10 := HG10.out.blk.cells
            clear c9
            by_cases hlt : k < us.length
            · obtain ⟨aq, cq, hvq, -, -, hcq⟩ := HG10.out.strs
              obtain ⟨b, off, hab, hbl, hcc⟩ := hcq (by omega)
              injection hvq with hvq1 _ hvq3
              subst hvq1
              subst hvq3
              subst hab
              have hxm := strAt_mem hlt
              have ck := hcc k hlt
              obtain ⟨x, hx⟩ : ∃ x, strAt us k = x := ⟨_, rfl⟩
              rw [hx] at hxm ck
              have HXW := Shh.mk (R.out.small x hxm)
              have HBO := Shh.mk (R.out.both x hxm)
              have HK := Shh.mk (fun w' (hb2 : Below wr.heap.size wr w') => (⟨((hb2.cell (p := ⟨b, off + k, none⟩) hbl).trans ck), (HG10.out.blk.kept hb2 HG10.out.blk.lt).cells 0⟩ : w'.cell? ⟨b, off + k, none⟩ = some (.string x) ∧ w'.cell? ⟨w1.heap.size, 0, none⟩ = some (.slice (some ⟨b, off, none⟩) us.length c)))
              have HO10 := Shh.mk (HO9.out.below hb.out)
              have HB10 := hb
              obtain ⟨w10, rfl⟩ : ∃ x, x = wr := ⟨_, rfl⟩
              clear hcc hcq hx hxm hb
              go_wp2
              go_loopw [13, 14] (fun t i wr => ∃ j n : Nat, j ≤ G.length ∧ i = .int .i64 j ∧ t = .bool (hasTo G x j) ∧ wr = w10.drewN n) (fun _ i _ => G.length - (intOf i).toNat)
              case atStart => exact ⟨0, 0, Nat.zero_le _, rfl, rfl, rfl⟩
              case round =>
                obtain ⟨j, n, hj, rfl, rfl, hw'⟩ := hrel
                have HW' := Shh.mk hw'
                have hsuc : hasTo G x (j + 1) = (hasTo G x j || decide (strAt G j = x)) := rfl
                by_cases hjl : j < G.length
                · obtain ⟨aq, cq, hvq, -, -, hcq⟩ := HO10.out
                  obtain ⟨b6, off6, hab, hbl6, hcc⟩ := hcq (by omega)
                  injection hvq with hvq1 _ hvq3
                  subst hvq1
                  subst hvq3
                  subst hab
                  have cj : wr.cell? ⟨b6, off6 + j, none⟩ = some (.string (strAt G j)) := by rw [hw']; exact hcc j hjl
                  have ckk : wr.cell? ⟨b, off + k, none⟩ = some (.string x) := by rw [hw']; exact ck
                  have cl : wr.cell? ⟨w1.heap.size, 0, none⟩ = some (.slice (some ⟨b, off, none⟩) us.length c) := by rw [hw']; exact c10 0
                  obtain ⟨z, hz⟩ : ∃ z, strAt G j = z := ⟨_, rfl⟩
                  rw [hz] at cj hsuc
                  have hj0 : (0 : Int) ≤ (j : Int) := by omega
                  have hjn : (j : Int) < (G.length : Int) := by omega
                  have hk0 : (0 : Int) ≤ (k : Int) := by omega
                  have hkn : (k : Int) < (us.length : Int) := by omega
                  cases ht : hasTo G x j
                  · have heq : (z.toList == x.toList) = decide (z = x) := by
                      by_cases e : z = x
                      · rw [e, strSame, decide_eq_true rfl]
                      · rw [strNe e, decide_eq_false e]
                    rw [ht, Bool.false_or] at hsuc
                    obtain ⟨r, hr⟩ : ∃ r, decide (z = x) = r := ⟨_, rfl⟩
                    rw [hr] at heq hsuc
                    have HS := Shh.mk hsuc
                    clear hcc hcq hz ht hsuc hw' hr
                    go_wp2
                    go_quiet (fail)
                    go_wp2
                    go_roundw
                    case rel => exact ⟨j + 1, _, by omega, by go_num, by rw [HS.out], by rw [HW'.out]; exact World.drewN_drewN _ _ _⟩
                    case measure => simp [intOf]; omega
                  · rw [ht, Bool.true_or] at hsuc
                    have HS := Shh.mk hsuc
                    clear hcc hcq hz ht hsuc hw'
                    go_wp2
                    go_quiet (fail)
                    go_wp2
                    go_roundw
                    case rel => exact ⟨j + 1, _, by omega, by go_num, by rw [HS.out], by rw [HW'.out]; exact World.drewN_drewN _ _ _⟩
                    case measure => simp [intOf]; omega
                · obtain rfl : j = G.length := by omega
                  have hbw : Below w10.heap.size w10 wr := by rw [hw']; exact below_drewN (Below.refl _ _) n
                  obtain ⟨X, hX⟩ : ∃ X, sortT x = X := ⟨_, rfl⟩
                  obtain ⟨q, hq⟩ : ∃ q, hasAll (sortL y.data.toList) (sortL x.data.toList) = q := ⟨_, rfl⟩
                  have HCT := Shh.mk (show ∀ w, Below wr.heap.size wr w → Calls Tryd.prog 12 #[.string T, .string X] w fun e w' => e = .returned (.bool q) ∧ Below wr.heap.size wr w' from by rw [← HT.out, ← hX]; exact fun w hb => containsS_on wr w hb (sort_pile R.out.word) (sort_pile HXW.out) hq)
                  have HX := Shh.mk hX
                  have hin := HBO.out.trans hq
                  rw [hin]
                  have HK2 := Shh.mk (fun w' (hb2 : Below wr.heap.size wr w') => HK.out w' (hbw.trans (hb2.mono hbw.size)))
                  have HBW := Shh.mk hbw
                  have hqq : (q != q) = false := by simp
                  have hk0 : (0 : Int) ≤ (k : Int) := by omega
                  have hkn : (k : Int) < (us.length : Int) := by omega
                  clear hX hq hin hsuc hw' HW' HK HBO hjl hj hbw
                  go_wp2
                  go_region_held3 (fun w' => w'.cell? ⟨b, off + k, none⟩ = some (.string x) ∧ w'.cell? ⟨w1.heap.size, 0, none⟩ = some (.slice (some ⟨b, off, none⟩) us.length c))
                    (exact HK2.out _ (by first | assumption | exact (Below.refl _ _).drew))
                    (first
                      | (go_at_call 9; (with_reducible first | refine (tilesS_on HT.out R.out.word wr _ (by first | assumption | exact (Below.refl _ _).drew)).mono ?_ | refine (tilesS_on HX.out HXW.out wr _ (by first | assumption | exact (Below.refl _ _).drew)).mono ?_); rintro e w11 ⟨rfl, hbz⟩)
                      | (go_at_call 12; with_reducible refine (HCT.out _ (by assumption)).mono ?_; rintro e w12 ⟨rfl, hbz⟩))
                  all_goals
                    have HB12 := Shh.mk (HB10.out.trans ((HBW.out.trans (hbz.mono HBW.out.size)).mono HB10.out.size))
                    go_wp2
                    go_roundw
                    case rel => exact ⟨k + 1, by omega, by go_num, HB12⟩
                    case measure => simp [intOf]; omega
            · obtain rfl : k = us.length := by omega
              have HO13 := Shh.mk (HOA9.out.below hb.out)
              have HB13 := Shh.mk (HB9.out.trans (hb.out.mono HB9.out.size))
              have hlast := R.out.last
              have hall := hasOut_yes (s := y) R.out.ok
              clear hb
              by_cases hA0 : 0 < A.length
              · have hA1 : (0 : Int) < (A.length : Int) := by omega
                rw [decide_eq_true hA0, Bool.true_and] at hlast
                obtain ⟨t, ht⟩ : ∃ t, hasTo A y A.length = t := ⟨_, rfl⟩
                have HTT := Shh.mk ht
                have HHW := Shh.mk ((hall.trans hlast).trans ht)
                have htt : (t == t) = true := by simp
                clear hall hlast ht hA0
                go_wp2_with fail
                refine (specHasWord_any y _ HG10.out.strs (sizes_us R.out.small) (word_sizeS R.out.word)).mono ?_
                rw [HHW.out]
                rintro e w14 ⟨rfl, hb14⟩
                have HO14 := Shh.mk (HO13.out.below hb14)
                have HB14 := Shh.mk (HB13.out.trans (hb14.mono HB13.out.size))
                clear hb14 c10
                go_wp2_with fail
                refine (in_any y _ HO14.out HTT.out).mono ?_
                rintro e w15 ⟨rfl, rfl⟩
                go_wp2
                go_ret
                exact ⟨by first | rfl | exact ret_bool htt, HB14.out⟩
              · have hA1 : ¬ (0 : Int) < (A.length : Int) := by omega
                rw [decide_eq_false hA0, Bool.false_and] at hlast
                have HHW := Shh.mk (hall.trans hlast)
                clear hall hlast hA0
                go_wp2_with fail
                refine (specHasWord_any y _ HG10.out.strs (sizes_us R.out.small) (word_sizeS R.out.word)).mono ?_
                rw [HHW.out]
                rintro e w14 ⟨rfl, hb14⟩
                have HB14 := Shh.mk (HB13.out.trans (hb14.mono HB13.out.size))
                clear hb14 c10
                go_wp2
                go_ret
                exact ⟨rfl, HB14.out⟩
theorem ao_own : ownKnob Tryd.prog.godebug = none := by kernel_rfl
theorem ao_laid : laidOutB Tryd.prog = true := by kernel_rfl

/-! ### What the row lists -/
theorem ao_first : Rows.laid_unicode_utf8_first = Lib.firstData := by kernel_rfl
theorem ao_accept : (Rows.laid_unicode_utf8_acceptRanges : DataW Unit) = Lib.acceptData := by kernel_rfl
theorem ao_tabs {W : World} (h : laidMetH Tryd.prog Rows.fnAnagramsRow.laid W) : Tabs W := by
  have h' : laidMet Tryd.prog Rows.fnAnagramsRow.laid W := h
  have r4 := Lib.laidMet.reads h' (.head _)
  have r3 := Lib.laidMet.reads h' (.tail _ (.head _))
  rw [ao_first] at r3
  rw [ao_accept] at r4
  exact utf8Tabs_of_reads (ρ := Tryd.lays260_ren) Tryd.lays260 ⟨by kernel_rfl, by kernel_rfl, by kernel_rfl, by kernel_rfl, by kernel_rfl, by kernel_rfl, by kernel_rfl⟩ r3 r4

set_option maxRecDepth 100000 in
theorem anagrams_contract (H : Type) (enc : TypeId × Value → H) (W : World) (base : Nat) (args : Array Value) (ds gs : List (DataW H)) (before : List MemPlace)
    (hval : ∀ (j : Nat) t v, Tryd.f3.params[j]? = some t → args[j]? = some v → Value.okWide Tryd.prog W .any base t v)
    (hW : DataW.Whole enc Tryd.prog Tryd.f3.params.toList Rows.fnAnagramsSpec.vars false W args.toList ds gs before) (hL : laidMetH Tryd.prog Rows.fnAnagramsRow.laid W) :
    Calls Tryd.prog 3 args W fun e W' => ∃ v, e = .returned v ∧ Rows.fnAnagramsSpec.post enc Tryd.prog Tryd.f3 false true false false W args v W' := by
  have hW' := hW
  obtain ⟨p, q, hA0, hV, rfl, hfz, hnd⟩ := hW
  have hA : DataW.TrodAll enc Tryd.prog W 0 (fun _ => true) true Tryd.f3.params.toList args.toList ds p := hA0
  rw [Tryd.params3] at hA hval
  obtain ⟨v0, vs0, d0, ds0, p0, q0, hargs, rfl, rfl, h0, r0⟩ := trodAll_cons hA
  obtain ⟨v1, vs1, d1, ds1, p1, q1, rfl, rfl, rfl, h1, r1⟩ := trodAll_cons r0
  obtain ⟨rfl, rfl, rfl⟩ := trodAll_nil r1
  obtain rfl : args = #[v0, v1] := by cases args; simp_all
  obtain ⟨rfl, rfl⟩ := trodVars_none hV
  have k0 := h0
  have lt0 : ∀ x ∈ p0, x.block < W.heap.size := by obtain ⟨m, hm⟩ := k0; exact DataW.trod_lt m _ _ _ hm
  have k1 := h1
  have lt1 : ∀ x ∈ p1, x.block < W.heap.size := by obtain ⟨m, hm⟩ := k1; exact DataW.trod_lt m _ _ _ hm
  obtain ⟨fu0, hf0⟩ := h0
  obtain ⟨A0, len0, cap0, rfl⟩ := okWide_slice Tryd.underlying22 (hval 0 22 v0 rfl rfl)
  obtain ⟨z0, i0⟩ := bytes_cell Tryd.underlying22 Tryd.underlying5 (by kernel_rfl) hf0
  obtain ⟨fu1, hf1⟩ := h1
  obtain ⟨A1, len1, cap1, rfl⟩ := okWide_slice Tryd.underlying22 (hval 1 22 v1 rfl rfl)
  obtain ⟨z1, i1⟩ := bytes_cell Tryd.underlying22 Tryd.underlying5 (by kernel_rfl) hf1
  clear hA0
  refine (FnAnagrams_walk W _ _ z0 z1 i0 i1 (ao_tabs hL)).mono fun e W' ⟨he, bel⟩ => ?_
  subst he
  exact ⟨_, rfl, _, _, _, [], _, _, hW', trodAll_mk1 (shut_bool Tryd.underlying4 _), (trodAll_cons_mk (Below.trod ao_laid (by kernel_rfl) (of_decide_eq_true (by kernel_rfl)) k0 bel lt0) (trodAll_cons_mk (Below.trod ao_laid (by kernel_rfl) (of_decide_eq_true (by kernel_rfl)) k1 bel lt1) trodAll_mk0)), Below.trodVars ao_laid bel (by kernel_rfl) hV, bel.frame _, fun h => by cases h⟩

/-- A start that fits. -/
noncomputable def aoWorld (os : Os) : World := World.laidAll Tryd.prog os Rows.fnAnagramsRow.laid
theorem ao_met (os : Os) : laidMet Tryd.prog Rows.fnAnagramsRow.laid ((aoWorld os).forCall (fun _ _ => 0) ⟨#[], #[.slice none 0 0, .slice none 0 0], []⟩).memory :=
  laidMet_laidAll _ (by kernel_rfl) (by kernel_rfl)
theorem ao_reads (os : Os) {H : Type} (enc : TypeId × Value → H) : ∃ places, DataW.whole enc Tryd.prog ((aoWorld os).forCall (fun _ _ => 0) ⟨#[], #[.slice none 0 0, .slice none 0 0], []⟩).memory Tryd.f3.params.toList Rows.fnAnagramsSpec.vars false #[Value.slice none 0 0, Value.slice none 0 0].toList 8 = some ([.nil, .nil], [], places) :=
  ⟨[], by kernel_rfl⟩

set_option maxRecDepth 100000 in
theorem anagrams_lifted (os : Os) (started : os.Started) (H : Type) (enc : TypeId × Value → H) (F : Stop.Interp) :
    ReturnsInHanded {} Tryd.checked os 3 .any ((OpenSpec.ofChange Rows.fnAnagramsSpec).preRow enc Tryd.prog Tryd.f3 Rows.fnAnagramsRow.domain false Rows.fnAnagramsRow.laid) (((OpenSpec.ofChange Rows.fnAnagramsSpec).at F).post enc Tryd.prog Tryd.f3 false true false false) := by
  obtain ⟨places, hx⟩ := ao_reads os enc
  refine returnsInHanded_of_row (C := Tryd.checked) (s := OpenSpec.ofChange Rows.fnAnagramsSpec) ao_own started (by kernel_rfl) Tryd.func3
    (witness_row_at (enc := enc) (C := Tryd.checked) false (aoWorld os) #[.slice none 0 0, .slice none 0 0] (World.laidAll_os _ _ _) (by kernel_rfl) (by kernel_rfl) (by kernel_rfl)
      (OpenSpec.preRow_of_cond 8 hx (by kernel_rfl) (fun k hk => by cases hk) (by kernel_rfl) (ao_met os))) ?_
  intro W base args ds gs before hval hW _ _ _ hL _ _
  exact anagrams_contract H enc W base args ds gs before hval hW hL

theorem anagrams_said : Rows.FnAnagramsSaid :=
  OpenClaim.holds_of_cond 3 Tryd.f3 rfl rfl rfl rfl rfl rfl rfl ⟨rfl, rfl, rfl, rfl, rfl⟩ rfl rfl rfl rfl rfl (by kernel_rfl) Tryd.func3 (by kernel_rfl)
    (of_decide_eq_true (by kernel_rfl)) (by unfold Func.isWrapper; rw [if_neg (of_decide_eq_false (by kernel_rfl))]; exact ⟨rfl, rfl⟩)
    (fun os started H enc _ F => by rw [OpenClaim.pre_eq_preRow]; exact anagrams_lifted os started H enc F)

theorem anagrams_plain (f : FuncId) (fn : Func) (hf : Tryd.pinned.checked.prog.funcNamed "loop.example/g00911/laws.FnAnagrams" = some f) (hfn : Tryd.pinned.checked.prog.funcs[f]? = some fn) :
    false = Tryd.pinned.checked.prog.looks [] ∧ ∀ (j : Nat) t, fn.params[j]? = some t → Tryd.pinned.checked.prog.wantsStandIn t = false := by
  obtain rfl : f = 3 := Option.some.inj ((show Tryd.prog.funcNamed "loop.example/g00911/laws.FnAnagrams" = some 3 by kernel_rfl).symm.trans hf) |>.symm
  obtain rfl : fn = Tryd.f3 := (Option.some.inj (Tryd.func3.symm.trans hfn)).symm
  refine ⟨by kernel_rfl, fun j t ht => ?_⟩
  rw [Tryd.params3] at ht
  match j, ht with
  | 0, ht =>
    obtain rfl : t = 22 := by simpa using ht.symm
    exact (show Tryd.prog.wantsStandIn 22 = false by kernel_rfl)
  | 1, ht =>
    obtain rfl : t = 22 := by simpa using ht.symm
    exact (show Tryd.prog.wantsStandIn 22 = false by kernel_rfl)
  | j + 2, ht => simp at ht

theorem FnAnagrams_card : Rows.FnAnagramsCardSaid :=
  Claim7.holds_tied_plain_at .later [] _ _ _ _ anagrams_said (fun _ h => by cases h) (by kernel_rfl) (fun _ h => by cases h) fnAnagrams_row_tie rfl ⟨rfl, rfl⟩ (by kernel_rfl) rfl anagrams_plain (by kernel_rfl)
#print axioms FnAnagrams_card

end Go.Proofs.YtdleinognmdfmaaDoor
