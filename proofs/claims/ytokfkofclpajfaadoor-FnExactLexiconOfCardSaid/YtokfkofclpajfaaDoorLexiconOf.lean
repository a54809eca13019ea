/-
  The law of LexiconOf is true of every automaton: the program answers as the model does, in memory of its own at each call, and changes nothing.
-/
import Derived.Test.YtokfkofclpajfaaDoorWM
import Derived.Test.YtokfkofclpajfaaDoorWO
import Derived.Test.YtokfkofclpajfaaDoorK6
import Derived.Test.YtokfkofclpajfaaDoorYX
import Derived.Test.YtokfkofclpajfaaDoorYM
namespace Go.Proofs.YtokfkofclpajfaaDoor
open Go.ChangeShapes Go.WideShapes Go.ChangeAt Go.RowKit Go.Joins Go.Deep
open Go.ChangeMaps (open_string shut_string)

set_option maxRecDepth 100000 in
set_option maxHeartbeats 4000000 in
theorem FnExactLexiconOf_walk (W : World) (hTab : TabW W) (us : List Nod) (u : Value) (hu : Nds W u us) (hz : ∀ x ∈ us, x.ls.size ≤ maxLen) :
    Calls Tryd.prog 8 #[.agg #[u]] W fun e w' => e = .returned (.bool true) ∧ Below W.heap.size W w' := by
  have hB0 := (Below.refl W.heap.size W).alloc (Nat.le_refl _) (.cells #[u] 24)
  have HT := Shh.mk hTab
  have HU := Shh.mk hu
  have P0 := Shh.mk (Blk.made W 24 #[u])
  obtain ⟨aa, ac, rfl, -⟩ := hu
  clear hTab
  by_cases hsz : (1048576 : Int) < ((nodsW us : Nat) : Int)
  · have HS := hid (szN_no hsz)
    clear hsz
    go_enter Tryd.func8, Tryd.ntmps8
    go_wp2_with fail
    refine (szDawg_any 1048576 _ (HU.out.below hB0) hz (by omega) (by omega)).mono ?_
    rw [HS.out]
    rintro e w1 ⟨rfl, hb1⟩
    go_wp2
    go_ret
    exact ⟨rfl, hB0.trans (hb1.mono hB0.size)⟩
  · have HS := hid (szN_yes hsz)
    have hn : SmallD us := smallD_of (by omega)
    have hge : ¬ (1048576 : Int) - ((nodsW us : Nat) : Int) < 0 := by omega
    have hmk := mkD_small (ss := us) (by omega)
    obtain ⟨⟨os, cd⟩, hdd⟩ : ∃ q : List ByteArray × Int, lexiconOut us = q := ⟨_, rfl⟩
    have HD9 := Shh.mk hdd
    have hol : os.length ≤ 6000 := by have := lexiconOut_len us; rw [hdd] at this; exact Nat.le_trans this (by decide)
    obtain ⟨mg, hmg⟩ : ∃ m, 1 + mkD us us.length = m := ⟨_, rfl⟩
    have HMG := Shh.mk hmg
    obtain ⟨nn, hnn⟩ : ∃ m, os.length = m := ⟨_, rfl⟩
    have HNN := Shh.mk hnn
    have hmn : ¬ ((mg : Nat) : Int) < 0 := by omega
    have hmn2 : ¬ (((1 + nn : Nat) : Nat) : Int) < 0 := by omega
    have HMK := Shh.mk hmk
    have HOL := Shh.mk hol
    have SM := Shh.mk hn
    have HUL := Shh.mk (show us.length ≤ 1048576 from hn.len)
    clear hsz hdd hmg hnn hmk hol hn
    go_enter Tryd.func8, Tryd.ntmps8
    go_wp2_with fail
    refine (szDawg_any 1048576 _ (HU.out.below hB0) hz (by omega) (by omega)).mono ?_
    rw [HS.out]
    rintro e w1 ⟨rfl, hb1⟩
    have hB1 := hB0.trans (hb1.mono hB0.size)
    have Q1 := P0.out.kept hb1 P0.out.lt
    have c0 := Q1.cells
    go_wp2_with fail
    refine (toDawgL_any _ (HU.out.below hB1) SM.out).mono ?_
    rintro e w2 ⟨a2, s2, rfl, hg2, hb2⟩
    have hB2 := hB1.trans (hb2.mono hB1.size)
    have Q2 := Q1.kept hb2 Q1.lt
    clear c0 hge
    go_wp2_with fail
    refine (specLexiconOf_any _ hg2).mono ?_
    rw [HD9.out]
    rintro e w3 ⟨v3, rfl, hs3, hb3⟩
    have hs3 : Strs w3 v3 os := hs3
    have HS3 := Shh.mk hs3
    obtain ⟨a3, c3, rfl, -⟩ := hs3
    rw [HNN.out] at HS3 ⊢
    have HB3 := Shh.mk (hB2.trans (hb3.mono hB2.size))
    have Q3 := Shh.mk (Q2.kept hb3 Q2.lt)
    have HQL := Shh.mk Q3.out.lt
    have HYA := Shh.mk ((Below.refl w3.heap.size w3).alloc (Nat.le_refl _) (.cells #[.slice a3 nn c3] 45))
    have HS3 := Shh.mk (HS3.out.below HYA.out)
    have HB3 := Shh.mk (HB3.out.trans (HYA.out.mono HB3.out.size))
    have Q3 := Shh.mk (Q3.out.kept HYA.out HQL.out)
    have E3 := Shh.mk (Blk.made w3 45 #[.slice a3 nn c3])
    obtain ⟨wy, hwy⟩ : ∃ x, x = w3.alloc (.cells #[.slice a3 nn c3] 45) := ⟨_, rfl⟩
    have HWY := Shh.mk (show w3.heap.size < wy.heap.size by rw [hwy]; simp)
    rw [← hwy] at HS3 HB3 Q3 E3
    have HQL := Shh.mk Q3.out.lt
    have c0 := Q3.out.cells
    rw [hwy] at c0
    clear HYA
    clear hg2 hb1 hb2 hb3 hB0 hB1 hB2 Q1 Q2
    go_wp2_with fail
    rw [← hwy]
    clear c0 hwy
    refine (toDawg_any _ (HU.out.below HB3.out) SM.out).mono ?_
    rintro e w4 ⟨g4, rfl, hr4, hg4, hb4⟩
    have c0 : True := trivial
    have E4 := Shh.mk ((E3.out.kept hb4 E3.out.lt).alloc (.cells #[.slice (some ⟨g4, 0, none⟩) us.length us.length] 29))
    have X4 := Shh.mk (Blk.made w4 29 #[.slice (some ⟨g4, 0, none⟩) us.length us.length])
    have HA4 := Shh.mk ((Below.refl w4.heap.size w4).alloc (Nat.le_refl _) (.cells #[.slice (some ⟨g4, 0, none⟩) us.length us.length] 29))
    have HR4 := Shh.mk ((DRm.of_row hr4 hg4).quiet HA4.out)
    have HX4 := Shh.mk ((hr4.nds SM.out.len).below HA4.out)
    have Q4 := Shh.mk ((Q3.out.kept hb4 Q3.out.lt).alloc (.cells #[.slice (some ⟨g4, 0, none⟩) us.length us.length] 29))
    have HZ4 := Shh.mk hb4.size
    have HB4 := Shh.mk ((HB3.out.trans (hb4.mono HB3.out.size)).alloc (Nat.le_trans HB3.out.size hb4.size) (.cells #[.slice (some ⟨g4, 0, none⟩) us.length us.length] 29))
    have HD4 := Shh.mk (hb4.alloc hb4.size (.cells #[.slice (some ⟨g4, 0, none⟩) us.length us.length] 29))
    clear hr4 hg4 hb4 c0 HA4
    obtain ⟨wx, hwx⟩ : ∃ x, x = w4.alloc (.cells #[.slice (some ⟨g4, 0, none⟩) us.length us.length] 29) := ⟨_, rfl⟩
    have HZX := Shh.mk (show w4.heap.size < wx.heap.size by rw [hwx]; simp)
    rw [← hwx] at X4 HR4 HX4 Q4 HB4 HD4 E4
    have cx := X4.out.cells
    rw [hwx] at cx
    go_wp2_with fail
    rw [← hwx]
    refine (implLexiconOf_any _ (HT.out.on HB4.out) HX4.out).mono ?_
    rw [HD9.out]
    rintro e w5 ⟨v5, rfl, ho5, hb5⟩
    have ho5 : OwnS wx.heap.size w5 v5 os := ho5
    have HO5 := Shh.mk ho5
    obtain ⟨a5, c5, rfl, -, -, -⟩ := own_form ho5
    rw [HNN.out] at HO5 ⊢
    clear cx hwx ho5
    have HZ5 := Shh.mk hb5.size
    have HOH := Shh.mk (fun k (hk : (Value.slice a5 nn c5).ownBlock = some k) => (World.ownsRow.lt HO5.out k hk).2)
    have X5 := Shh.mk (X4.out.kept hb5 X4.out.lt)
    have Q5 := Shh.mk (Q4.out.kept hb5 Q4.out.lt)
    have HR5 := Shh.mk (HR4.out.quiet hb5)
    have HX5 := Shh.mk (HX4.out.below hb5)
    have HB5 := Shh.mk (HB4.out.trans (hb5.mono HB4.out.size))
    have HD5 := Shh.mk (HD4.out.trans (hb5.mono HD4.out.size))
    have E5 := Shh.mk (E4.out.kept hb5 E4.out.lt)
    clear hb5 X4 Q4 HR4 HX4 HB4 HD4 E4
    have F50 := Shh.mk (Blk.made w5 45 #[.slice a5 nn c5])
    have hb50 := (Below.refl w5.heap.size w5).alloc (Nat.le_refl _) (.cells #[.slice a5 nn c5] 45)
    have X50 := Shh.mk (X5.out.kept hb50 X5.out.lt)
    have Q50 := Shh.mk (Q5.out.kept hb50 Q5.out.lt)
    have HR50 := Shh.mk (HR5.out.quiet hb50)
    have HX50 := Shh.mk (HX5.out.below hb50)
    have HB50 := Shh.mk (HB5.out.trans (hb50.mono HB5.out.size))
    have HD50 := Shh.mk (HD5.out.trans (hb50.mono HD5.out.size))
    have HO50 := Shh.mk (show OwnS wx.heap.size _ (.slice a5 nn c5) os from own_kept HO5.out hb50)
    have E50 := Shh.mk (E5.out.kept hb50 E5.out.lt)
    clear hb50 X5 Q5 HR5 HX5 HB5 HD5 HO5 E5
    have cE := E50.out.cells
    have cF := F50.out.cells
    go_wp2_with fail
    refine (eqLexicon_same os _ (OwnS.strs HO50.out) (HS3.out.below HD50.out)).mono ?_
    rintro e w6 ⟨rfl, hb6⟩
    clear cE cF
    have X6 := Shh.mk (X50.out.kept hb6 X50.out.lt)
    have Q6 := Shh.mk (Q50.out.kept hb6 Q50.out.lt)
    have HR6 := Shh.mk (HR50.out.quiet hb6)
    have HX6 := Shh.mk (HX50.out.below hb6)
    have HB6 := Shh.mk (HB50.out.trans (hb6.mono HB50.out.size))
    have HD6 := Shh.mk (HD50.out.trans (hb6.mono HD50.out.size))
    have HO6 := Shh.mk (show OwnS wx.heap.size _ (.slice a5 nn c5) os from own_kept HO50.out hb6)
    have E6 := Shh.mk (E50.out.kept hb6 E50.out.lt)
    have F6 := Shh.mk (F50.out.kept hb6 F50.out.lt)
    clear hb6 X50 Q50 HR50 HX50 HB50 HD50 HO50 E50 F50
    have HGW := Shh.mk (HU.out.below HB6.out)
    go_wp2
    have HK := Shh.mk (fun w' (hb : Below w6.heap.size w6 w') => twoDaw X6.out Q6.out hb)
    go_region_held3 (fun w' => w'.cell? ⟨w4.heap.size, 0, none⟩ = some (.slice (some ⟨g4, 0, none⟩) us.length us.length) ∧ w'.cell? ⟨W.heap.size, 0, none⟩ = some (.slice aa us.length ac))
      (exact HK.out _ (by first | assumption | exact (Below.refl _ _).drew))
      (first
        | (go_at_call 21; with_reducible refine (toD_on w6 _ (by first | assumption | exact (Below.refl _ _).drew) HGW.out SM.out).mono ?_; rintro e w7 ⟨a7, s7, rfl, hg7, hb7, hc7⟩)
        | (go_at_call 23; refine (eqD_on w6 _ (by assumption) (HX6.out.below (by assumption)) hg7).mono ?_; rintro e w8 ⟨rfl, hb8⟩))
    all_goals
      clear HK HGW
      have X8 := Shh.mk (X6.out.kept hb8 X6.out.lt)
      have Q8 := Shh.mk (Q6.out.kept hb8 Q6.out.lt)
      have HR8 := Shh.mk (HR6.out.quiet hb8)
      have HB8 := Shh.mk (HB6.out.trans (hb8.mono HB6.out.size))
      have HD8 := Shh.mk (HD6.out.trans (hb8.mono HD6.out.size))
      have HO8 := Shh.mk (show OwnS wx.heap.size _ (.slice a5 nn c5) os from own_kept HO6.out hb8)
      have E8 := Shh.mk (E6.out.kept hb8 E6.out.lt)
      have F8 := Shh.mk (F6.out.kept hb8 F6.out.lt)
      clear hb8 X6 Q6 HR6 HB6 HD6 HO6 E6 F6
      have c8 := X8.out.cells
      go_wp2_with fail
      refine (markDawg_room 1 _ HR8.out (by omega) (by have := HMK.out; omega) (by have := HUL.out; omega)).mono ?_
      rw [HMG.out]
      rintro e w9 ⟨rfl, hk9⟩
      have HO9 := Shh.mk (show OwnS wx.heap.size _ (.slice a5 nn c5) os from own_apart HO8.out hk9 (fun b hb e => by have := (World.ownsRow.lt HO8.out b hb).1; have := HZX.out; omega))
      have HB9 := Shh.mk (HB8.out.trans (hk9.below (B := W.heap.size) (fun i hi e => by have := HB3.out.size; omega) HB8.out.size))
      have HD9' := Shh.mk (HD8.out.trans (hk9.below (B := wy.heap.size) (fun i hi e => by omega) HD8.out.size))
      have E9 := Shh.mk (E8.out.apart hk9 (fun e => by have := HWY.out; omega))
      have F9 := Shh.mk (F8.out.apart hk9 (fun e => by have := HZ5.out; have := HZX.out; omega))
      clear E8 F8
      have Q9 := Shh.mk (Q8.out.apart hk9 (fun e => by have := HQL.out; omega))
      clear c8 hk9 X8 Q8 HR8 HD8 HO8 HB8
      have HD09 := HD9'
      have cE := E9.out.cells
      have cF := F9.out.cells
      go_wp2_with fail
      refine (eqLexicon_same os _ (OwnS.strs HO9.out) (HS3.out.below HD09.out)).mono ?_
      rintro e w10 ⟨rfl, hb10⟩
      clear cE cF
      have E10 := Shh.mk (E9.out.kept hb10 E9.out.lt)
      have F10 := Shh.mk (F9.out.kept hb10 F9.out.lt)
      clear E9 F9
      have cF := F10.out.cells
      have Q10 := Shh.mk (Q9.out.kept hb10 Q9.out.lt)
      have HD10 := Shh.mk (HD09.out.trans (hb10.mono HD09.out.size))
      have HB10 := Shh.mk (HB9.out.trans (hb10.mono HB9.out.size))
      have HO10 := Shh.mk (show OwnS wx.heap.size _ (.slice a5 nn c5) os from own_kept HO9.out hb10)
      clear hb10 Q9 HD9' HD09 HB9 HO9
      go_wp2_with fail
      refine (markLexicon_any 1 _ HO10.out (by omega) (by have := HOL.out; omega)).mono ?_
      rw [HNN.out]
      rintro e w11 ⟨rfl, hm11, hg11⟩
      have HM11 := Shh.mk (show OwnS wx.heap.size w11 (.slice a5 nn c5) (marks 1 nn) from hm11)
      have HOB := Shh.mk (fun k (hk : (Value.slice a5 nn c5).ownBlock = some k) => (World.ownsRow.lt HO10.out k hk).1)
      have HD11 := Shh.mk (HD10.out.grown hg11 HD10.out.size (fun k hk => by have := HOB.out k hk; have := HZ4.out; have := HZX.out; omega))
      have HB11 := Shh.mk (HB10.out.grown hg11 HB10.out.size (fun k hk => by have := HOB.out k hk; have := HZ4.out; have := HZX.out; have := HB3.out.size; omega))
      have Q11 := Shh.mk (grown_blk Q10.out hg11 (fun k hk => by have := HOB.out k hk; have := HZ4.out; have := HZX.out; have := HQL.out; omega))
      have E11 := Shh.mk (grown_blk E10.out hg11 (fun k hk => by have := HOB.out k hk; have := HZ4.out; have := HZX.out; have := HWY.out; omega))
      have F11 := Shh.mk (grown_blk F10.out hg11 (fun k hk => by have := HOH.out k hk; omega))
      clear E10 F10 cF
      clear hm11 hg11 HO10 HD10 HB10 Q10
      have cF := F11.out.cells
      go_wp2_with fail
      refine (heldLexicon_any 1 nn _ (OwnS.strs HM11.out) (by omega) (by have := HOL.out; have := HNN.out; omega)).mono ?_
      rintro e w12 ⟨rfl, hb12⟩
      clear cF
      have Q12 := Shh.mk (Q11.out.kept hb12 Q11.out.lt)
      have E12 := Shh.mk (E11.out.kept hb12 E11.out.lt)
      have F12 := Shh.mk (F11.out.kept hb12 F11.out.lt)
      clear E11 F11
      have HD12 := Shh.mk (HD11.out.trans (hb12.mono HD11.out.size))
      have HB12 := Shh.mk (HB11.out.trans (hb12.mono HB11.out.size))
      have HM12 := Shh.mk (show OwnS wx.heap.size _ (.slice a5 nn c5) (marks 1 nn) from own_kept HM11.out hb12)
      clear hb12 Q11 HD11 HB11 HM11
      have c12 := Q12.out.cells
      go_wp2_with fail
      refine (toDawgL_any _ (HU.out.below HB12.out) SM.out).mono ?_
      rintro e w13 ⟨a13, s13, rfl, hg13, hb13⟩
      clear c12 Q12
      have E13 := Shh.mk (E12.out.kept hb13 E12.out.lt)
      have F13 := Shh.mk (F12.out.kept hb13 F12.out.lt)
      clear E12 F12
      have HD13 := Shh.mk (HD12.out.trans (hb13.mono HD12.out.size))
      have HB13 := Shh.mk (HB12.out.trans (hb13.mono HB12.out.size))
      have HM13 := Shh.mk (show OwnS wx.heap.size _ (.slice a5 nn c5) (marks 1 nn) from own_kept HM12.out hb13)
      clear hb13 HD12 HB12 HM12
      go_wp2_with fail
      refine (implLexiconOf_any _ (HT.out.on HB13.out) hg13).mono ?_
      rw [HD9.out]
      rintro e w14 ⟨v14, rfl, ho14, hb14⟩
      have ho14 : OwnS w13.heap.size w14 v14 os := ho14
      have HO14 := Shh.mk ho14
      obtain ⟨a14, c14, rfl, -, -, -⟩ := own_form ho14
      rw [HNN.out] at HO14 ⊢
      clear ho14 hg13
      have E14 := Shh.mk (E13.out.kept hb14 E13.out.lt)
      have F14 := Shh.mk (F13.out.kept hb14 F13.out.lt)
      clear E13 F13
      have HD14 := Shh.mk (HD13.out.trans (hb14.mono HD13.out.size))
      have HB14 := Shh.mk (HB13.out.trans (hb14.mono HB13.out.size))
      have HM14 := Shh.mk (show OwnS wx.heap.size _ (.slice a5 nn c5) (marks 1 nn) from own_kept HM13.out hb14)
      clear hb14 HD13 HB13 HM13
      have U14 := Shh.mk (Blk.made w14 45 #[.slice a14 nn c14])
      have hb140 := (Below.refl w14.heap.size w14).alloc (Nat.le_refl _) (.cells #[.slice a14 nn c14] 45)
      have HO14 := Shh.mk (show OwnS w13.heap.size _ (.slice a14 nn c14) os from own_kept HO14.out hb140)
      have E140 := Shh.mk (E14.out.kept hb140 E14.out.lt)
      have F140 := Shh.mk (F14.out.kept hb140 F14.out.lt)
      clear E14 F14
      have HD140 := Shh.mk (HD14.out.trans (hb140.mono HD14.out.size))
      have HB140 := Shh.mk (HB14.out.trans (hb140.mono HB14.out.size))
      have HM140 := Shh.mk (show OwnS wx.heap.size _ (.slice a5 nn c5) (marks 1 nn) from own_kept HM14.out hb140)
      clear hb140 HD14 HB14 HM14
      have cE := E140.out.cells
      have cU := U14.out.cells
      go_wp2_with fail
      refine (eqLexicon_same os _ (OwnS.strs HO14.out) (HS3.out.below HD140.out)).mono ?_
      rintro e w15 ⟨rfl, hb15⟩
      clear HO14 cE cU U14
      have E15 := Shh.mk (E140.out.kept hb15 E140.out.lt)
      have F15 := Shh.mk (F140.out.kept hb15 F140.out.lt)
      clear E140 F140
      have HD15 := Shh.mk (HD140.out.trans (hb15.mono HD140.out.size))
      have HB15 := Shh.mk (HB140.out.trans (hb15.mono HB140.out.size))
      have HM15 := Shh.mk (show OwnS wx.heap.size _ (.slice a5 nn c5) (marks 1 nn) from own_kept HM140.out hb15)
      clear hb15 HD140 HB140 HM140
      have cF := F15.out.cells
      go_wp2_with fail
      refine (heldLexicon_any 1 nn _ (OwnS.strs HM15.out) (by omega) (by have := HOL.out; have := HNN.out; omega)).mono ?_
      rintro e w16 ⟨rfl, hb16⟩
      clear cF
      go_wp2
      go_ret
      exact ⟨rfl, HB15.out.trans (hb16.mono HB15.out.size)⟩

theorem FnExactLexiconOf_tab {W : World} (h : laidMetH Tryd.prog Rows.fnExactLexiconOfRow.laid W) : TabW W := by
  have h' : laidMet Tryd.prog Rows.fnExactLexiconOfRow.laid W := h
  first | exact ⟨Lib.tabIs_of_head tabW_g tabW_type Tryd.underlying175 Tryd.underlying167 (by kernel_rfl) (by kernel_rfl) h'⟩ | exact ⟨Lib.tabIs_of_head tabW_g tabW_type Tryd.underlying175 Tryd.underlying167 (by kernel_rfl) (by kernel_rfl) (laidMet.tail h')⟩ | exact ⟨Lib.tabIs_of_head tabW_g tabW_type Tryd.underlying175 Tryd.underlying167 (by kernel_rfl) (by kernel_rfl) (laidMet.tail (laidMet.tail h'))⟩
set_option maxRecDepth 100000 in
theorem FnExactLexiconOf_contract (H : Type) (enc : TypeId × Value → H) (W : World) (base : Nat) (args : Array Value) (ds gs : List (DataW H)) (before : List MemPlace)
    (hval : ∀ (j : Nat) t v, Tryd.f8.params[j]? = some t → args[j]? = some v → Value.okWide Tryd.prog W .any base t v)
    (hW : DataW.Whole enc Tryd.prog Tryd.f8.params.toList Rows.fnExactLexiconOfSpec.vars false W args.toList ds gs before) (hL : laidMetH Tryd.prog Rows.fnExactLexiconOfRow.laid W) :
    Calls Tryd.prog 8 args W fun e W' => ∃ v, e = .returned v ∧ Rows.fnExactLexiconOfSpec.post enc Tryd.prog Tryd.f8 false true false false W args v W' := by
  have hW' := hW
  obtain ⟨p, q, hA0, hV, rfl, hfz, hnd⟩ := hW
  have hA : DataW.TrodAll enc Tryd.prog W 0 (fun _ => true) true Tryd.f8.params.toList args.toList ds p := hA0
  rw [Tryd.params8] at hA hval
  obtain ⟨v0, vs0, d0, ds0, p0, q0, hargs, rfl, rfl, h0, r0⟩ := trodAll_cons hA
  obtain ⟨rfl, rfl, rfl⟩ := trodAll_nil r0
  obtain rfl : args = #[v0] := by cases args; simp_all
  obtain ⟨rfl, rfl⟩ := trodVars_none hV
  have k0 := h0
  have lt0 : ∀ x ∈ p0, x.block < W.heap.size := by obtain ⟨m, hm⟩ := k0; exact DataW.trod_lt m _ _ _ hm
  obtain ⟨c00, y00, n0, rfl, rfl, rfl, f00⟩ := open_agg1 Tryd.underlying24 (by kernel_rfl) (by kernel_rfl) (hval 0 24 v0 rfl rfl) h0
  obtain ⟨ss0, hs0, zs0⟩ := nods_cell Tryd.underlying22 Tryd.underlying122 (by kernel_rfl) (by kernel_rfl) Tryd.underlying4 Tryd.underlying9 Tryd.underlying53 Tryd.underlying2 (by kernel_rfl) f00
  clear hA0
  refine (FnExactLexiconOf_walk W (FnExactLexiconOf_tab hL) ss0 _ hs0 zs0).mono fun e W' ⟨he, bel⟩ => ?_
  subst he
  exact ⟨_, rfl, _, _, _, [], _, _, hW', trodAll_mk1 (shut_bool Tryd.underlying4 _), (trodAll_cons_mk (Below.trod prog_laid (by kernel_rfl) (of_decide_eq_true (by kernel_rfl)) k0 bel lt0) trodAll_mk0), Below.trodVars prog_laid bel (by kernel_rfl) hV, bel.frame _, fun h => by cases h⟩
noncomputable def FnExactLexiconOf_world (os : Os) : World := World.laidAll Tryd.prog os Rows.fnExactLexiconOfRow.laid
theorem FnExactLexiconOf_met (os : Os) : laidMet Tryd.prog Rows.fnExactLexiconOfRow.laid ((FnExactLexiconOf_world os).forCall (fun _ _ => 0) ⟨#[], #[(.agg #[.slice none 0 0] : Value)], []⟩).memory :=
  laidMet_laidAll _ (by kernel_rfl) (by kernel_rfl)
theorem FnExactLexiconOf_reads (os : Os) {H : Type} (enc : TypeId × Value → H) : ∃ places, DataW.whole enc Tryd.prog ((FnExactLexiconOf_world os).forCall (fun _ _ => 0) ⟨#[], #[(.agg #[.slice none 0 0] : Value)], []⟩).memory Tryd.f8.params.toList Rows.fnExactLexiconOfSpec.vars false (#[(.agg #[.slice none 0 0] : Value)]).toList 8 = some ([.agg [.nil]], [], places) :=
  ⟨[], by kernel_rfl⟩
set_option maxRecDepth 100000 in
theorem FnExactLexiconOf_lifted (os : Os) (started : os.Started) (H : Type) (enc : TypeId × Value → H) (F : Stop.Interp) :
    ReturnsInHanded {} Tryd.checked os 8 .any ((OpenSpec.ofChange Rows.fnExactLexiconOfSpec).preRow enc Tryd.prog Tryd.f8 Rows.fnExactLexiconOfRow.domain false Rows.fnExactLexiconOfRow.laid) (((OpenSpec.ofChange Rows.fnExactLexiconOfSpec).at F).post enc Tryd.prog Tryd.f8 false true false false) := by
  obtain ⟨places, hx⟩ := FnExactLexiconOf_reads os enc
  refine returnsInHanded_of_row (C := Tryd.checked) (s := OpenSpec.ofChange Rows.fnExactLexiconOfSpec) prog_own started (by kernel_rfl) Tryd.func8
    (witness_row_at (enc := enc) (C := Tryd.checked) false (FnExactLexiconOf_world os) #[(.agg #[.slice none 0 0] : Value)] (World.laidAll_os _ _ _) (by kernel_rfl) (by kernel_rfl) (by kernel_rfl)
      (OpenSpec.preRow_of_cond 8 hx (by kernel_rfl) (fun k hk => by cases hk) (by kernel_rfl) (FnExactLexiconOf_met os))) ?_
  intro W base args ds gs before hval hW _ _ _ hL _ _
  exact FnExactLexiconOf_contract H enc W base args ds gs before hval hW hL
set_option maxHeartbeats 8000000 in
theorem FnExactLexiconOf_facts : joinedFacts Tryd.pinned.checked.prog 8 Tryd.f8 (OpenSpec.ofChange Rows.fnExactLexiconOfSpec).bare Rows.fnExactLexiconOfRow = true := by
  unfold joinedFacts
  rw [prog_enter, prog_lifts, prog_made]
  kernel_rfl
set_option maxHeartbeats 8000000 in
theorem FnExactLexiconOf_goes : false = Rows.fnExactLexiconOfRow.goesBy Tryd.pinned.checked.prog := by kernel_rfl
theorem FnExactLexiconOf_said : Rows.FnExactLexiconOfSaid :=
  OpenClaim.holds_of_cond 8 Tryd.f8 rfl rfl rfl rfl rfl rfl rfl ⟨rfl, rfl, rfl, rfl, rfl⟩ rfl rfl rfl rfl rfl (by kernel_rfl) Tryd.func8 FnExactLexiconOf_facts
    (of_decide_eq_true (by kernel_rfl)) (by unfold Func.isWrapper; rw [if_neg (of_decide_eq_false (by kernel_rfl))]; exact ⟨rfl, rfl⟩)
    (fun os started H enc _ F => by rw [OpenClaim.pre_eq_preRow]; exact FnExactLexiconOf_lifted os started H enc F)
theorem FnExactLexiconOf_plain (f : FuncId) (fn : Func) (hf : Tryd.pinned.checked.prog.funcNamed "loop.example/g00911/laws.FnExactLexiconOf" = some f) (hfn : Tryd.pinned.checked.prog.funcs[f]? = some fn) :
    false = Tryd.pinned.checked.prog.looks [] ∧ ∀ (j : Nat) t, fn.params[j]? = some t → Tryd.pinned.checked.prog.wantsStandIn t = false := by
  obtain rfl : f = 8 := Option.some.inj ((show Tryd.prog.funcNamed "loop.example/g00911/laws.FnExactLexiconOf" = some 8 by kernel_rfl).symm.trans hf) |>.symm
  obtain rfl : fn = Tryd.f8 := (Option.some.inj (Tryd.func8.symm.trans hfn)).symm
  refine ⟨by kernel_rfl, fun j t ht => ?_⟩
  rw [Tryd.params8] at ht
  obtain rfl : t = 24 := by simpa using Array.mem_of_getElem? ht
  exact (show Tryd.prog.wantsStandIn 24 = false by kernel_rfl)
theorem FnExactLexiconOf_card : Rows.FnExactLexiconOfCardSaid :=
  Claim7.holds_tied_plain_at .later [] _ _ _ _ FnExactLexiconOf_said (fun _ h => by cases h) (by kernel_rfl) (fun _ h => by cases h) fnExactLexiconOf_row_tie rfl ⟨rfl, rfl⟩ (prog_main.trans (by kernel_rfl)) rfl FnExactLexiconOf_plain FnExactLexiconOf_goes
#print axioms FnExactLexiconOf_card
end Go.Proofs.YtokfkofclpajfaaDoor
