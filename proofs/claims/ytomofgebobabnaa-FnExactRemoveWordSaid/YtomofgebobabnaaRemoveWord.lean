/-
  The law of RemoveWord is true of whatever it is given: the program answers as the model does, in memory of its own at each call, and changes nothing.
-/
import Derived.Test.YtomofgebobabnaaLE
import Derived.Test.YtomofgebobabnaaLD
namespace Go.Proofs.Ytomofgebobabnaa
open Go.ChangeShapes Go.WideShapes Go.ChangeAt Go.RowKit Go.Joins Go.Deep
open Go.ChangeMaps (open_string shut_string)

set_option maxRecDepth 100000 in
set_option maxHeartbeats 4000000 in
theorem FnExactRemoveWord_walk (W : World) (us : List ByteArray) (v : Value) (hu : Strs W v us) (hz : ∀ s ∈ us, s.size ≤ maxLen) (word : ByteArray) (_hword : word.size ≤ maxLen) :
    Calls Try.prog 8 #[.agg #[v], .string word] W fun e w' => e = .returned (.bool true) ∧ Below W.heap.size W w' := by
  have hB0 := (Below.refl W.heap.size W).alloc (Nat.le_refl _) (.cells #[v] 24)
  have HU := Shh.mk hu
  have P0 := Shh.mk (Blk.made W 24 #[v])
  obtain ⟨aa, ac, rfl, -⟩ := hu
  by_cases hla : word.size ≤ 1048576
  · have hl1 : ¬ (1048576 : Int) < (word.size : Int) := by omega
    by_cases hsz : (1048576 : Int) < ((strsW us : Nat) : Int)
    · have HS := hid (szN_no hsz)
      clear hsz
      go_enter Try.func8, Try.ntmps8
      go_wp2_with fail
      refine (szLexicon_any us 1048576 _ (HU.out.below hB0) hz (by omega) (by omega)).mono ?_
      rw [HS.out]
      rintro e w1 ⟨rfl, hb1⟩
      go_wp2
      go_ret
      exact ⟨rfl, hB0.trans (hb1.mono hB0.size)⟩
    · have HS := hid (szN_yes hsz)
      have hn : us.length ≤ 1048576 := by have := strsW_len us; omega
      have HN := Shh.mk hn
      have HW := Shh.mk (show strsW us ≤ 1048576 by omega)
      have hge : ¬ (1048576 : Int) - ((strsW us : Nat) : Int) < 0 := by omega
      obtain ⟨t, htt⟩ : ∃ t, remOut us word = t := ⟨_, rfl⟩
      have hos := show t.1.length ≤ 2000000 by rw [← htt]; exact Nat.le_trans (remOut_len us word) (by omega)
      obtain ⟨os, cd⟩ := t
      have hos : os.length ≤ 2000000 := hos
      have HT := Shh.mk htt
      clear hsz htt
      have B_0 := Shh.mk (hB0)
      have Q_0 := Shh.mk (P0.out)
      go_enter Try.func8, Try.ntmps8
      go_wp2_with fail
      refine (szLexicon_any us 1048576 _ (HU.out.below B_0.out) hz (by omega) (by omega)).mono ?_
      rw [HS.out]
      rintro e w1 ⟨rfl, hb⟩
      have B_1 := Shh.mk (B_0.out.trans (hb.mono B_0.out.size))
      have Q_1 := Shh.mk (Q_0.out.kept hb Q_0.out.lt)
      clear B_0 Q_0
      clear hb
      have cell0 := Q_1.out.cells
      go_wp2_with fail
      refine (toLexicon_any us _ (HU.out.below B_1.out) HN.out).mono ?_
      rintro e w2 ⟨a2, n2, rfl, hg, hb⟩
      clear cell0
      clear hge
      have B_2 := Shh.mk (B_1.out.trans (hb.mono B_1.out.size))
      have Q_2 := Shh.mk (Q_1.out.kept hb Q_1.out.lt)
      clear B_1 Q_1
      clear hb
      go_wp2_with fail
      refine (specRemoveWord_any word _ hg.strs hz (by omega)).mono ?_
      rw [HT.out]
      rintro e w3 ⟨v3, rfl, hs, hb⟩
      unfold retL
      have hs : Strs w3 v3 os := hs
      have hs0 := hs
      obtain ⟨a3, c3, rfl, -⟩ := hs0
      have B_3 := Shh.mk (B_2.out.trans (hb.mono B_2.out.size))
      have Q_3 := Shh.mk (Q_2.out.kept hb Q_2.out.lt)
      clear B_2 Q_2
      clear hb hg
      have S_0 := Shh.mk (hs)
      clear hs
      have B_4 := Shh.mk (B_3.out.alloc B_3.out.size (.cells #[.slice a3 os.length c3] 27))
      have Q_4 := Shh.mk (Q_3.out.alloc (.cells #[.slice a3 os.length c3] 27))
      have S_1 := Shh.mk (S_0.out.alloc (.cells #[.slice a3 os.length c3] 27))
      clear B_3 Q_3 S_0
      have X_0 := Shh.mk (Blk.made w3 27 #[.slice a3 os.length c3])
      have D_0 := Shh.mk (Below.refl (w3.alloc (.cells #[.slice a3 os.length c3] 27)).heap.size (w3.alloc (.cells #[.slice a3 os.length c3] 27)))
      have HS0 := S_1
      have HB3 := Shh.mk (B_4.out.size)
      have HQ3 := Shh.mk (Q_4.out.lt)
      have HX3 := Shh.mk (X_0.out.lt)
      have cell0 := Q_4.out.cells
      go_wp2_with fail
      refine (toLexicon_any us _ (HU.out.below B_4.out) HN.out).mono ?_
      rintro e w4 ⟨a4, n4, rfl, hg, hb⟩
      clear cell0
      have HL4 := Shh.mk (OwnS.block hg)
      have HH4 := Shh.mk (OwnS.under hg)
      have B_5 := Shh.mk (B_4.out.trans (hb.mono B_4.out.size))
      have Q_5 := Shh.mk (Q_4.out.kept hb Q_4.out.lt)
      have S_2 := Shh.mk (S_1.out.below hb)
      have X_1 := Shh.mk (X_0.out.kept hb X_0.out.lt)
      have D_1 := Shh.mk (D_0.out.trans (hb.mono D_0.out.size))
      clear B_4 Q_4 S_1 X_0 D_0
      clear hb
      have G_0 := Shh.mk (hg)
      clear hg
      have B_6 := Shh.mk (B_5.out.alloc B_5.out.size (.cells #[.slice a4 us.length n4] 27))
      have Q_6 := Shh.mk (Q_5.out.alloc (.cells #[.slice a4 us.length n4] 27))
      have S_3 := Shh.mk (S_2.out.alloc (.cells #[.slice a4 us.length n4] 27))
      have X_2 := Shh.mk (X_1.out.alloc (.cells #[.slice a4 us.length n4] 27))
      have D_2 := Shh.mk (D_1.out.alloc D_1.out.size (.cells #[.slice a4 us.length n4] 27))
      have G_1 := Shh.mk (OwnS.kept G_0.out ((Below.refl _ _).alloc (Nat.le_refl _) (.cells #[.slice a4 us.length n4] 27)))
      clear B_5 Q_5 S_2 X_1 D_1 G_0
      have Y_0 := Shh.mk (Blk.made w4 27 #[.slice a4 us.length n4])
      have cell0 := Y_0.out.cells
      go_wp2_with fail
      refine (implRemoveWord_any word _ (OwnS.strs G_1.out) hz (by omega)).mono ?_
      rw [HT.out]
      rintro e w5 ⟨v5, rfl, ho, hb⟩
      unfold retL
      have ho : OwnS (w4.alloc (.cells #[.slice a4 us.length n4] 27)).heap.size w5 v5 os := ho
      obtain ⟨a5, c5, rfl, -, -, -⟩ := own_form ho
      clear cell0
      have HD4 := Shh.mk (D_2.out.size)
      have HL5 := Shh.mk (OwnS.block ho)
      have HH5 := Shh.mk (OwnS.under ho)
      have HS5 := Shh.mk hb.size
      have B_7 := Shh.mk (B_6.out.trans (hb.mono B_6.out.size))
      have Q_7 := Shh.mk (Q_6.out.kept hb Q_6.out.lt)
      have S_4 := Shh.mk (S_3.out.below hb)
      have X_3 := Shh.mk (X_2.out.kept hb X_2.out.lt)
      have D_3 := Shh.mk (D_2.out.trans (hb.mono D_2.out.size))
      have G_2 := Shh.mk (OwnS.kept G_1.out hb)
      have Y_1 := Shh.mk (Y_0.out.kept hb Y_0.out.lt)
      clear B_6 Q_6 S_3 X_2 D_2 G_1 Y_0
      clear hb
      have O_0 := Shh.mk (ho)
      clear ho
      have B_8 := Shh.mk (B_7.out.alloc B_7.out.size (.cells #[.slice a5 os.length c5] 27))
      have Q_8 := Shh.mk (Q_7.out.alloc (.cells #[.slice a5 os.length c5] 27))
      have S_5 := Shh.mk (S_4.out.alloc (.cells #[.slice a5 os.length c5] 27))
      have X_4 := Shh.mk (X_3.out.alloc (.cells #[.slice a5 os.length c5] 27))
      have D_4 := Shh.mk (D_3.out.alloc D_3.out.size (.cells #[.slice a5 os.length c5] 27))
      have G_3 := Shh.mk (OwnS.kept G_2.out ((Below.refl _ _).alloc (Nat.le_refl _) (.cells #[.slice a5 os.length c5] 27)))
      have Y_2 := Shh.mk (Y_1.out.alloc (.cells #[.slice a5 os.length c5] 27))
      have O_1 := Shh.mk (OwnS.kept O_0.out ((Below.refl _ _).alloc (Nat.le_refl _) (.cells #[.slice a5 os.length c5] 27)))
      clear B_7 Q_7 S_4 X_3 D_3 G_2 Y_1 O_0
      have Z_0 := Shh.mk (Blk.made w5 27 #[.slice a5 os.length c5])
      have cell0 := Z_0.out.cells
      have cell1 := X_4.out.cells
      go_wp2_with fail
      refine (eqLexicon_same os _ (OwnS.strs O_1.out) S_5.out).mono ?_
      rintro e w6 ⟨rfl, hb⟩
      have B_9 := Shh.mk (B_8.out.trans (hb.mono B_8.out.size))
      have Q_9 := Shh.mk (Q_8.out.kept hb Q_8.out.lt)
      have S_6 := Shh.mk (S_5.out.below hb)
      have X_5 := Shh.mk (X_4.out.kept hb X_4.out.lt)
      have D_5 := Shh.mk (D_4.out.trans (hb.mono D_4.out.size))
      have G_4 := Shh.mk (OwnS.kept G_3.out hb)
      have Y_3 := Shh.mk (Y_2.out.kept hb Y_2.out.lt)
      have O_2 := Shh.mk (OwnS.kept O_1.out hb)
      have Z_1 := Shh.mk (Z_0.out.kept hb Z_0.out.lt)
      clear B_8 Q_8 S_5 X_4 D_4 G_3 Y_2 O_1 Z_0
      clear hb
      clear cell0 cell1
      go_wp2
      have HK := Shh.mk (fun w' (hb : Below w6.heap.size w6 w') => twoLex Y_3.out Q_9.out hb)
      have HGW := Shh.mk (HU.out.below B_9.out)
      go_region_held3 (fun w' => w'.cell? ⟨w4.heap.size, 0, none⟩ = some (.slice a4 us.length n4) ∧ w'.cell? ⟨W.heap.size, 0, none⟩ = some (.slice aa us.length ac))
        (exact HK.out _ (by first | assumption | exact (Below.refl _ _).drew))
        (first
          | (go_at_call 17; with_reducible refine (toL_on w6 _ (by first | assumption | exact (Below.refl _ _).drew) HGW.out HN.out).mono ?_; rintro e w6b ⟨a6, s6, rfl, hg6, hb6, hc6⟩)
          | (go_at_call 19; refine (eqL_on w6 _ (by assumption) (Strs.below (OwnS.strs G_4.out) (by assumption)) hg6).mono ?_; rintro e w7 ⟨rfl, hb⟩))
      all_goals
        clear HK HGW
        have B_10 := Shh.mk (B_9.out.trans (hb.mono B_9.out.size))
        have Q_10 := Shh.mk (Q_9.out.kept hb Q_9.out.lt)
        have S_7 := Shh.mk (S_6.out.below hb)
        have X_6 := Shh.mk (X_5.out.kept hb X_5.out.lt)
        have D_6 := Shh.mk (D_5.out.trans (hb.mono D_5.out.size))
        have G_5 := Shh.mk (OwnS.kept G_4.out hb)
        have Y_4 := Shh.mk (Y_3.out.kept hb Y_3.out.lt)
        have O_3 := Shh.mk (OwnS.kept O_2.out hb)
        have Z_2 := Shh.mk (Z_1.out.kept hb Z_1.out.lt)
        clear B_9 Q_9 S_6 X_5 D_5 G_4 Y_3 O_2 Z_1
        clear hb
        have cell0 := Y_4.out.cells
        go_wp2_with fail
        refine (markLexicon_any 1 _ G_5.out (by omega) (by have := HN.out; omega)).mono ?_
        rintro e w8 ⟨rfl, hm, hg⟩
        clear hm
        clear cell0
        clear G_5
        clear Y_4
        clear S_7
        have B_11 := Shh.mk (B_10.out.grown hg B_10.out.size (fun k hk => by have h1 := HL4.out k hk; have h2 := HH4.out k hk; have h3 := HS5.out; have h4 := HB3.out; have h5 := HQ3.out; have h6 := HX3.out; simp only [World.size_alloc] at *; omega))
        have Q_11 := Shh.mk (Q_10.out.grown hg (fun k hk => by have h1 := HL4.out k hk; have h2 := HH4.out k hk; have h3 := HS5.out; have h4 := HB3.out; have h5 := HQ3.out; have h6 := HX3.out; simp only [World.size_alloc] at *; omega))
        have X_7 := Shh.mk (X_6.out.grown hg (fun k hk => by have h1 := HL4.out k hk; have h2 := HH4.out k hk; have h3 := HS5.out; have h4 := HB3.out; have h5 := HQ3.out; have h6 := HX3.out; simp only [World.size_alloc] at *; omega))
        have D_7 := Shh.mk (D_6.out.grown hg D_6.out.size (fun k hk => by have h1 := HL4.out k hk; have h2 := HH4.out k hk; have h3 := HS5.out; have h4 := HB3.out; have h5 := HQ3.out; have h6 := HX3.out; simp only [World.size_alloc] at *; omega))
        have O_4 := Shh.mk (OwnS.grown O_3.out hg (fun k hk => by have h1 := HL4.out k hk; have h2 := HH4.out k hk; have h3 := HS5.out; have h4 := HB3.out; have h5 := HQ3.out; have h6 := HX3.out; simp only [World.size_alloc] at *; omega))
        have Z_3 := Shh.mk (Z_2.out.grown hg (fun k hk => by have h1 := HL4.out k hk; have h2 := HH4.out k hk; have h3 := HS5.out; have h4 := HB3.out; have h5 := HQ3.out; have h6 := HX3.out; simp only [World.size_alloc] at *; omega))
        clear B_10 Q_10 X_6 D_6 O_3 Z_2
        clear hg
        have S_8 := Shh.mk (HS0.out.below D_7.out)
        have hnn : ¬ (((1 + us.length : Nat) : Int) < 0) := by omega
        have cell0 := Z_3.out.cells
        have cell1 := X_7.out.cells
        go_wp2_with fail
        refine (eqLexicon_same os _ (OwnS.strs O_4.out) S_8.out).mono ?_
        rintro e w9 ⟨rfl, hb⟩
        have B_12 := Shh.mk (B_11.out.trans (hb.mono B_11.out.size))
        have Q_12 := Shh.mk (Q_11.out.kept hb Q_11.out.lt)
        have X_8 := Shh.mk (X_7.out.kept hb X_7.out.lt)
        have D_8 := Shh.mk (D_7.out.trans (hb.mono D_7.out.size))
        have O_5 := Shh.mk (OwnS.kept O_4.out hb)
        have Z_4 := Shh.mk (Z_3.out.kept hb Z_3.out.lt)
        have S_9 := Shh.mk (S_8.out.below hb)
        clear B_11 Q_11 X_7 D_7 O_4 Z_3 S_8
        clear hb
        clear cell0 cell1
        clear hnn
        have cell0 := Z_4.out.cells
        go_wp2_with fail
        refine (markLexicon_any 1 _ O_5.out (by omega) (by omega)).mono ?_
        rintro e w10 ⟨rfl, hm, hg⟩
        clear cell0
        clear O_5
        clear S_9
        have B_13 := Shh.mk (B_12.out.grown hg B_12.out.size (fun k hk => by have h1 := HL5.out k hk; have h2 := HH5.out k hk; have h3 := HS5.out; have h4 := HB3.out; have h7 := HD4.out; have h5 := HQ3.out; have h6 := HX3.out; simp only [World.size_alloc] at *; omega))
        have Q_13 := Shh.mk (Q_12.out.grown hg (fun k hk => by have h1 := HL5.out k hk; have h2 := HH5.out k hk; have h3 := HS5.out; have h4 := HB3.out; have h7 := HD4.out; have h5 := HQ3.out; have h6 := HX3.out; simp only [World.size_alloc] at *; omega))
        have X_9 := Shh.mk (X_8.out.grown hg (fun k hk => by have h1 := HL5.out k hk; have h2 := HH5.out k hk; have h3 := HS5.out; have h4 := HB3.out; have h7 := HD4.out; have h5 := HQ3.out; have h6 := HX3.out; simp only [World.size_alloc] at *; omega))
        have D_9 := Shh.mk (D_8.out.grown hg D_8.out.size (fun k hk => by have h1 := HL5.out k hk; have h2 := HH5.out k hk; have h3 := HS5.out; have h4 := HB3.out; have h7 := HD4.out; have h5 := HQ3.out; have h6 := HX3.out; simp only [World.size_alloc] at *; omega))
        have Z_5 := Shh.mk (Z_4.out.grown hg (fun k hk => by have h1 := HL5.out k hk; have h2 := HH5.out k hk; have h3 := HS5.out; have h4 := HB3.out; have h7 := HD4.out; have h5 := HQ3.out; have h6 := HX3.out; simp only [World.size_alloc] at *; omega))
        clear B_12 Q_12 X_8 D_8 Z_4
        clear hg
        have S_10 := Shh.mk (HS0.out.below D_9.out)
        have M_0 := Shh.mk (OwnS.strs hm)
        clear hm
        have hnn : ¬ (((1 + os.length : Nat) : Int) < 0) := by omega
        have cell0 := Z_5.out.cells
        go_wp2_with fail
        refine (heldLexicon_any 1 os.length _ M_0.out (by omega) (by omega)).mono ?_
        rintro e w11 ⟨rfl, hb⟩
        clear cell0
        have B_14 := Shh.mk (B_13.out.trans (hb.mono B_13.out.size))
        have Q_14 := Shh.mk (Q_13.out.kept hb Q_13.out.lt)
        have X_10 := Shh.mk (X_9.out.kept hb X_9.out.lt)
        have D_10 := Shh.mk (D_9.out.trans (hb.mono D_9.out.size))
        have Z_6 := Shh.mk (Z_5.out.kept hb Z_5.out.lt)
        have S_11 := Shh.mk (S_10.out.below hb)
        have M_1 := Shh.mk (M_0.out.below hb)
        clear B_13 Q_13 X_9 D_9 Z_5 S_10 M_0
        clear hb
        have cell0 := Q_14.out.cells
        go_wp2_with fail
        refine (toLexicon_any us _ (HU.out.below B_14.out) HN.out).mono ?_
        rintro e w12 ⟨a12, n12, rfl, hg, hb⟩
        clear cell0
        have B_15 := Shh.mk (B_14.out.trans (hb.mono B_14.out.size))
        have Q_15 := Shh.mk (Q_14.out.kept hb Q_14.out.lt)
        have X_11 := Shh.mk (X_10.out.kept hb X_10.out.lt)
        have D_11 := Shh.mk (D_10.out.trans (hb.mono D_10.out.size))
        have Z_7 := Shh.mk (Z_6.out.kept hb Z_6.out.lt)
        have S_12 := Shh.mk (S_11.out.below hb)
        have M_2 := Shh.mk (M_1.out.below hb)
        clear B_14 Q_14 X_10 D_10 Z_6 S_11 M_1
        clear hb
        go_wp2_with fail
        refine (implRemoveWord_any word _ hg.strs hz (by omega)).mono ?_
        rw [HT.out]
        rintro e w13 ⟨v13, rfl, ho, hb⟩
        unfold retL
        have ho := show OwnS w12.heap.size w13 v13 os from ho
        obtain ⟨a13, c13, rfl, -, -, -⟩ := own_form ho
        have B_16 := Shh.mk (B_15.out.trans (hb.mono B_15.out.size))
        have Q_16 := Shh.mk (Q_15.out.kept hb Q_15.out.lt)
        have X_12 := Shh.mk (X_11.out.kept hb X_11.out.lt)
        have D_12 := Shh.mk (D_11.out.trans (hb.mono D_11.out.size))
        have Z_8 := Shh.mk (Z_7.out.kept hb Z_7.out.lt)
        have S_13 := Shh.mk (S_12.out.below hb)
        have M_3 := Shh.mk (M_2.out.below hb)
        clear B_15 Q_15 X_11 D_11 Z_7 S_12 M_2
        clear hb hg
        have O_6 := Shh.mk (ho)
        clear ho
        have B_17 := Shh.mk (B_16.out.alloc B_16.out.size (.cells #[.slice a13 os.length c13] 27))
        have Q_17 := Shh.mk (Q_16.out.alloc (.cells #[.slice a13 os.length c13] 27))
        have X_13 := Shh.mk (X_12.out.alloc (.cells #[.slice a13 os.length c13] 27))
        have D_13 := Shh.mk (D_12.out.alloc D_12.out.size (.cells #[.slice a13 os.length c13] 27))
        have Z_9 := Shh.mk (Z_8.out.alloc (.cells #[.slice a13 os.length c13] 27))
        have S_14 := Shh.mk (S_13.out.alloc (.cells #[.slice a13 os.length c13] 27))
        have M_4 := Shh.mk (M_3.out.alloc (.cells #[.slice a13 os.length c13] 27))
        have O_7 := Shh.mk (OwnS.kept O_6.out ((Below.refl _ _).alloc (Nat.le_refl _) (.cells #[.slice a13 os.length c13] 27)))
        clear B_16 Q_16 X_12 D_12 Z_8 S_13 M_3 O_6
        have U_0 := Shh.mk (Blk.made w13 27 #[.slice a13 os.length c13])
        have cell0 := U_0.out.cells
        have cell1 := X_13.out.cells
        go_wp2_with fail
        refine (eqLexicon_same os _ (OwnS.strs O_7.out) S_14.out).mono ?_
        rintro e w14 ⟨rfl, hb⟩
        have B_18 := Shh.mk (B_17.out.trans (hb.mono B_17.out.size))
        have Q_18 := Shh.mk (Q_17.out.kept hb Q_17.out.lt)
        have X_14 := Shh.mk (X_13.out.kept hb X_13.out.lt)
        have D_14 := Shh.mk (D_13.out.trans (hb.mono D_13.out.size))
        have Z_10 := Shh.mk (Z_9.out.kept hb Z_9.out.lt)
        have S_15 := Shh.mk (S_14.out.below hb)
        have M_5 := Shh.mk (M_4.out.below hb)
        have O_8 := Shh.mk (OwnS.kept O_7.out hb)
        have U_1 := Shh.mk (U_0.out.kept hb U_0.out.lt)
        clear B_17 Q_17 X_13 D_13 Z_9 S_14 M_4 O_7 U_0
        clear hb
        clear cell0 cell1
        have cell0 := Z_10.out.cells
        go_wp2_with fail
        refine (heldLexicon_any 1 os.length _ M_5.out (by omega) (by omega)).mono ?_
        rintro e w15 ⟨rfl, hb⟩
        clear cell0
        have B_19 := Shh.mk (B_18.out.trans (hb.mono B_18.out.size))
        have Q_19 := Shh.mk (Q_18.out.kept hb Q_18.out.lt)
        have X_15 := Shh.mk (X_14.out.kept hb X_14.out.lt)
        have D_15 := Shh.mk (D_14.out.trans (hb.mono D_14.out.size))
        have Z_11 := Shh.mk (Z_10.out.kept hb Z_10.out.lt)
        have S_16 := Shh.mk (S_15.out.below hb)
        have M_6 := Shh.mk (M_5.out.below hb)
        have O_9 := Shh.mk (OwnS.kept O_8.out hb)
        have U_2 := Shh.mk (U_1.out.kept hb U_1.out.lt)
        clear B_18 Q_18 X_14 D_14 Z_10 S_15 M_5 O_8 U_1
        clear hb
        go_wp2
        go_ret
        exact ⟨rfl, B_19.out⟩
  · have hl1 : (1048576 : Int) < (word.size : Int) := by omega
    clear hla
    go_enter Try.func8, Try.ntmps8
    go_wp2
    go_ret
    exact ⟨rfl, hB0⟩

set_option maxRecDepth 100000 in
theorem FnExactRemoveWord_lifted (os : Os) (started : os.Started) (H : Type) (enc : TypeId × Value → H) :
    ReturnsInHanded {} Try.checked os 8 .any (Rows.fnExactRemoveWordSpec.pre6 enc Try.prog Try.f8 Rows.fnExactRemoveWordRow.domain false) (Rows.fnExactRemoveWordSpec.post enc Try.prog Try.f8 false true false false) := by
  refine returnsInHanded_of_change (C := Try.checked) prog_own started (by kernel_rfl) Try.func8
    (ChangeSpec.witness6 (enc := enc) (C := Try.checked) false ⟨#[], #[.agg #[.slice none 0 0], .string ByteArray.empty], []⟩ 8 (by kernel_rfl) (by kernel_rfl) (by kernel_rfl) (by kernel_rfl)) ?_
  intro W base args ds gs before hval0 hW hcnd _
  have hval : ∀ (j : Nat) t v, Try.f8.params[j]? = some t → args[j]? = some v → Value.okWide Try.prog W .any base t v := hval0
  have hW' := hW
  obtain ⟨p, q, hA0, hV, rfl, hfz, hnd⟩ := hW
  have hA : DataW.TrodAll enc Try.prog W 0 (fun _ => true) true Try.f8.params.toList args.toList ds p := hA0
  rw [Try.params8] at hA hval
  obtain ⟨v0, vs0, d0, ds0, p0, q0, hargs, rfl, rfl, h0, r0⟩ := trodAll_cons hA
  obtain ⟨v1, vs1, d1, ds1, p1, q1, rfl, rfl, rfl, h1, r1⟩ := trodAll_cons r0
  obtain ⟨rfl, rfl, rfl⟩ := trodAll_nil r1
  obtain rfl : args = #[v0, v1] := by cases args; simp_all
  obtain ⟨rfl, rfl⟩ := trodVars_none hV
  have k0 := h0
  have lt0 : ∀ x ∈ p0, x.block < W.heap.size := by obtain ⟨m, hm⟩ := k0; exact DataW.trod_lt m _ _ _ hm
  obtain ⟨c00, y00, n0, rfl, rfl, rfl, f00⟩ := open_agg1 Try.underlying24 (by kernel_rfl) (by kernel_rfl) (hval 0 24 v0 rfl rfl) h0
  obtain ⟨ss0, hs0, zs0⟩ := strs_cell Try.underlying22 Try.underlying9 (by kernel_rfl) f00
  have k1 := h1
  have lt1 : ∀ x ∈ p1, x.block < W.heap.size := by obtain ⟨m, hm⟩ := k1; exact DataW.trod_lt m _ _ _ hm
  obtain ⟨a1, rfl, rfl, rfl, w1⟩ := open_string Try.underlying9 (hval 1 9 v1 rfl rfl) h1
  clear hA0 hval0
  refine (FnExactRemoveWord_walk W ss0 _ hs0 zs0 a1 w1).mono fun e W' ⟨he, bel⟩ => ?_
  subst he
  exact ⟨_, rfl, _, _, _, [], _, [], hW', trodAll_mk1 (shut_bool Try.underlying4 _), (trodAll_cons_mk (Below.trod prog_laid (by kernel_rfl) (of_decide_eq_true (by kernel_rfl)) k0 bel lt0) (trodAll_cons_mk (Below.trod prog_laid (by kernel_rfl) (of_decide_eq_true (by kernel_rfl)) k1 bel lt1) trodAll_mk0)), rfl, bel.frame _, fun h => by cases h⟩

theorem FnExactRemoveWord_holds : Rows.FnExactRemoveWordSaid :=
  OpenClaim.holds_of_wide 8 Try.f8 rfl rfl rfl rfl rfl rfl rfl ⟨rfl, rfl, rfl, rfl, rfl⟩ rfl rfl rfl rfl rfl (by kernel_rfl) Try.func8 (by kernel_rfl)
    (of_decide_eq_true (by kernel_rfl)) (by unfold Func.isWrapper; rw [if_neg (of_decide_eq_false (by kernel_rfl))]; exact ⟨rfl, rfl⟩)
    (fun os started H enc _ => FnExactRemoveWord_lifted os started H enc)
#print axioms FnExactRemoveWord_holds
end Go.Proofs.Ytomofgebobabnaa
