/-
  The law of MakeLexicon is true of whatever it is given: the program answers as the model does, in memory of its own at each call, and changes nothing.
-/
import Derived.Test.YtomofgebobabnaaLF
import Derived.Test.YtomofgebobabnaaLD
namespace Go.Proofs.Ytomofgebobabnaa
open Go.ChangeShapes Go.WideShapes Go.ChangeAt Go.RowKit Go.Joins Go.Deep
open Go.ChangeMaps (open_string shut_string)

set_option maxRecDepth 100000 in
set_option maxHeartbeats 4000000 in
theorem FnExactMakeLexicon_walk (W : World) (us : List ByteArray) (v : Value) (hu : Strs W v us) (hz : ∀ s ∈ us, s.size ≤ maxLen) :
    Calls Try.prog 5 #[v] W fun e w' => e = .returned (.bool true) ∧ Below W.heap.size W w' := by
  have hB0 := Below.refl W.heap.size W
  have HU := Shh.mk hu
  obtain ⟨aa, ac, rfl, -⟩ := hu
  by_cases hsz : (1048576 : Int) < ((strsW us : Nat) : Int)
  · have HS := hid (szN_no hsz)
    clear hsz
    go_enter Try.func5, Try.ntmps5
    go_wp2_with fail
    refine (szStringS_any (1048576 : Int) _ (HU.out.below hB0) hz (by omega) (by omega)).mono ?_
    rw [HS.out]
    rintro e w1 ⟨rfl, hw⟩
    have hb1 : Below W.heap.size W w1 := by rw [← hw]; exact Below.refl _ _
    go_wp2
    go_ret
    exact ⟨rfl, hB0.trans (hb1.mono hB0.size)⟩
  · have HS := hid (szN_yes hsz)
    have hn : us.length ≤ 1048576 := by have := strsW_len us; omega
    have HN := Shh.mk hn
    have HW := Shh.mk (show strsW us ≤ 1048576 by omega)
    have hge : ¬ (1048576 : Int) - ((strsW us : Nat) : Int) < 0 := by omega
    obtain ⟨t, htt⟩ : ∃ t, makeOut us = t := ⟨_, rfl⟩
    have hos := show t.1.length ≤ 2000000 by rw [← htt]; exact Nat.le_trans (makeOut_len us) (by omega)
    obtain ⟨os, cd⟩ := t
    have hos : os.length ≤ 2000000 := hos
    have HT := Shh.mk htt
    clear hsz htt
    have B_0 := Shh.mk (hB0)
    go_enter Try.func5, Try.ntmps5
    go_wp2_with fail
    refine (szStringS_any (1048576 : Int) _ (HU.out.below B_0.out) hz (by omega) (by omega)).mono ?_
    rw [HS.out]
    rintro e w1 ⟨rfl, hw⟩
    have hb : Below W.heap.size W w1 := by rw [← hw]; exact Below.refl _ _
    clear hw
    have B_1 := Shh.mk (B_0.out.trans (hb.mono B_0.out.size))
    clear B_0
    clear hb
    go_wp2_with fail
    refine (toStringS_any _ (HU.out.below B_1.out) HN.out).mono ?_
    rintro e w2 ⟨x2, rfl, hg, hb⟩
    obtain ⟨a2, n2, rfl, -, -, -⟩ := own_form hg
    clear hge
    have B_2 := Shh.mk (B_1.out.trans (hb.mono B_1.out.size))
    clear B_1
    clear hb
    go_wp2_with fail
    refine (specMakeLexicon_any _ hg.strs hz HN.out).mono ?_
    rw [HT.out]
    rintro e w3 ⟨v3, rfl, hs, hb⟩
    unfold retL
    have hs : Strs w3 v3 os := hs
    have hs0 := hs
    obtain ⟨a3, c3, rfl, -⟩ := hs0
    have B_3 := Shh.mk (B_2.out.trans (hb.mono B_2.out.size))
    clear B_2
    clear hb hg
    have S_0 := Shh.mk (hs)
    clear hs
    have B_4 := Shh.mk (B_3.out.alloc B_3.out.size (.cells #[.slice a3 os.length c3] 27))
    have S_1 := Shh.mk (S_0.out.alloc (.cells #[.slice a3 os.length c3] 27))
    clear B_3 S_0
    have X_0 := Shh.mk (Blk.made w3 27 #[.slice a3 os.length c3])
    have D_0 := Shh.mk (Below.refl (w3.alloc (.cells #[.slice a3 os.length c3] 27)).heap.size (w3.alloc (.cells #[.slice a3 os.length c3] 27)))
    have HS0 := S_1
    have HB3 := Shh.mk (B_4.out.size)
    have HX3 := Shh.mk (X_0.out.lt)
    go_wp2_with fail
    refine (toStringS_any _ (HU.out.below B_4.out) HN.out).mono ?_
    rintro e w4 ⟨x4, rfl, hg, hb⟩
    obtain ⟨a4, n4, rfl, -, -, -⟩ := own_form hg
    have HL4 := Shh.mk (OwnS.block hg)
    have HH4 := Shh.mk (OwnS.under hg)
    have B_5 := Shh.mk (B_4.out.trans (hb.mono B_4.out.size))
    have S_2 := Shh.mk (S_1.out.below hb)
    have X_1 := Shh.mk (X_0.out.kept hb X_0.out.lt)
    have D_1 := Shh.mk (D_0.out.trans (hb.mono D_0.out.size))
    clear B_4 S_1 X_0 D_0
    clear hb
    have G_0 := Shh.mk (hg)
    clear hg
    go_wp2_with fail
    refine (implMakeLexicon_any _ (OwnS.strs G_0.out) hz HN.out).mono ?_
    rw [HT.out]
    rintro e w5 ⟨v5, rfl, ho, hb⟩
    unfold retL
    have ho : OwnS w4.heap.size w5 v5 os := ho
    obtain ⟨a5, c5, rfl, -, -, -⟩ := own_form ho
    have HD4 := Shh.mk (D_1.out.size)
    have HL5 := Shh.mk (OwnS.block ho)
    have HH5 := Shh.mk (OwnS.under ho)
    have HS5 := Shh.mk hb.size
    have B_6 := Shh.mk (B_5.out.trans (hb.mono B_5.out.size))
    have S_3 := Shh.mk (S_2.out.below hb)
    have X_2 := Shh.mk (X_1.out.kept hb X_1.out.lt)
    have D_2 := Shh.mk (D_1.out.trans (hb.mono D_1.out.size))
    have G_1 := Shh.mk (OwnS.kept G_0.out hb)
    clear B_5 S_2 X_1 D_1 G_0
    clear hb
    have O_0 := Shh.mk (ho)
    clear ho
    have B_7 := Shh.mk (B_6.out.alloc B_6.out.size (.cells #[.slice a5 os.length c5] 27))
    have S_4 := Shh.mk (S_3.out.alloc (.cells #[.slice a5 os.length c5] 27))
    have X_3 := Shh.mk (X_2.out.alloc (.cells #[.slice a5 os.length c5] 27))
    have D_3 := Shh.mk (D_2.out.alloc D_2.out.size (.cells #[.slice a5 os.length c5] 27))
    have G_2 := Shh.mk (OwnS.kept G_1.out ((Below.refl _ _).alloc (Nat.le_refl _) (.cells #[.slice a5 os.length c5] 27)))
    have O_1 := Shh.mk (OwnS.kept O_0.out ((Below.refl _ _).alloc (Nat.le_refl _) (.cells #[.slice a5 os.length c5] 27)))
    clear B_6 S_3 X_2 D_2 G_1 O_0
    have Z_0 := Shh.mk (Blk.made w5 27 #[.slice a5 os.length c5])
    have cell0 := Z_0.out.cells
    have cell1 := X_3.out.cells
    go_wp2_with fail
    refine (eqLexicon_same os _ (OwnS.strs O_1.out) S_4.out).mono ?_
    rintro e w6 ⟨rfl, hb⟩
    have B_8 := Shh.mk (B_7.out.trans (hb.mono B_7.out.size))
    have S_5 := Shh.mk (S_4.out.below hb)
    have X_4 := Shh.mk (X_3.out.kept hb X_3.out.lt)
    have D_4 := Shh.mk (D_3.out.trans (hb.mono D_3.out.size))
    have G_3 := Shh.mk (OwnS.kept G_2.out hb)
    have O_2 := Shh.mk (OwnS.kept O_1.out hb)
    have Z_1 := Shh.mk (Z_0.out.kept hb Z_0.out.lt)
    clear B_7 S_4 X_3 D_3 G_2 O_1 Z_0
    clear hb
    clear cell0 cell1
    go_wp2_with fail
    refine (toStringS_any _ (HU.out.below B_8.out) HN.out).mono ?_
    rintro e w6b ⟨x6, rfl, hg, hb⟩
    obtain ⟨a6, n6, rfl, -, -, -⟩ := own_form hg
    have B_9 := Shh.mk (B_8.out.trans (hb.mono B_8.out.size))
    have S_6 := Shh.mk (S_5.out.below hb)
    have X_5 := Shh.mk (X_4.out.kept hb X_4.out.lt)
    have D_5 := Shh.mk (D_4.out.trans (hb.mono D_4.out.size))
    have G_4 := Shh.mk (OwnS.kept G_3.out hb)
    have O_3 := Shh.mk (OwnS.kept O_2.out hb)
    have Z_2 := Shh.mk (Z_1.out.kept hb Z_1.out.lt)
    clear B_8 S_5 X_4 D_4 G_3 O_2 Z_1
    clear hb
    go_wp2_with fail
    refine (eqStringS_same _ (OwnS.strs G_4.out) hg.strs).mono ?_
    rintro e w7 ⟨rfl, n, hw⟩
    have hb : Below w6b.heap.size w6b w7 := by rw [hw]; exact below_drewN (Below.refl _ _) n
    clear hw hg
    have B_10 := Shh.mk (B_9.out.trans (hb.mono B_9.out.size))
    have S_7 := Shh.mk (S_6.out.below hb)
    have X_6 := Shh.mk (X_5.out.kept hb X_5.out.lt)
    have D_6 := Shh.mk (D_5.out.trans (hb.mono D_5.out.size))
    have G_5 := Shh.mk (OwnS.kept G_4.out hb)
    have O_4 := Shh.mk (OwnS.kept O_3.out hb)
    have Z_3 := Shh.mk (Z_2.out.kept hb Z_2.out.lt)
    clear B_9 S_6 X_5 D_5 G_4 O_3 Z_2
    clear hb
    go_wp2_with fail
    refine (markStringS_any 1 _ G_5.out (by omega) (by have := HN.out; omega)).mono ?_
    rintro e w8 ⟨rfl, hm, hg⟩
    clear hm
    clear G_5
    clear S_7
    have B_11 := Shh.mk (B_10.out.grown hg B_10.out.size (fun k hk => by have h1 := HL4.out k hk; have h2 := HH4.out k hk; have h3 := HS5.out; have h4 := HB3.out; have h6 := HX3.out; simp only [World.size_alloc] at *; omega))
    have X_7 := Shh.mk (X_6.out.grown hg (fun k hk => by have h1 := HL4.out k hk; have h2 := HH4.out k hk; have h3 := HS5.out; have h4 := HB3.out; have h6 := HX3.out; simp only [World.size_alloc] at *; omega))
    have D_7 := Shh.mk (D_6.out.grown hg D_6.out.size (fun k hk => by have h1 := HL4.out k hk; have h2 := HH4.out k hk; have h3 := HS5.out; have h4 := HB3.out; have h6 := HX3.out; simp only [World.size_alloc] at *; omega))
    have O_5 := Shh.mk (OwnS.grown O_4.out hg (fun k hk => by have h1 := HL4.out k hk; have h2 := HH4.out k hk; have h3 := HS5.out; have h4 := HB3.out; have h6 := HX3.out; simp only [World.size_alloc] at *; omega))
    have Z_4 := Shh.mk (Z_3.out.grown hg (fun k hk => by have h1 := HL4.out k hk; have h2 := HH4.out k hk; have h3 := HS5.out; have h4 := HB3.out; have h6 := HX3.out; simp only [World.size_alloc] at *; omega))
    clear B_10 X_6 D_6 O_4 Z_3
    clear hg
    have S_8 := Shh.mk (HS0.out.below D_7.out)
    have hnn : ¬ (((1 + us.length : Nat) : Int) < 0) := by omega
    have cell0 := Z_4.out.cells
    have cell1 := X_7.out.cells
    go_wp2_with fail
    refine (eqLexicon_same os _ (OwnS.strs O_5.out) S_8.out).mono ?_
    rintro e w9 ⟨rfl, hb⟩
    have B_12 := Shh.mk (B_11.out.trans (hb.mono B_11.out.size))
    have X_8 := Shh.mk (X_7.out.kept hb X_7.out.lt)
    have D_8 := Shh.mk (D_7.out.trans (hb.mono D_7.out.size))
    have O_6 := Shh.mk (OwnS.kept O_5.out hb)
    have Z_5 := Shh.mk (Z_4.out.kept hb Z_4.out.lt)
    have S_9 := Shh.mk (S_8.out.below hb)
    clear B_11 X_7 D_7 O_5 Z_4 S_8
    clear hb
    clear cell0 cell1
    clear hnn
    have cell0 := Z_5.out.cells
    go_wp2_with fail
    refine (markLexicon_any 1 _ O_6.out (by omega) (by omega)).mono ?_
    rintro e w10 ⟨rfl, hm, hg⟩
    clear cell0
    clear O_6
    clear S_9
    have B_13 := Shh.mk (B_12.out.grown hg B_12.out.size (fun k hk => by have h1 := HL5.out k hk; have h2 := HH5.out k hk; have h3 := HS5.out; have h4 := HB3.out; have h7 := HD4.out; have h6 := HX3.out; simp only [World.size_alloc] at *; omega))
    have X_9 := Shh.mk (X_8.out.grown hg (fun k hk => by have h1 := HL5.out k hk; have h2 := HH5.out k hk; have h3 := HS5.out; have h4 := HB3.out; have h7 := HD4.out; have h6 := HX3.out; simp only [World.size_alloc] at *; omega))
    have D_9 := Shh.mk (D_8.out.grown hg D_8.out.size (fun k hk => by have h1 := HL5.out k hk; have h2 := HH5.out k hk; have h3 := HS5.out; have h4 := HB3.out; have h7 := HD4.out; have h6 := HX3.out; simp only [World.size_alloc] at *; omega))
    have Z_6 := Shh.mk (Z_5.out.grown hg (fun k hk => by have h1 := HL5.out k hk; have h2 := HH5.out k hk; have h3 := HS5.out; have h4 := HB3.out; have h7 := HD4.out; have h6 := HX3.out; simp only [World.size_alloc] at *; omega))
    clear B_12 X_8 D_8 Z_5
    clear hg
    have S_10 := Shh.mk (HS0.out.below D_9.out)
    have M_0 := Shh.mk (OwnS.strs hm)
    clear hm
    have hnn : ¬ (((1 + os.length : Nat) : Int) < 0) := by omega
    have cell0 := Z_6.out.cells
    go_wp2_with fail
    refine (heldLexicon_any 1 os.length _ M_0.out (by omega) (by omega)).mono ?_
    rintro e w11 ⟨rfl, hb⟩
    clear cell0
    have B_14 := Shh.mk (B_13.out.trans (hb.mono B_13.out.size))
    have X_10 := Shh.mk (X_9.out.kept hb X_9.out.lt)
    have D_10 := Shh.mk (D_9.out.trans (hb.mono D_9.out.size))
    have Z_7 := Shh.mk (Z_6.out.kept hb Z_6.out.lt)
    have S_11 := Shh.mk (S_10.out.below hb)
    have M_1 := Shh.mk (M_0.out.below hb)
    clear B_13 X_9 D_9 Z_6 S_10 M_0
    clear hb
    go_wp2_with fail
    refine (toStringS_any _ (HU.out.below B_14.out) HN.out).mono ?_
    rintro e w12 ⟨x12, rfl, hg, hb⟩
    obtain ⟨a12, n12, rfl, -, -, -⟩ := own_form hg
    have B_15 := Shh.mk (B_14.out.trans (hb.mono B_14.out.size))
    have X_11 := Shh.mk (X_10.out.kept hb X_10.out.lt)
    have D_11 := Shh.mk (D_10.out.trans (hb.mono D_10.out.size))
    have Z_8 := Shh.mk (Z_7.out.kept hb Z_7.out.lt)
    have S_12 := Shh.mk (S_11.out.below hb)
    have M_2 := Shh.mk (M_1.out.below hb)
    clear B_14 X_10 D_10 Z_7 S_11 M_1
    clear hb
    go_wp2_with fail
    refine (implMakeLexicon_any _ hg.strs hz HN.out).mono ?_
    rw [HT.out]
    rintro e w13 ⟨v13, rfl, ho, hb⟩
    unfold retL
    have ho := show OwnS w12.heap.size w13 v13 os from ho
    obtain ⟨a13, c13, rfl, -, -, -⟩ := own_form ho
    have B_16 := Shh.mk (B_15.out.trans (hb.mono B_15.out.size))
    have X_12 := Shh.mk (X_11.out.kept hb X_11.out.lt)
    have D_12 := Shh.mk (D_11.out.trans (hb.mono D_11.out.size))
    have Z_9 := Shh.mk (Z_8.out.kept hb Z_8.out.lt)
    have S_13 := Shh.mk (S_12.out.below hb)
    have M_3 := Shh.mk (M_2.out.below hb)
    clear B_15 X_11 D_11 Z_8 S_12 M_2
    clear hb hg
    have O_7 := Shh.mk (ho)
    clear ho
    have B_17 := Shh.mk (B_16.out.alloc B_16.out.size (.cells #[.slice a13 os.length c13] 27))
    have X_13 := Shh.mk (X_12.out.alloc (.cells #[.slice a13 os.length c13] 27))
    have D_13 := Shh.mk (D_12.out.alloc D_12.out.size (.cells #[.slice a13 os.length c13] 27))
    have Z_10 := Shh.mk (Z_9.out.alloc (.cells #[.slice a13 os.length c13] 27))
    have S_14 := Shh.mk (S_13.out.alloc (.cells #[.slice a13 os.length c13] 27))
    have M_4 := Shh.mk (M_3.out.alloc (.cells #[.slice a13 os.length c13] 27))
    have O_8 := Shh.mk (OwnS.kept O_7.out ((Below.refl _ _).alloc (Nat.le_refl _) (.cells #[.slice a13 os.length c13] 27)))
    clear B_16 X_12 D_12 Z_9 S_13 M_3 O_7
    have U_0 := Shh.mk (Blk.made w13 27 #[.slice a13 os.length c13])
    have cell0 := U_0.out.cells
    have cell1 := X_13.out.cells
    go_wp2_with fail
    refine (eqLexicon_same os _ (OwnS.strs O_8.out) S_14.out).mono ?_
    rintro e w14 ⟨rfl, hb⟩
    have B_18 := Shh.mk (B_17.out.trans (hb.mono B_17.out.size))
    have X_14 := Shh.mk (X_13.out.kept hb X_13.out.lt)
    have D_14 := Shh.mk (D_13.out.trans (hb.mono D_13.out.size))
    have Z_11 := Shh.mk (Z_10.out.kept hb Z_10.out.lt)
    have S_15 := Shh.mk (S_14.out.below hb)
    have M_5 := Shh.mk (M_4.out.below hb)
    have O_9 := Shh.mk (OwnS.kept O_8.out hb)
    have U_1 := Shh.mk (U_0.out.kept hb U_0.out.lt)
    clear B_17 X_13 D_13 Z_10 S_14 M_4 O_8 U_0
    clear hb
    clear cell0 cell1
    have cell0 := Z_11.out.cells
    go_wp2_with fail
    refine (heldLexicon_any 1 os.length _ M_5.out (by omega) (by omega)).mono ?_
    rintro e w15 ⟨rfl, hb⟩
    clear cell0
    have B_19 := Shh.mk (B_18.out.trans (hb.mono B_18.out.size))
    have X_15 := Shh.mk (X_14.out.kept hb X_14.out.lt)
    have D_15 := Shh.mk (D_14.out.trans (hb.mono D_14.out.size))
    have Z_12 := Shh.mk (Z_11.out.kept hb Z_11.out.lt)
    have S_16 := Shh.mk (S_15.out.below hb)
    have M_6 := Shh.mk (M_5.out.below hb)
    have O_10 := Shh.mk (OwnS.kept O_9.out hb)
    have U_2 := Shh.mk (U_1.out.kept hb U_1.out.lt)
    clear B_18 X_14 D_14 Z_11 S_15 M_5 O_9 U_1
    clear hb
    go_wp2
    go_ret
    exact ⟨rfl, B_19.out⟩
set_option maxRecDepth 100000 in
theorem FnExactMakeLexicon_lifted (os : Os) (started : os.Started) (H : Type) (enc : TypeId × Value → H) :
    ReturnsInHanded {} Try.checked os 5 .any (Rows.fnExactMakeLexiconSpec.pre6 enc Try.prog Try.f5 Rows.fnExactMakeLexiconRow.domain false) (Rows.fnExactMakeLexiconSpec.post enc Try.prog Try.f5 false true false false) := by
  refine returnsInHanded_of_change (C := Try.checked) prog_own started (by kernel_rfl) Try.func5
    (ChangeSpec.witness6 (enc := enc) (C := Try.checked) false ⟨#[], #[.slice none 0 0], []⟩ 8 (by kernel_rfl) (by kernel_rfl) (by kernel_rfl) (by kernel_rfl)) ?_
  intro W base args ds gs before hval0 hW hcnd _
  have hval : ∀ (j : Nat) t v, Try.f5.params[j]? = some t → args[j]? = some v → Value.okWide Try.prog W .any base t v := hval0
  have hW' := hW
  obtain ⟨p, q, hA0, hV, rfl, hfz, hnd⟩ := hW
  have hA : DataW.TrodAll enc Try.prog W 0 (fun _ => true) true Try.f5.params.toList args.toList ds p := hA0
  rw [Try.params5] at hA hval
  obtain ⟨v0, vs0, d0, ds0, p0, q0, hargs, rfl, rfl, h0, r0⟩ := trodAll_cons hA
  obtain ⟨rfl, rfl, rfl⟩ := trodAll_nil r0
  obtain rfl : args = #[v0] := by cases args; simp_all
  obtain ⟨rfl, rfl⟩ := trodVars_none hV
  have k0 := h0
  have lt0 : ∀ x ∈ p0, x.block < W.heap.size := by obtain ⟨m, hm⟩ := k0; exact DataW.trod_lt m _ _ _ hm
  obtain ⟨fu0, hf0⟩ := h0
  obtain ⟨A0, len0, cap0, rfl⟩ := okWide_slice Try.underlying22 (hval 0 22 v0 rfl rfl)
  obtain ⟨ss0, hs0, zs0⟩ := strs_cell Try.underlying22 Try.underlying9 (by kernel_rfl) hf0
  clear hA0 hval0
  refine (FnExactMakeLexicon_walk W ss0 _ hs0 zs0).mono fun e W' ⟨he, bel⟩ => ?_
  subst he
  exact ⟨_, rfl, _, _, _, [], _, [], hW', trodAll_mk1 (shut_bool Try.underlying4 _), (trodAll_cons_mk (Below.trod prog_laid (by kernel_rfl) (of_decide_eq_true (by kernel_rfl)) k0 bel lt0) trodAll_mk0), rfl, bel.frame _, fun h => by cases h⟩

theorem FnExactMakeLexicon_holds : Rows.FnExactMakeLexiconSaid :=
  OpenClaim.holds_of_wide 5 Try.f5 rfl rfl rfl rfl rfl rfl rfl ⟨rfl, rfl, rfl, rfl, rfl⟩ rfl rfl rfl rfl rfl (by kernel_rfl) Try.func5 (by kernel_rfl)
    (of_decide_eq_true (by kernel_rfl)) (by unfold Func.isWrapper; rw [if_neg (of_decide_eq_false (by kernel_rfl))]; exact ⟨rfl, rfl⟩)
    (fun os started H enc _ => FnExactMakeLexicon_lifted os started H enc)
#print axioms FnExactMakeLexicon_holds
end Go.Proofs.Ytomofgebobabnaa
