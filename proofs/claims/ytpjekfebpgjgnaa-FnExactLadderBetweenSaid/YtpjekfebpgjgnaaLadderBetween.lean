/-
  The law of LadderBetween is true of whatever it is given: the program answers as the model does, in memory of its own at each call, and changes nothing.
-/
import Derived.Test.YtpjekfebpgjgnaaUS
import Derived.Test.YtpjekfebpgjgnaaUX
import Derived.Test.YtpjekfebpgjgnaaLD
import Derived.Test.YtpjekfebpgjgnaaWQ
namespace Go.Proofs.Ytpjekfebpgjgnaa
open Go.ChangeShapes Go.WideShapes Go.ChangeAt Go.RowKit Go.Joins Go.Deep
open Go.ChangeMaps (open_string shut_string)

set_option maxRecDepth 100000 in
set_option maxHeartbeats 4000000 in
theorem FnExactLadderBetween_walk (W : World) (us : List ByteArray) (v : Value) (hu : Strs W v us) (hz : ∀ s ∈ us, s.size ≤ maxLen) (a : ByteArray) (_ha : a.size ≤ maxLen) (b : ByteArray) (_hb : b.size ≤ maxLen) :
    Calls Try.prog 17 #[.agg #[v], .string a, .string b] W fun e w' => e = .returned (.bool true) ∧ Below W.heap.size W w' := by
  have hB0 := (Below.refl W.heap.size W).alloc (Nat.le_refl _) (.cells #[v] 43)
  have HU := Shh.mk hu
  have P0 := Shh.mk (Blk.made W 43 #[v])
  obtain ⟨aa, ac, rfl, -⟩ := hu
  by_cases hla : a.size ≤ 1048576
  · have hl1 : ¬ (1048576 : Int) < (a.size : Int) := by omega
    by_cases hlb : b.size ≤ 1048576
    · have hl2 : ¬ (1048576 : Int) < (b.size : Int) := by omega
      by_cases hsz : (1048576 : Int) < ((strsW us : Nat) : Int)
      · have HS := hid (szN_no hsz)
        clear hsz
        go_enter Try.func17, Try.ntmps17
        go_wp2_with fail
        refine (szLexicon_any us 1048576 _ (HU.out.below hB0) hz (by omega) (by omega)).mono ?_
        rw [HS.out]
        rintro e w1 ⟨rfl, hb1⟩
        go_wp2
        go_ret
        exact ⟨rfl, hB0.trans (hb1.mono hB0.size)⟩
      · have HS := hid (szN_yes hsz)
        have hn : us.length ≤ 1048576 := by have := strsW_len us; omega
        have HN := Shh.mk hn
        have HW := Shh.mk (show strsW us ≤ 1048576 by omega)
        have hge : ¬ (1048576 : Int) - ((strsW us : Nat) : Int) < 0 := by omega
        obtain ⟨t, htt⟩ : ∃ t, ladOut us a b = t := ⟨_, rfl⟩
        have hos := show t.1.length ≤ 2000000 by rw [← htt]; exact Nat.le_trans (ladOut_len us a b) (by omega)
        obtain ⟨os, cd⟩ := t
        have hos : os.length ≤ 2000000 := hos
        have HT := Shh.mk htt
        clear hsz htt
        have B_0 := Shh.mk (hB0)
        have Q_0 := Shh.mk (P0.out)
        go_enter Try.func17, Try.ntmps17
        go_wp2_with fail
        refine (szLexicon_any us 1048576 _ (HU.out.below B_0.out) hz (by omega) (by omega)).mono ?_
        rw [HS.out]
        rintro e w1 ⟨rfl, hb⟩
        have B_1 := Shh.mk (B_0.out.trans (hb.mono B_0.out.size))
        have Q_1 := Shh.mk (Q_0.out.kept hb Q_0.out.lt)
        clear B_0 Q_0
        clear hb
        have cell0 := Q_1.out.cells
        go_wp2_with fail
        refine (toLexicon_any us _ (HU.out.below B_1.out) HN.out).mono ?_
        rintro e w2 ⟨a2, n2, rfl, hg, hb⟩
        clear cell0
        clear hge
        have B_2 := Shh.mk (B_1.out.trans (hb.mono B_1.out.size))
        have Q_2 := Shh.mk (Q_1.out.kept hb Q_1.out.lt)
        clear B_1 Q_1
        clear hb
        go_wp2_with fail
        refine (specLadderBetween_any a b _ hg.strs hz).mono ?_
        rw [HT.out]
        rintro e w3 ⟨v3, rfl, hs, hb⟩
        unfold retS
        have hs : Strs w3 v3 os := hs
        have hs0 := hs
        obtain ⟨a3, c3, rfl, -⟩ := hs0
        have B_3 := Shh.mk (B_2.out.trans (hb.mono B_2.out.size))
        have Q_3 := Shh.mk (Q_2.out.kept hb Q_2.out.lt)
        clear B_2 Q_2
        clear hb hg
        have S_0 := Shh.mk (hs)
        clear hs
        have D_0 := Shh.mk (Below.refl w3.heap.size w3)
        have HS0 := S_0
        have HB3 := Shh.mk (B_3.out.size)
        have HQ3 := Shh.mk (Q_3.out.lt)
        have cell0 := Q_3.out.cells
        go_wp2_with fail
        refine (toLexicon_any us _ (HU.out.below B_3.out) HN.out).mono ?_
        rintro e w4 ⟨a4, n4, rfl, hg, hb⟩
        clear cell0
        have HL4 := Shh.mk (OwnS.block hg)
        have HH4 := Shh.mk (OwnS.under hg)
        have B_4 := Shh.mk (B_3.out.trans (hb.mono B_3.out.size))
        have Q_4 := Shh.mk (Q_3.out.kept hb Q_3.out.lt)
        have S_1 := Shh.mk (S_0.out.below hb)
        have D_1 := Shh.mk (D_0.out.trans (hb.mono D_0.out.size))
        clear B_3 Q_3 S_0 D_0
        clear hb
        have G_0 := Shh.mk (hg)
        clear hg
        have B_5 := Shh.mk (B_4.out.alloc B_4.out.size (.cells #[.slice a4 us.length n4] 26))
        have Q_5 := Shh.mk (Q_4.out.alloc (.cells #[.slice a4 us.length n4] 26))
        have S_2 := Shh.mk (S_1.out.alloc (.cells #[.slice a4 us.length n4] 26))
        have D_2 := Shh.mk (D_1.out.alloc D_1.out.size (.cells #[.slice a4 us.length n4] 26))
        have G_1 := Shh.mk (OwnS.kept G_0.out ((Below.refl _ _).alloc (Nat.le_refl _) (.cells #[.slice a4 us.length n4] 26)))
        clear B_4 Q_4 S_1 D_1 G_0
        have Y_0 := Shh.mk (Blk.made w4 26 #[.slice a4 us.length n4])
        have cell0 := Y_0.out.cells
        go_wp2_with fail
        refine (implLadderBetween_any a b _ (OwnS.strs G_1.out) hz (by omega) (by omega)).mono ?_
        rw [HT.out]
        rintro e w5 ⟨v5, rfl, ho, hb⟩
        unfold retS
        have ho : OwnS (w4.alloc (.cells #[.slice a4 us.length n4] 26)).heap.size w5 v5 os := ho
        obtain ⟨a5, c5, rfl, -, -, -⟩ := own_form ho
        clear cell0
        have HD4 := Shh.mk (D_2.out.size)
        have HL5 := Shh.mk (OwnS.block ho)
        have HH5 := Shh.mk (OwnS.under ho)
        have HS5 := Shh.mk hb.size
        have B_6 := Shh.mk (B_5.out.trans (hb.mono B_5.out.size))
        have Q_6 := Shh.mk (Q_5.out.kept hb Q_5.out.lt)
        have S_3 := Shh.mk (S_2.out.below hb)
        have D_3 := Shh.mk (D_2.out.trans (hb.mono D_2.out.size))
        have G_2 := Shh.mk (OwnS.kept G_1.out hb)
        have Y_1 := Shh.mk (Y_0.out.kept hb Y_0.out.lt)
        clear B_5 Q_5 S_2 D_2 G_1 Y_0
        clear hb
        have O_0 := Shh.mk (ho)
        clear ho
        go_wp2_with fail
        refine (eqStringS_same _ (OwnS.strs O_0.out) S_3.out).mono ?_
        rintro e w6 ⟨rfl, n, hw⟩
        have hb : Below w5.heap.size w5 w6 := by rw [hw]; exact below_drewN (Below.refl _ _) n
        clear hw
        have B_7 := Shh.mk (B_6.out.trans (hb.mono B_6.out.size))
        have Q_7 := Shh.mk (Q_6.out.kept hb Q_6.out.lt)
        have S_4 := Shh.mk (S_3.out.below hb)
        have D_4 := Shh.mk (D_3.out.trans (hb.mono D_3.out.size))
        have G_3 := Shh.mk (OwnS.kept G_2.out hb)
        have Y_2 := Shh.mk (Y_1.out.kept hb Y_1.out.lt)
        have O_1 := Shh.mk (OwnS.kept O_0.out hb)
        clear B_6 Q_6 S_3 D_3 G_2 Y_1 O_0
        clear hb
        go_wp2
        have HK := Shh.mk (fun w' (hb : Below w6.heap.size w6 w') => twoLex Y_2.out Q_7.out hb)
        have HGW := Shh.mk (HU.out.below B_7.out)
        go_region_held3 (fun w' => w'.cell? ⟨w4.heap.size, 0, none⟩ = some (.slice a4 us.length n4) ∧ w'.cell? ⟨W.heap.size, 0, none⟩ = some (.slice aa us.length ac))
          (exact HK.out _ (by first | assumption | exact (Below.refl _ _).drew))
          (first
            | (go_at_call 50; with_reducible refine (toL_on w6 _ (by first | assumption | exact (Below.refl _ _).drew) HGW.out HN.out).mono ?_; rintro e w6b ⟨a6, s6, rfl, hg6, hb6, hc6⟩)
            | (go_at_call 53; refine (eqL_on w6 _ (by assumption) (Strs.below (OwnS.strs G_3.out) (by assumption)) hg6).mono ?_; rintro e w7 ⟨rfl, hb⟩))
        all_goals
          clear HK HGW
          have B_8 := Shh.mk (B_7.out.trans (hb.mono B_7.out.size))
          have Q_8 := Shh.mk (Q_7.out.kept hb Q_7.out.lt)
          have S_5 := Shh.mk (S_4.out.below hb)
          have D_5 := Shh.mk (D_4.out.trans (hb.mono D_4.out.size))
          have G_4 := Shh.mk (OwnS.kept G_3.out hb)
          have Y_3 := Shh.mk (Y_2.out.kept hb Y_2.out.lt)
          have O_2 := Shh.mk (OwnS.kept O_1.out hb)
          clear B_7 Q_7 S_4 D_4 G_3 Y_2 O_1
          clear hb
          have cell0 := Y_3.out.cells
          go_wp2_with fail
          refine (markLexicon_any 1 _ G_4.out (by omega) (by have := HN.out; omega)).mono ?_
          rintro e w8 ⟨rfl, hm, hg⟩
          clear hm
          clear cell0
          clear G_4
          clear Y_3
          clear S_5
          have B_9 := Shh.mk (B_8.out.grown hg B_8.out.size (fun k hk => by have h1 := HL4.out k hk; have h2 := HH4.out k hk; have h3 := HS5.out; have h4 := HB3.out; have h5 := HQ3.out; simp only [World.size_alloc] at *; omega))
          have Q_9 := Shh.mk (Q_8.out.grown hg (fun k hk => by have h1 := HL4.out k hk; have h2 := HH4.out k hk; have h3 := HS5.out; have h4 := HB3.out; have h5 := HQ3.out; simp only [World.size_alloc] at *; omega))
          have D_6 := Shh.mk (D_5.out.grown hg D_5.out.size (fun k hk => by have h1 := HL4.out k hk; have h2 := HH4.out k hk; have h3 := HS5.out; have h4 := HB3.out; have h5 := HQ3.out; simp only [World.size_alloc] at *; omega))
          have O_3 := Shh.mk (OwnS.grown O_2.out hg (fun k hk => by have h1 := HL4.out k hk; have h2 := HH4.out k hk; have h3 := HS5.out; have h4 := HB3.out; have h5 := HQ3.out; simp only [World.size_alloc] at *; omega))
          clear B_8 Q_8 D_5 O_2
          clear hg
          have S_6 := Shh.mk (HS0.out.below D_6.out)
          have hnn : ¬ (((1 + us.length : Nat) : Int) < 0) := by omega
          go_wp2_with fail
          refine (eqStringS_same _ (OwnS.strs O_3.out) S_6.out).mono ?_
          rintro e w9 ⟨rfl, n, hw⟩
          have hb : Below w8.heap.size w8 w9 := by rw [hw]; exact below_drewN (Below.refl _ _) n
          clear hw
          have B_10 := Shh.mk (B_9.out.trans (hb.mono B_9.out.size))
          have Q_10 := Shh.mk (Q_9.out.kept hb Q_9.out.lt)
          have D_7 := Shh.mk (D_6.out.trans (hb.mono D_6.out.size))
          have O_4 := Shh.mk (OwnS.kept O_3.out hb)
          have S_7 := Shh.mk (S_6.out.below hb)
          clear B_9 Q_9 D_6 O_3 S_6
          clear hb
          clear hnn
          go_wp2_with fail
          refine (markStringS_any 1 _ O_4.out (by omega) (by omega)).mono ?_
          rintro e w10 ⟨rfl, hm, hg⟩
          clear O_4
          clear S_7
          have B_11 := Shh.mk (B_10.out.grown hg B_10.out.size (fun k hk => by have h1 := HL5.out k hk; have h2 := HH5.out k hk; have h3 := HS5.out; have h4 := HB3.out; have h7 := HD4.out; have h5 := HQ3.out; simp only [World.size_alloc] at *; omega))
          have Q_11 := Shh.mk (Q_10.out.grown hg (fun k hk => by have h1 := HL5.out k hk; have h2 := HH5.out k hk; have h3 := HS5.out; have h4 := HB3.out; have h7 := HD4.out; have h5 := HQ3.out; simp only [World.size_alloc] at *; omega))
          have D_8 := Shh.mk (D_7.out.grown hg D_7.out.size (fun k hk => by have h1 := HL5.out k hk; have h2 := HH5.out k hk; have h3 := HS5.out; have h4 := HB3.out; have h7 := HD4.out; have h5 := HQ3.out; simp only [World.size_alloc] at *; omega))
          clear B_10 Q_10 D_7
          clear hg
          have S_8 := Shh.mk (HS0.out.below D_8.out)
          have M_0 := Shh.mk (OwnS.strs hm)
          clear hm
          have hnn : ¬ (((1 + os.length : Nat) : Int) < 0) := by omega
          go_wp2_with fail
          refine (heldStringS_any 1 os.length _ M_0.out (by omega) (by omega)).mono ?_
          rintro e w11 ⟨rfl, hb⟩
          have B_12 := Shh.mk (B_11.out.trans (hb.mono B_11.out.size))
          have Q_12 := Shh.mk (Q_11.out.kept hb Q_11.out.lt)
          have D_9 := Shh.mk (D_8.out.trans (hb.mono D_8.out.size))
          have S_9 := Shh.mk (S_8.out.below hb)
          have M_1 := Shh.mk (M_0.out.below hb)
          clear B_11 Q_11 D_8 S_8 M_0
          clear hb
          have cell0 := Q_12.out.cells
          go_wp2_with fail
          refine (toLexicon_any us _ (HU.out.below B_12.out) HN.out).mono ?_
          rintro e w12 ⟨a12, n12, rfl, hg, hb⟩
          clear cell0
          have B_13 := Shh.mk (B_12.out.trans (hb.mono B_12.out.size))
          have Q_13 := Shh.mk (Q_12.out.kept hb Q_12.out.lt)
          have D_10 := Shh.mk (D_9.out.trans (hb.mono D_9.out.size))
          have S_10 := Shh.mk (S_9.out.below hb)
          have M_2 := Shh.mk (M_1.out.below hb)
          clear B_12 Q_12 D_9 S_9 M_1
          clear hb
          go_wp2_with fail
          refine (implLadderBetween_any a b _ hg.strs hz (by omega) (by omega)).mono ?_
          rw [HT.out]
          rintro e w13 ⟨v13, rfl, ho, hb⟩
          unfold retS
          have ho := show OwnS w12.heap.size w13 v13 os from ho
          obtain ⟨a13, c13, rfl, -, -, -⟩ := own_form ho
          have B_14 := Shh.mk (B_13.out.trans (hb.mono B_13.out.size))
          have Q_14 := Shh.mk (Q_13.out.kept hb Q_13.out.lt)
          have D_11 := Shh.mk (D_10.out.trans (hb.mono D_10.out.size))
          have S_11 := Shh.mk (S_10.out.below hb)
          have M_3 := Shh.mk (M_2.out.below hb)
          clear B_13 Q_13 D_10 S_10 M_2
          clear hb hg
          have O_5 := Shh.mk (ho)
          clear ho
          go_wp2_with fail
          refine (eqStringS_same _ (OwnS.strs O_5.out) S_11.out).mono ?_
          rintro e w14 ⟨rfl, n, hw⟩
          have hb : Below w13.heap.size w13 w14 := by rw [hw]; exact below_drewN (Below.refl _ _) n
          clear hw
          have B_15 := Shh.mk (B_14.out.trans (hb.mono B_14.out.size))
          have Q_15 := Shh.mk (Q_14.out.kept hb Q_14.out.lt)
          have D_12 := Shh.mk (D_11.out.trans (hb.mono D_11.out.size))
          have S_12 := Shh.mk (S_11.out.below hb)
          have M_4 := Shh.mk (M_3.out.below hb)
          have O_6 := Shh.mk (OwnS.kept O_5.out hb)
          clear B_14 Q_14 D_11 S_11 M_3 O_5
          clear hb
          go_wp2_with fail
          refine (heldStringS_any 1 os.length _ M_4.out (by omega) (by omega)).mono ?_
          rintro e w15 ⟨rfl, hb⟩
          have B_16 := Shh.mk (B_15.out.trans (hb.mono B_15.out.size))
          have Q_16 := Shh.mk (Q_15.out.kept hb Q_15.out.lt)
          have D_13 := Shh.mk (D_12.out.trans (hb.mono D_12.out.size))
          have S_13 := Shh.mk (S_12.out.below hb)
          have M_5 := Shh.mk (M_4.out.below hb)
          have O_7 := Shh.mk (OwnS.kept O_6.out hb)
          clear B_15 Q_15 D_12 S_12 M_4 O_6
          clear hb
          go_wp2
          go_ret
          exact ⟨rfl, B_16.out⟩
    · have hl2 : (1048576 : Int) < (b.size : Int) := by omega
      clear hlb
      go_enter Try.func17, Try.ntmps17
      go_wp2
      go_ret
      exact ⟨rfl, hB0⟩
  · have hl1 : (1048576 : Int) < (a.size : Int) := by omega
    clear hla
    go_enter Try.func17, Try.ntmps17
    go_wp2
    go_ret
    exact ⟨rfl, hB0⟩

set_option maxRecDepth 100000 in
theorem FnExactLadderBetween_lifted (os : Os) (started : os.Started) (H : Type) (enc : TypeId × Value → H) :
    ReturnsInHanded {} Try.checked os 17 .any (Rows.fnExactLadderBetweenSpec.pre6 enc Try.prog Try.f17 Rows.fnExactLadderBetweenRow.domain false) (Rows.fnExactLadderBetweenSpec.post enc Try.prog Try.f17 false true false false) := by
  refine returnsInHanded_of_change (C := Try.checked) prog_own started (by kernel_rfl) Try.func17
    (ChangeSpec.witness6 (enc := enc) (C := Try.checked) false ⟨#[], #[.agg #[.slice none 0 0], .string ByteArray.empty, .string ByteArray.empty], []⟩ 8 (by kernel_rfl) (by kernel_rfl) (by kernel_rfl) (by kernel_rfl)) ?_
  intro W base args ds gs before hval0 hW hcnd _
  have hval : ∀ (j : Nat) t v, Try.f17.params[j]? = some t → args[j]? = some v → Value.okWide Try.prog W .any base t v := hval0
  have hW' := hW
  obtain ⟨p, q, hA0, hV, rfl, hfz, hnd⟩ := hW
  have hA : DataW.TrodAll enc Try.prog W 0 (fun _ => true) true Try.f17.params.toList args.toList ds p := hA0
  rw [Try.params17] at hA hval
  obtain ⟨v0, vs0, d0, ds0, p0, q0, hargs, rfl, rfl, h0, r0⟩ := trodAll_cons hA
  obtain ⟨v1, vs1, d1, ds1, p1, q1, rfl, rfl, rfl, h1, r1⟩ := trodAll_cons r0
  obtain ⟨v2, vs2, d2, ds2, p2, q2, rfl, rfl, rfl, h2, r2⟩ := trodAll_cons r1
  obtain ⟨rfl, rfl, rfl⟩ := trodAll_nil r2
  obtain rfl : args = #[v0, v1, v2] := by cases args; simp_all
  obtain ⟨rfl, rfl⟩ := trodVars_none hV
  have k0 := h0
  have lt0 : ∀ x ∈ p0, x.block < W.heap.size := by obtain ⟨m, hm⟩ := k0; exact DataW.trod_lt m _ _ _ hm
  obtain ⟨c00, y00, n0, rfl, rfl, rfl, f00⟩ := open_agg1 Try.underlying43 (by kernel_rfl) (by kernel_rfl) (hval 0 43 v0 rfl rfl) h0
  obtain ⟨ss0, hs0, zs0⟩ := strs_cell Try.underlying24 Try.underlying9 (by kernel_rfl) f00
  have k1 := h1
  have lt1 : ∀ x ∈ p1, x.block < W.heap.size := by obtain ⟨m, hm⟩ := k1; exact DataW.trod_lt m _ _ _ hm
  obtain ⟨a1, rfl, rfl, rfl, w1⟩ := open_string Try.underlying9 (hval 1 9 v1 rfl rfl) h1
  have k2 := h2
  have lt2 : ∀ x ∈ p2, x.block < W.heap.size := by obtain ⟨m, hm⟩ := k2; exact DataW.trod_lt m _ _ _ hm
  obtain ⟨a2, rfl, rfl, rfl, w2⟩ := open_string Try.underlying9 (hval 2 9 v2 rfl rfl) h2
  clear hA0 hval0
  refine (FnExactLadderBetween_walk W ss0 _ hs0 zs0 a1 w1 a2 w2).mono fun e W' ⟨he, bel⟩ => ?_
  subst he
  exact ⟨_, rfl, _, _, _, [], _, [], hW', trodAll_mk1 (shut_bool Try.underlying4 _), (trodAll_cons_mk (Below.trod prog_laid (by kernel_rfl) (of_decide_eq_true (by kernel_rfl)) k0 bel lt0) (trodAll_cons_mk (Below.trod prog_laid (by kernel_rfl) (of_decide_eq_true (by kernel_rfl)) k1 bel lt1) (trodAll_cons_mk (Below.trod prog_laid (by kernel_rfl) (of_decide_eq_true (by kernel_rfl)) k2 bel lt2) trodAll_mk0))), rfl, bel.frame _, fun h => by cases h⟩

set_option maxHeartbeats 8000000 in
theorem FnExactLadderBetween_facts : joinedFacts Try.pinned.checked.prog 17 Try.f17 Rows.fnExactLadderBetweenSpec Rows.fnExactLadderBetweenRow = true := by
  unfold joinedFacts
  rw [prog_enter, prog_lifts, prog_made]
  kernel_rfl
theorem FnExactLadderBetween_holds : Rows.FnExactLadderBetweenSaid :=
  OpenClaim.holds_of_wide 17 Try.f17 rfl rfl rfl rfl rfl rfl rfl ⟨rfl, rfl, rfl, rfl, rfl⟩ rfl rfl rfl rfl rfl (by kernel_rfl) Try.func17 FnExactLadderBetween_facts
    (of_decide_eq_true (by kernel_rfl)) (by unfold Func.isWrapper; rw [if_neg (of_decide_eq_false (by kernel_rfl))]; exact ⟨rfl, rfl⟩)
    (fun os started H enc _ => FnExactLadderBetween_lifted os started H enc)
#print axioms FnExactLadderBetween_holds
end Go.Proofs.Ytpjekfebpgjgnaa
