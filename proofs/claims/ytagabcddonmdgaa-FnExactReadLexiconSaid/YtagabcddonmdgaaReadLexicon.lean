/-
  The law of ReadLexicon is true of every text: the program answers as the model does, in memory of its own at each call.
-/
import Derived.Test.YtagabcddonmdgaaRE
import Derived.Test.YtagabcddonmdgaaRF
import Derived.Test.YtagabcddonmdgaaLD
namespace Go.Proofs.Ytagabcddonmdgaa
open Go.ChangeShapes Go.WideShapes Go.ChangeAt Go.RowKit Go.Joins Go.Deep
open Go.ChangeMaps (open_string shut_string)

set_option maxRecDepth 100000 in
set_option maxHeartbeats 4000000 in
theorem FnExactReadLexicon_walk (W : World) (s : ByteArray) (_hs : s.size ≤ maxLen) :
    Calls Try.prog 4 #[.string s] W fun e w' => e = .returned (.bool true) ∧ Below W.heap.size W w' := by
  by_cases hla : s.size ≤ 1048576
  · have hl1 : ¬ (1048576 : Int) < (s.size : Int) := by omega
    obtain ⟨t, htt⟩ : ∃ t, readOut s = t := ⟨_, rfl⟩
    have hos := show t.1.length ≤ 2000000 by rw [← htt]; exact Nat.le_trans (readOut_len s) (by omega)
    obtain ⟨os, cd⟩ := t
    have hos : os.length ≤ 2000000 := hos
    have HT := Shh.mk htt
    clear htt
    have B_0 := Shh.mk (Below.refl W.heap.size W)
    go_enter Try.func4, Try.ntmps4
    go_wp2_with fail
    refine (specReadLexicon_any s _ hla).mono ?_
    rw [HT.out]
    rintro e w3 ⟨v3, rfl, hs, hb⟩
    have hs : Strs w3 v3 os := hs
    have hs0 := hs
    obtain ⟨a3, c3, rfl, -⟩ := hs0
    have B_1 := Shh.mk (B_0.out.trans (hb.mono B_0.out.size))
    clear B_0
    clear hb
    have S_0 := Shh.mk (hs)
    clear hs
    have B_2 := Shh.mk (B_1.out.alloc B_1.out.size (.cells #[.slice a3 os.length c3] 33))
    have S_1 := Shh.mk (S_0.out.alloc (.cells #[.slice a3 os.length c3] 33))
    clear B_1 S_0
    have X_0 := Shh.mk (Blk.made w3 33 #[.slice a3 os.length c3])
    have D_0 := Shh.mk (Below.refl (w3.alloc (.cells #[.slice a3 os.length c3] 33)).heap.size (w3.alloc (.cells #[.slice a3 os.length c3] 33)))
    have HS0 := S_1
    have HB3 := Shh.mk (B_2.out.size)
    have HX3 := Shh.mk (X_0.out.lt)
    have HD4 := Shh.mk (D_0.out.size)
    go_wp2_with fail
    refine (implReadLexicon_any s _ hla).mono ?_
    rw [HT.out]
    rintro e w5 ⟨v5, rfl, ho, hb⟩
    have ho : OwnS (w3.alloc (.cells #[.slice a3 os.length c3] 33)).heap.size w5 v5 os := ho
    obtain ⟨a5, c5, rfl, -, -, -⟩ := own_form ho
    have HL5 := Shh.mk (OwnS.block ho)
    have HH5 := Shh.mk (OwnS.under ho)
    have HS5 := Shh.mk hb.size
    have B_3 := Shh.mk (B_2.out.trans (hb.mono B_2.out.size))
    have S_2 := Shh.mk (S_1.out.below hb)
    have X_1 := Shh.mk (X_0.out.kept hb X_0.out.lt)
    have D_1 := Shh.mk (D_0.out.trans (hb.mono D_0.out.size))
    clear B_2 S_1 X_0 D_0
    clear hb
    have O_0 := Shh.mk (ho)
    clear ho
    have B_4 := Shh.mk (B_3.out.alloc B_3.out.size (.cells #[.slice a5 os.length c5] 33))
    have S_3 := Shh.mk (S_2.out.alloc (.cells #[.slice a5 os.length c5] 33))
    have X_2 := Shh.mk (X_1.out.alloc (.cells #[.slice a5 os.length c5] 33))
    have D_2 := Shh.mk (D_1.out.alloc D_1.out.size (.cells #[.slice a5 os.length c5] 33))
    have O_1 := Shh.mk (OwnS.kept O_0.out ((Below.refl _ _).alloc (Nat.le_refl _) (.cells #[.slice a5 os.length c5] 33)))
    clear B_3 S_2 X_1 D_1 O_0
    have Z_0 := Shh.mk (Blk.made w5 33 #[.slice a5 os.length c5])
    have cell0 := Z_0.out.cells
    have cell1 := X_2.out.cells
    go_wp2_with fail
    refine (eqLexicon_same os _ (OwnS.strs O_1.out) S_3.out).mono ?_
    rintro e w6 ⟨rfl, hb⟩
    have B_5 := Shh.mk (B_4.out.trans (hb.mono B_4.out.size))
    have S_4 := Shh.mk (S_3.out.below hb)
    have X_3 := Shh.mk (X_2.out.kept hb X_2.out.lt)
    have D_3 := Shh.mk (D_2.out.trans (hb.mono D_2.out.size))
    have O_2 := Shh.mk (OwnS.kept O_1.out hb)
    have Z_1 := Shh.mk (Z_0.out.kept hb Z_0.out.lt)
    clear B_4 S_3 X_2 D_2 O_1 Z_0
    clear hb
    clear cell0 cell1
    have cell0 := Z_1.out.cells
    go_wp2_with fail
    refine (markLexicon_any 1 _ O_2.out (by omega) (by omega)).mono ?_
    rintro e w10 ⟨rfl, hm, hg⟩
    clear cell0
    clear O_2
    clear S_4
    have B_6 := Shh.mk (B_5.out.grown hg B_5.out.size (fun k hk => by have h1 := HL5.out k hk; have h2 := HH5.out k hk; have h3 := HS5.out; have h4 := HB3.out; have h6 := HX3.out; have h7 := HD4.out; simp only [World.size_alloc] at *; omega))
    have X_4 := Shh.mk (X_3.out.grown hg (fun k hk => by have h1 := HL5.out k hk; have h2 := HH5.out k hk; have h3 := HS5.out; have h4 := HB3.out; have h6 := HX3.out; have h7 := HD4.out; simp only [World.size_alloc] at *; omega))
    have D_4 := Shh.mk (D_3.out.grown hg D_3.out.size (fun k hk => by have h1 := HL5.out k hk; have h2 := HH5.out k hk; have h3 := HS5.out; have h4 := HB3.out; have h6 := HX3.out; have h7 := HD4.out; simp only [World.size_alloc] at *; omega))
    have Z_2 := Shh.mk (Z_1.out.grown hg (fun k hk => by have h1 := HL5.out k hk; have h2 := HH5.out k hk; have h3 := HS5.out; have h4 := HB3.out; have h6 := HX3.out; have h7 := HD4.out; simp only [World.size_alloc] at *; omega))
    clear B_5 X_3 D_3 Z_1
    clear hg
    have S_5 := Shh.mk (HS0.out.below D_4.out)
    have M_0 := Shh.mk (OwnS.strs hm)
    clear hm
    have hnn : ¬ (((1 + os.length : Nat) : Int) < 0) := by omega
    have cell0 := Z_2.out.cells
    go_wp2_with fail
    refine (heldLexicon_any 1 os.length _ M_0.out (by omega) (by omega)).mono ?_
    rintro e w11 ⟨rfl, hb⟩
    clear cell0
    have B_7 := Shh.mk (B_6.out.trans (hb.mono B_6.out.size))
    have X_5 := Shh.mk (X_4.out.kept hb X_4.out.lt)
    have D_5 := Shh.mk (D_4.out.trans (hb.mono D_4.out.size))
    have Z_3 := Shh.mk (Z_2.out.kept hb Z_2.out.lt)
    have S_6 := Shh.mk (S_5.out.below hb)
    have M_1 := Shh.mk (M_0.out.below hb)
    clear B_6 X_4 D_4 Z_2 S_5 M_0
    clear hb
    go_wp2_with fail
    refine (implReadLexicon_any s _ hla).mono ?_
    rw [HT.out]
    rintro e w13 ⟨v13, rfl, ho, hb⟩
    have ho := show OwnS w11.heap.size w13 v13 os from ho
    obtain ⟨a13, c13, rfl, -, -, -⟩ := own_form ho
    have B_8 := Shh.mk (B_7.out.trans (hb.mono B_7.out.size))
    have X_6 := Shh.mk (X_5.out.kept hb X_5.out.lt)
    have D_6 := Shh.mk (D_5.out.trans (hb.mono D_5.out.size))
    have Z_4 := Shh.mk (Z_3.out.kept hb Z_3.out.lt)
    have S_7 := Shh.mk (S_6.out.below hb)
    have M_2 := Shh.mk (M_1.out.below hb)
    clear B_7 X_5 D_5 Z_3 S_6 M_1
    clear hb
    have O_3 := Shh.mk (ho)
    clear ho
    have B_9 := Shh.mk (B_8.out.alloc B_8.out.size (.cells #[.slice a13 os.length c13] 33))
    have X_7 := Shh.mk (X_6.out.alloc (.cells #[.slice a13 os.length c13] 33))
    have D_7 := Shh.mk (D_6.out.alloc D_6.out.size (.cells #[.slice a13 os.length c13] 33))
    have Z_5 := Shh.mk (Z_4.out.alloc (.cells #[.slice a13 os.length c13] 33))
    have S_8 := Shh.mk (S_7.out.alloc (.cells #[.slice a13 os.length c13] 33))
    have M_3 := Shh.mk (M_2.out.alloc (.cells #[.slice a13 os.length c13] 33))
    have O_4 := Shh.mk (OwnS.kept O_3.out ((Below.refl _ _).alloc (Nat.le_refl _) (.cells #[.slice a13 os.length c13] 33)))
    clear B_8 X_6 D_6 Z_4 S_7 M_2 O_3
    have U_0 := Shh.mk (Blk.made w13 33 #[.slice a13 os.length c13])
    have cell0 := U_0.out.cells
    have cell1 := X_7.out.cells
    go_wp2_with fail
    refine (eqLexicon_same os _ (OwnS.strs O_4.out) S_8.out).mono ?_
    rintro e w14 ⟨rfl, hb⟩
    have B_10 := Shh.mk (B_9.out.trans (hb.mono B_9.out.size))
    have X_8 := Shh.mk (X_7.out.kept hb X_7.out.lt)
    have D_8 := Shh.mk (D_7.out.trans (hb.mono D_7.out.size))
    have Z_6 := Shh.mk (Z_5.out.kept hb Z_5.out.lt)
    have S_9 := Shh.mk (S_8.out.below hb)
    have M_4 := Shh.mk (M_3.out.below hb)
    have O_5 := Shh.mk (OwnS.kept O_4.out hb)
    have U_1 := Shh.mk (U_0.out.kept hb U_0.out.lt)
    clear B_9 X_7 D_7 Z_5 S_8 M_3 O_4 U_0
    clear hb
    clear cell0 cell1
    have cell0 := Z_6.out.cells
    go_wp2_with fail
    refine (heldLexicon_any 1 os.length _ M_4.out (by omega) (by omega)).mono ?_
    rintro e w15 ⟨rfl, hb⟩
    clear cell0
    have B_11 := Shh.mk (B_10.out.trans (hb.mono B_10.out.size))
    have X_9 := Shh.mk (X_8.out.kept hb X_8.out.lt)
    have D_9 := Shh.mk (D_8.out.trans (hb.mono D_8.out.size))
    have Z_7 := Shh.mk (Z_6.out.kept hb Z_6.out.lt)
    have S_10 := Shh.mk (S_9.out.below hb)
    have M_5 := Shh.mk (M_4.out.below hb)
    have O_6 := Shh.mk (OwnS.kept O_5.out hb)
    have U_2 := Shh.mk (U_1.out.kept hb U_1.out.lt)
    clear B_10 X_8 D_8 Z_6 S_9 M_4 O_5 U_1
    clear hb
    go_wp2
    go_ret
    exact ⟨rfl, B_11.out⟩
  · have hl1 : (1048576 : Int) < (s.size : Int) := by omega
    clear hla
    go_enter Try.func4, Try.ntmps4
    go_wp2
    go_ret
    exact ⟨rfl, Below.refl _ _⟩

set_option maxRecDepth 100000 in
theorem FnExactReadLexicon_lifted (os : Os) (started : os.Started) (H : Type) (enc : TypeId × Value → H) :
    ReturnsInHanded {} Try.checked os 4 .any (Rows.fnExactReadLexiconSpec.pre6 enc Try.prog Try.f4 Rows.fnExactReadLexiconRow.domain false) (Rows.fnExactReadLexiconSpec.post enc Try.prog Try.f4 false true false false) := by
  refine returnsInHanded_of_change (C := Try.checked) prog_own started (by kernel_rfl) Try.func4
    (ChangeSpec.witness6 (enc := enc) (C := Try.checked) false ⟨#[], #[.string ByteArray.empty], []⟩ 8 (by kernel_rfl) (by kernel_rfl) (by kernel_rfl) (by kernel_rfl)) ?_
  intro W base args ds gs before hval0 hW hcnd _
  have hval : ∀ (j : Nat) t v, Try.f4.params[j]? = some t → args[j]? = some v → Value.okWide Try.prog W .any base t v := hval0
  have hW' := hW
  obtain ⟨p, q, hA0, hV, rfl, hfz, hnd⟩ := hW
  have hA : DataW.TrodAll enc Try.prog W 0 (fun _ => true) true Try.f4.params.toList args.toList ds p := hA0
  rw [Try.params4] at hA hval
  obtain ⟨v0, vs0, d0, ds0, p0, q0, hargs, rfl, rfl, h0, r0⟩ := trodAll_cons hA
  obtain ⟨rfl, rfl, rfl⟩ := trodAll_nil r0
  obtain rfl : args = #[v0] := by cases args; simp_all
  obtain ⟨rfl, rfl⟩ := trodVars_none hV
  have k0 := h0
  have lt0 : ∀ x ∈ p0, x.block < W.heap.size := by obtain ⟨m, hm⟩ := k0; exact DataW.trod_lt m _ _ _ hm
  obtain ⟨a0, rfl, rfl, rfl, w0⟩ := open_string Try.underlying9 (hval 0 9 v0 rfl rfl) h0
  clear hA0 hval0
  refine (FnExactReadLexicon_walk W a0 w0).mono fun e W' ⟨he, bel⟩ => ?_
  subst he
  exact ⟨_, rfl, _, _, _, [], _, [], hW', trodAll_mk1 (shut_bool Try.underlying4 _), (trodAll_cons_mk (Below.trod prog_laid (by kernel_rfl) (of_decide_eq_true (by kernel_rfl)) k0 bel lt0) trodAll_mk0), rfl, bel.frame _, fun h => by cases h⟩

theorem FnExactReadLexicon_holds : Rows.FnExactReadLexiconSaid :=
  OpenClaim.holds_of_wide 4 Try.f4 rfl rfl rfl rfl rfl rfl rfl ⟨rfl, rfl, rfl, rfl, rfl⟩ rfl rfl rfl rfl rfl (by kernel_rfl) Try.func4 (by kernel_rfl)
    (of_decide_eq_true (by kernel_rfl)) (by unfold Func.isWrapper; rw [if_neg (of_decide_eq_false (by kernel_rfl))]; exact ⟨rfl, rfl⟩)
    (fun os started H enc _ => FnExactReadLexicon_lifted os started H enc)
#print axioms FnExactReadLexicon_holds
end Go.Proofs.Ytagabcddonmdgaa
