/-
  The law of WaysToMake is true of whatever it is given: the program answers as the model does, in memory of its own at each call, and changes nothing.
-/
import Derived.Test.YtilagppmljpclaaJ6
import Derived.Test.YtilagppmljpclaaLD
import Derived.Test.YtilagppmljpclaaL1
namespace Go.Proofs.Ytilagppmljpclaa
open Go.ChangeShapes Go.WideShapes Go.ChangeAt Go.RowKit Go.Joins Go.Deep
open Go.ChangeMaps (open_string shut_string)

set_option maxRecDepth 100000 in
set_option maxHeartbeats 4000000 in
theorem FnExactWaysToMake_walk (W : World) (pile : ByteArray) (_hpile : pile.size ≤ maxLen) (word : ByteArray) (_hword : word.size ≤ maxLen) :
    Calls Try.prog 5 #[.string pile, .string word] W fun e w' => e = .returned (.bool true) ∧ Below W.heap.size W w' := by
  by_cases hla0 : pile.size ≤ 1048576
  · have hl0 : ¬ (1048576 : Int) < (pile.size : Int) := by omega
    by_cases hla1 : word.size ≤ 1048576
    · have hl1 : ¬ (1048576 : Int) < (word.size : Int) := by omega
      obtain ⟨t, htt⟩ : ∃ t, waysOut pile word = t := ⟨_, rfl⟩
      have hos := show t.1.length ≤ 2000000 by rw [← htt]; exact Nat.le_trans (waysOut_len pile word) (by omega)
      obtain ⟨os, cd⟩ := t
      have hos : os.length ≤ 2000000 := hos
      have HT := Shh.mk htt
      clear htt
      have B_0 := Shh.mk (Below.refl W.heap.size W)
      go_enter Try.func5, Try.ntmps5
      go_wp2_with fail
      refine (specWaysToMake_any pile word _ (by omega) (by omega)).mono ?_
      rw [HT.out]
      rintro e w3 ⟨v3, rfl, hs, hb⟩
      unfold retS
      have hs : Strs w3 v3 os := hs
      have hs0 := hs
      obtain ⟨a3, c3, rfl, -⟩ := hs0
      have B_1 := Shh.mk (B_0.out.trans (hb.mono B_0.out.size))
      clear B_0
      clear hb
      have S_0 := Shh.mk (hs)
      clear hs
      have D_0 := Shh.mk (Below.refl w3.heap.size w3)
      have HS0 := S_0
      have HB3 := Shh.mk (B_1.out.size)
      go_wp2_with fail
      refine (implWaysToMake_any pile word _ (by omega) (by omega)).mono ?_
      rw [HT.out]
      rintro e w5 ⟨v5, rfl, ho, hb⟩
      unfold retS
      have ho : OwnS w3.heap.size w5 v5 os := ho
      obtain ⟨a5, c5, rfl, -, -, -⟩ := own_form ho
      have HL5 := Shh.mk (OwnS.block ho)
      have HH5 := Shh.mk (OwnS.under ho)
      have HS5 := Shh.mk hb.size
      have B_2 := Shh.mk (B_1.out.trans (hb.mono B_1.out.size))
      have S_1 := Shh.mk (S_0.out.below hb)
      have D_1 := Shh.mk (D_0.out.trans (hb.mono D_0.out.size))
      clear B_1 S_0 D_0
      clear hb
      have O_0 := Shh.mk (ho)
      clear ho
      go_wp2_with fail
      refine (eqStringS_same _ (OwnS.strs O_0.out) S_1.out).mono ?_
      rintro e w6 ⟨rfl, n, hw⟩
      have hb : Below w5.heap.size w5 w6 := by rw [hw]; exact below_drewN (Below.refl _ _) n
      clear hw
      have B_3 := Shh.mk (B_2.out.trans (hb.mono B_2.out.size))
      have S_2 := Shh.mk (S_1.out.below hb)
      have D_2 := Shh.mk (D_1.out.trans (hb.mono D_1.out.size))
      have O_1 := Shh.mk (OwnS.kept O_0.out hb)
      clear B_2 S_1 D_1 O_0
      clear hb
      go_wp2_with fail
      refine (markStringS_any 1 _ O_1.out (by omega) (by omega)).mono ?_
      rintro e w10 ⟨rfl, hm, hg⟩
      clear O_1
      clear S_2
      have B_4 := Shh.mk (B_3.out.grown hg B_3.out.size (fun k hk => by have h1 := HL5.out k hk; have h2 := HH5.out k hk; have h3 := HS5.out; have h4 := HB3.out; omega))
      have D_3 := Shh.mk (D_2.out.grown hg D_2.out.size (fun k hk => by have h1 := HL5.out k hk; have h2 := HH5.out k hk; have h3 := HS5.out; have h4 := HB3.out; omega))
      clear B_3 D_2
      clear hg
      have S_3 := Shh.mk (HS0.out.below D_3.out)
      have M_0 := Shh.mk (OwnS.strs hm)
      clear hm
      have hnn : ¬ (((1 + os.length : Nat) : Int) < 0) := by omega
      go_wp2_with fail
      refine (heldStringS_any 1 os.length _ M_0.out (by omega) (by omega)).mono ?_
      rintro e w11 ⟨rfl, hb⟩
      have B_5 := Shh.mk (B_4.out.trans (hb.mono B_4.out.size))
      have D_4 := Shh.mk (D_3.out.trans (hb.mono D_3.out.size))
      have S_4 := Shh.mk (S_3.out.below hb)
      have M_1 := Shh.mk (M_0.out.below hb)
      clear B_4 D_3 S_3 M_0
      clear hb
      go_wp2_with fail
      refine (implWaysToMake_any pile word _ (by omega) (by omega)).mono ?_
      rw [HT.out]
      rintro e w13 ⟨v13, rfl, ho, hb⟩
      unfold retS
      have ho : OwnS w11.heap.size w13 v13 os := ho
      obtain ⟨a13, c13, rfl, -, -, -⟩ := own_form ho
      have B_6 := Shh.mk (B_5.out.trans (hb.mono B_5.out.size))
      have D_5 := Shh.mk (D_4.out.trans (hb.mono D_4.out.size))
      have S_5 := Shh.mk (S_4.out.below hb)
      have M_2 := Shh.mk (M_1.out.below hb)
      clear B_5 D_4 S_4 M_1
      clear hb
      have O_2 := Shh.mk (ho)
      clear ho
      go_wp2_with fail
      refine (eqStringS_same _ (OwnS.strs O_2.out) S_5.out).mono ?_
      rintro e w14 ⟨rfl, n, hw⟩
      have hb : Below w13.heap.size w13 w14 := by rw [hw]; exact below_drewN (Below.refl _ _) n
      clear hw
      have B_7 := Shh.mk (B_6.out.trans (hb.mono B_6.out.size))
      have D_6 := Shh.mk (D_5.out.trans (hb.mono D_5.out.size))
      have S_6 := Shh.mk (S_5.out.below hb)
      have M_3 := Shh.mk (M_2.out.below hb)
      have O_3 := Shh.mk (OwnS.kept O_2.out hb)
      clear B_6 D_5 S_5 M_2 O_2
      clear hb
      go_wp2_with fail
      refine (heldStringS_any 1 os.length _ M_3.out (by omega) (by omega)).mono ?_
      rintro e w15 ⟨rfl, hb⟩
      have B_8 := Shh.mk (B_7.out.trans (hb.mono B_7.out.size))
      have D_7 := Shh.mk (D_6.out.trans (hb.mono D_6.out.size))
      have S_7 := Shh.mk (S_6.out.below hb)
      have M_4 := Shh.mk (M_3.out.below hb)
      have O_4 := Shh.mk (OwnS.kept O_3.out hb)
      clear B_7 D_6 S_6 M_3 O_3
      clear hb
      go_wp2
      go_ret
      exact ⟨rfl, B_8.out⟩
    · have hl1 : (1048576 : Int) < (word.size : Int) := by omega
      clear hla1
      go_enter Try.func5, Try.ntmps5
      go_wp2
      go_ret
      exact ⟨rfl, Below.refl _ _⟩
  · have hl0 : (1048576 : Int) < (pile.size : Int) := by omega
    clear hla0
    go_enter Try.func5, Try.ntmps5
    go_wp2
    go_ret
    exact ⟨rfl, Below.refl _ _⟩

set_option maxRecDepth 100000 in
theorem FnExactWaysToMake_lifted (os : Os) (started : os.Started) (H : Type) (enc : TypeId × Value → H) :
    ReturnsInHanded {} Try.checked os 5 .any (Rows.fnExactWaysToMakeSpec.pre6 enc Try.prog Try.f5 Rows.fnExactWaysToMakeRow.domain false) (Rows.fnExactWaysToMakeSpec.post enc Try.prog Try.f5 false true false false) := by
  refine returnsInHanded_of_change (C := Try.checked) prog_own started (by kernel_rfl) Try.func5
    (ChangeSpec.witness6 (enc := enc) (C := Try.checked) false ⟨#[], #[.string ByteArray.empty, .string ByteArray.empty], []⟩ 8 (by kernel_rfl) (by kernel_rfl) (by kernel_rfl) (by kernel_rfl)) ?_
  intro W base args ds gs before hval0 hW hcnd _
  have hval : ∀ (j : Nat) t v, Try.f5.params[j]? = some t → args[j]? = some v → Value.okWide Try.prog W .any base t v := hval0
  have hW' := hW
  obtain ⟨p, q, hA0, hV, rfl, hfz, hnd⟩ := hW
  have hA : DataW.TrodAll enc Try.prog W 0 (fun _ => true) true Try.f5.params.toList args.toList ds p := hA0
  rw [Try.params5] at hA hval
  obtain ⟨v0, vs0, d0, ds0, p0, q0, hargs, rfl, rfl, h0, r0⟩ := trodAll_cons hA
  obtain ⟨v1, vs1, d1, ds1, p1, q1, rfl, rfl, rfl, h1, r1⟩ := trodAll_cons r0
  obtain ⟨rfl, rfl, rfl⟩ := trodAll_nil r1
  obtain rfl : args = #[v0, v1] := by cases args; simp_all
  obtain ⟨rfl, rfl⟩ := trodVars_none hV
  have k0 := h0
  have lt0 : ∀ x ∈ p0, x.block < W.heap.size := by obtain ⟨m, hm⟩ := k0; exact DataW.trod_lt m _ _ _ hm
  obtain ⟨a0, rfl, rfl, rfl, w0⟩ := open_string Try.underlying9 (hval 0 9 v0 rfl rfl) h0
  have k1 := h1
  have lt1 : ∀ x ∈ p1, x.block < W.heap.size := by obtain ⟨m, hm⟩ := k1; exact DataW.trod_lt m _ _ _ hm
  obtain ⟨a1, rfl, rfl, rfl, w1⟩ := open_string Try.underlying9 (hval 1 9 v1 rfl rfl) h1
  clear hA0 hval0
  refine (FnExactWaysToMake_walk W a0 w0 a1 w1).mono fun e W' ⟨he, bel⟩ => ?_
  subst he
  exact ⟨_, rfl, _, _, _, [], _, [], hW', trodAll_mk1 (shut_bool Try.underlying4 _), (trodAll_cons_mk (Below.trod prog_laid (by kernel_rfl) (of_decide_eq_true (by kernel_rfl)) k0 bel lt0) (trodAll_cons_mk (Below.trod prog_laid (by kernel_rfl) (of_decide_eq_true (by kernel_rfl)) k1 bel lt1) trodAll_mk0)), rfl, bel.frame _, fun h => by cases h⟩

theorem FnExactWaysToMake_holds : Rows.FnExactWaysToMakeSaid :=
  OpenClaim.holds_of_wide 5 Try.f5 rfl rfl rfl rfl rfl rfl rfl ⟨rfl, rfl, rfl, rfl, rfl⟩ rfl rfl rfl rfl rfl (by kernel_rfl) Try.func5 (by kernel_rfl)
    (of_decide_eq_true (by kernel_rfl)) (by unfold Func.isWrapper; rw [if_neg (of_decide_eq_false (by kernel_rfl))]; exact ⟨rfl, rfl⟩)
    (fun os started H enc _ => FnExactWaysToMake_lifted os started H enc)
#print axioms FnExactWaysToMake_holds
end Go.Proofs.Ytilagppmljpclaa
