/-
  The law of SubRacks is true of whatever it is given: the program answers as the model does, in memory of its own at each call, and changes nothing.
-/
import Derived.Test.YtilagppmljpclaaJC
import Derived.Test.YtilagppmljpclaaLD
import Derived.Test.YtilagppmljpclaaL1
namespace Go.Proofs.Ytilagppmljpclaa
open Go.ChangeShapes Go.WideShapes Go.ChangeAt Go.RowKit Go.Joins Go.Deep
open Go.ChangeMaps (open_string shut_string)

set_option maxRecDepth 100000 in
set_option maxHeartbeats 4000000 in
theorem FnExactSubRacks_walk (W : World) (rack : ByteArray) (_hrack : rack.size ≤ maxLen) :
    Calls Try.prog 4 #[.string rack] W fun e w' => e = .returned (.bool true) ∧ Below W.heap.size W w' := by
  by_cases hla0 : rack.size ≤ 1048576
  · have hl0 : ¬ (1048576 : Int) < (rack.size : Int) := by omega
    have B_0 := Shh.mk (Below.refl W.heap.size W)
    go_enter Try.func4, Try.ntmps4
    go_wp2_with fail
    refine (specSubRacks_any rack _ (by omega)).mono ?_
    rintro e w3 ⟨⟨os, cd⟩, ht, v3, rfl, hs, hb⟩
    have hos : os.length ≤ 2000000 := Nat.le_trans ht.len (by decide)
    have HT := Shh.mk ht
    clear ht
    unfold retS
    have hs : Strs w3 v3 os := hs
    have hs0 := hs
    obtain ⟨a3, c3, rfl, -⟩ := hs0
    have B_1 := Shh.mk (B_0.out.trans (hb.mono B_0.out.size))
    clear B_0
    clear hb
    have S_0 := Shh.mk (hs)
    clear hs
    have D_0 := Shh.mk (Below.refl w3.heap.size w3)
    have HS0 := S_0
    have HB3 := Shh.mk (B_1.out.size)
    go_wp2_with fail
    refine (implSubRacks_any rack (os, cd) HT.out _ (by omega)).mono ?_
    rintro e w5 ⟨v5, rfl, ho, hb⟩
    unfold retS
    have ho : OwnS w3.heap.size w5 v5 os := ho
    obtain ⟨a5, c5, rfl, -, -, -⟩ := own_form ho
    have HL5 := Shh.mk (OwnS.block ho)
    have HH5 := Shh.mk (OwnS.under ho)
    have HS5 := Shh.mk hb.size
    have B_2 := Shh.mk (B_1.out.trans (hb.mono B_1.out.size))
    have S_1 := Shh.mk (S_0.out.below hb)
    have D_1 := Shh.mk (D_0.out.trans (hb.mono D_0.out.size))
    clear B_1 S_0 D_0
    clear hb
    have O_0 := Shh.mk (ho)
    clear ho
    go_wp2_with fail
    refine (eqStringS_same _ (OwnS.strs O_0.out) S_1.out).mono ?_
    rintro e w6 ⟨rfl, n, hw⟩
    have hb : Below w5.heap.size w5 w6 := by rw [hw]; exact below_drewN (Below.refl _ _) n
    clear hw
    have B_3 := Shh.mk (B_2.out.trans (hb.mono B_2.out.size))
    have S_2 := Shh.mk (S_1.out.below hb)
    have D_2 := Shh.mk (D_1.out.trans (hb.mono D_1.out.size))
    have O_1 := Shh.mk (OwnS.kept O_0.out hb)
    clear B_2 S_1 D_1 O_0
    clear hb
    go_wp2_with fail
    refine (markStringS_any 1 _ O_1.out (by omega) (by omega)).mono ?_
    rintro e w10 ⟨rfl, hm, hg⟩
    clear O_1
    clear S_2
    have B_4 := Shh.mk (B_3.out.grown hg B_3.out.size (fun k hk => by have h1 := HL5.out k hk; have h2 := HH5.out k hk; have h3 := HS5.out; have h4 := HB3.out; omega))
    have D_3 := Shh.mk (D_2.out.grown hg D_2.out.size (fun k hk => by have h1 := HL5.out k hk; have h2 := HH5.out k hk; have h3 := HS5.out; have h4 := HB3.out; omega))
    clear B_3 D_2
    clear hg
    have S_3 := Shh.mk (HS0.out.below D_3.out)
    have M_0 := Shh.mk (OwnS.strs hm)
    clear hm
    have hnn : ¬ (((1 + os.length : Nat) : Int) < 0) := by omega
    go_wp2_with fail
    refine (heldStringS_any 1 os.length _ M_0.out (by omega) (by omega)).mono ?_
    rintro e w11 ⟨rfl, hb⟩
    have B_5 := Shh.mk (B_4.out.trans (hb.mono B_4.out.size))
    have D_4 := Shh.mk (D_3.out.trans (hb.mono D_3.out.size))
    have S_4 := Shh.mk (S_3.out.below hb)
    have M_1 := Shh.mk (M_0.out.below hb)
    clear B_4 D_3 S_3 M_0
    clear hb
    go_wp2_with fail
    refine (implSubRacks_any rack (os, cd) HT.out _ (by omega)).mono ?_
    rintro e w13 ⟨v13, rfl, ho, hb⟩
    unfold retS
    have ho : OwnS w11.heap.size w13 v13 os := ho
    obtain ⟨a13, c13, rfl, -, -, -⟩ := own_form ho
    have B_6 := Shh.mk (B_5.out.trans (hb.mono B_5.out.size))
    have D_5 := Shh.mk (D_4.out.trans (hb.mono D_4.out.size))
    have S_5 := Shh.mk (S_4.out.below hb)
    have M_2 := Shh.mk (M_1.out.below hb)
    clear B_5 D_4 S_4 M_1
    clear hb
    have O_2 := Shh.mk (ho)
    clear ho
    go_wp2_with fail
    refine (eqStringS_same _ (OwnS.strs O_2.out) S_5.out).mono ?_
    rintro e w14 ⟨rfl, n, hw⟩
    have hb : Below w13.heap.size w13 w14 := by rw [hw]; exact below_drewN (Below.refl _ _) n
    clear hw
    have B_7 := Shh.mk (B_6.out.trans (hb.mono B_6.out.size))
    have D_6 := Shh.mk (D_5.out.trans (hb.mono D_5.out.size))
    have S_6 := Shh.mk (S_5.out.below hb)
    have M_3 := Shh.mk (M_2.out.below hb)
    have O_3 := Shh.mk (OwnS.kept O_2.out hb)
    clear B_6 D_5 S_5 M_2 O_2
    clear hb
    go_wp2_with fail
    refine (heldStringS_any 1 os.length _ M_3.out (by omega) (by omega)).mono ?_
    rintro e w15 ⟨rfl, hb⟩
    have B_8 := Shh.mk (B_7.out.trans (hb.mono B_7.out.size))
    have D_7 := Shh.mk (D_6.out.trans (hb.mono D_6.out.size))
    have S_7 := Shh.mk (S_6.out.below hb)
    have M_4 := Shh.mk (M_3.out.below hb)
    have O_4 := Shh.mk (OwnS.kept O_3.out hb)
    clear B_7 D_6 S_6 M_3 O_3
    clear hb
    go_wp2
    go_ret
    exact ⟨rfl, B_8.out⟩
  · have hl0 : (1048576 : Int) < (rack.size : Int) := by omega
    clear hla0
    go_enter Try.func4, Try.ntmps4
    go_wp2
    go_ret
    exact ⟨rfl, Below.refl _ _⟩

set_option maxRecDepth 100000 in
theorem FnExactSubRacks_lifted (os : Os) (started : os.Started) (H : Type) (enc : TypeId × Value → H) :
    ReturnsInHanded {} Try.checked os 4 .any (Rows.fnExactSubRacksSpec.pre6 enc Try.prog Try.f4 Rows.fnExactSubRacksRow.domain false) (Rows.fnExactSubRacksSpec.post enc Try.prog Try.f4 false true false false) := by
  refine returnsInHanded_of_change (C := Try.checked) prog_own started (by kernel_rfl) Try.func4
    (ChangeSpec.witness6 (enc := enc) (C := Try.checked) false ⟨#[], #[.string ByteArray.empty], []⟩ 8 (by kernel_rfl) (by kernel_rfl) (by kernel_rfl) (by kernel_rfl)) ?_
  intro W base args ds gs before hval0 hW hcnd _
  have hval : ∀ (j : Nat) t v, Try.f4.params[j]? = some t → args[j]? = some v → Value.okWide Try.prog W .any base t v := hval0
  have hW' := hW
  obtain ⟨p, q, hA0, hV, rfl, hfz, hnd⟩ := hW
  have hA : DataW.TrodAll enc Try.prog W 0 (fun _ => true) true Try.f4.params.toList args.toList ds p := hA0
  rw [Try.params4] at hA hval
  obtain ⟨v0, vs0, d0, ds0, p0, q0, hargs, rfl, rfl, h0, r0⟩ := trodAll_cons hA
  obtain ⟨rfl, rfl, rfl⟩ := trodAll_nil r0
  obtain rfl : args = #[v0] := by cases args; simp_all
  obtain ⟨rfl, rfl⟩ := trodVars_none hV
  have k0 := h0
  have lt0 : ∀ x ∈ p0, x.block < W.heap.size := by obtain ⟨m, hm⟩ := k0; exact DataW.trod_lt m _ _ _ hm
  obtain ⟨a0, rfl, rfl, rfl, w0⟩ := open_string Try.underlying9 (hval 0 9 v0 rfl rfl) h0
  clear hA0 hval0
  refine (FnExactSubRacks_walk W a0 w0).mono fun e W' ⟨he, bel⟩ => ?_
  subst he
  exact ⟨_, rfl, _, _, _, [], _, [], hW', trodAll_mk1 (shut_bool Try.underlying4 _), (trodAll_cons_mk (Below.trod prog_laid (by kernel_rfl) (of_decide_eq_true (by kernel_rfl)) k0 bel lt0) trodAll_mk0), rfl, bel.frame _, fun h => by cases h⟩

theorem FnExactSubRacks_holds : Rows.FnExactSubRacksSaid :=
  OpenClaim.holds_of_wide 4 Try.f4 rfl rfl rfl rfl rfl rfl rfl ⟨rfl, rfl, rfl, rfl, rfl⟩ rfl rfl rfl rfl rfl (by kernel_rfl) Try.func4 (by kernel_rfl)
    (of_decide_eq_true (by kernel_rfl)) (by unfold Func.isWrapper; rw [if_neg (of_decide_eq_false (by kernel_rfl))]; exact ⟨rfl, rfl⟩)
    (fun os started H enc _ => FnExactSubRacks_lifted os started H enc)
#print axioms FnExactSubRacks_holds
end Go.Proofs.Ytilagppmljpclaa
