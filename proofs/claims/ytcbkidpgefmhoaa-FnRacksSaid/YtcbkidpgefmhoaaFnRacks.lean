/-
  The law of racks is true of all bytes from which two piles are drawn: tiles that are added can be taken again, and common tiles are in both piles.
-/
import Derived.Test.YtcbkidpgefmhoaaG3
namespace Go.Proofs.Ytcbkidpgefmhoaa
open Go.ChangeShapes Go.WideShapes Go.ChangeAt Go.RowKit Go.Joins
open Go.ChangeMaps (open_string shut_string)

theorem same_txtN (s : ByteArray) : (s.toList != s.toList) = false := by simp
theorem eq_txt (a b : List UInt8) : ((txt a).toList == (txt b).toList) = (a == b) := by
  rw [ByteArray.toList_eq, ByteArray.toList_eq, txt_list, txt_list]
set_option maxRecDepth 100000 in
set_option maxHeartbeats 4000000 in
theorem FnRacks_walk (w : World) (v : Value) (zs : List Int) (hz : Ints .u8 w v zs) :
    Calls Try.prog 3 #[v] w fun e w' => e = .returned (.bool true) ∧ Below w.heap.size w w' := by
  have HZ := Shh.mk hz
  clear hz
  by_cases hlong : 3000 < zs.length
  · have HL := hid (decide_eq_true hlong)
    clear hlong
    go_enter Try.func3, Try.ntmps3
    go_wp2_with fail
    refine (a2Long_any w v zs HZ.out).mono ?_
    rw [HL.out]
    rintro e w1 ⟨rfl, rfl⟩
    go_wp2
    go_ret
    exact ⟨rfl, Below.refl _ _⟩
  · have HL := hid (decide_eq_false hlong)
    clear hlong
    go_enter Try.func3, Try.ntmps3
    go_wp2_with fail
    refine (a2Long_any w v zs HZ.out).mono ?_
    rw [HL.out]
    rintro e w0 ⟨rfl, rfl⟩
    go_wp2_with fail
    refine (a2Piles_any w v zs HZ.out).mono ?_
    rintro e w1 ⟨a, b, ha, hal, hb, hbl, rfl, hB1⟩
    obtain ⟨s, m, r, q, t, hR⟩ := racks_of ha hb (by omega)
    have R := Shh.mk hR
    have h1 := same_txtN (txt a)
    have h2 := same_txtN (txt m)
    have h3 := eq_txt m b
    have h4 : (txt []).toList = [] := by rw [ByteArray.toList_eq, txt_list]
    rw [hR.same] at h3
    clear hR ha hb
    go_wp2_with fail
    refine (add_txt R.out.sum _ R.out.la R.out.lb).mono ?_
    rintro e w2 ⟨rfl, hb2⟩
    have hB2 := hB1.trans (hb2.mono hB1.size)
    unfold ret2
    go_wp2_with fail
    refine (take_txts R.out.back _ R.out.ls R.out.lb).mono ?_
    rintro e w3 ⟨rfl, hb3⟩
    have hB3 := hB2.trans (hb3.mono hB2.size)
    unfold ret2
    go_wp2_with fail
    refine (meet_txt R.out.both _ R.out.la R.out.lb).mono ?_
    rintro e w4 ⟨rfl, hb4⟩
    have hB4 := hB3.trans (hb4.mono hB3.size)
    unfold ret2
    go_wp2_with fail
    refine (meet_txt R.out.other _ R.out.lb R.out.la).mono ?_
    rintro e w5 ⟨rfl, hb5⟩
    have hB5 := hB4.trans (hb5.mono hB4.size)
    unfold ret2
    go_wp2_with fail
    refine (holds_txt R.out.left _ R.out.la R.out.lm).mono ?_
    rintro e w6 ⟨rfl, hb6⟩
    have hB6 := hB5.trans (hb6.mono hB5.size)
    go_wp2_with fail
    refine (holds_txt R.out.right _ R.out.lb R.out.lm).mono ?_
    rintro e w7 ⟨rfl, hb7⟩
    have hB7 := hB6.trans (hb7.mono hB6.size)
    go_wp2_with fail
    refine (take_txts R.out.rest _ R.out.la R.out.lm).mono ?_
    rintro e w8 ⟨rfl, hb8⟩
    have hB8 := hB7.trans (hb8.mono hB7.size)
    unfold ret2
    go_wp2_with fail
    refine (take_txts R.out.more _ R.out.lb R.out.lm).mono ?_
    rintro e w9 ⟨rfl, hb9⟩
    have hB9 := hB8.trans (hb9.mono hB8.size)
    unfold ret2
    go_wp2_with fail
    refine (meet_txt R.out.none _ R.out.lr R.out.lq).mono ?_
    rintro e w10 ⟨rfl, hb10⟩
    have hB10 := hB9.trans (hb10.mono hB9.size)
    unfold ret2
    go_wp2_with fail
    refine (holds_txt R.out.has _ R.out.la R.out.lb).mono ?_
    rintro e w11 ⟨rfl, hb11⟩
    have hB11 := hB10.trans (hb11.mono hB10.size)
    go_wp2
    go_ret
    exact ⟨rfl, hB11⟩

set_option maxRecDepth 100000 in
theorem FnRacks_lifted (os : Os) (started : os.Started) (H : Type) (enc : TypeId × Value → H) :
    ReturnsInHanded {} Try.checked os 3 .any (Rows.fnRacksSpec.pre6 enc Try.prog Try.f3 Rows.fnRacksRow.domain false) (Rows.fnRacksSpec.post enc Try.prog Try.f3 false true false false) := by
  refine returnsInHanded_of_change (C := Try.checked) prog_own started (by kernel_rfl) Try.func3
    (ChangeSpec.witness6 (enc := enc) (C := Try.checked) false ⟨#[], #[.slice none 0 0], []⟩ 8 (by kernel_rfl) (by kernel_rfl) (by kernel_rfl) (by kernel_rfl)) ?_
  intro W base args ds gs before hval0 hW hcnd _
  have hval : ∀ (j : Nat) t v, Try.f3.params[j]? = some t → args[j]? = some v → Value.okWide Try.prog W .any base t v := hval0
  have hW' := hW
  obtain ⟨p, q, hA0, hV, rfl, hfz, hnd⟩ := hW
  have hA : DataW.TrodAll enc Try.prog W 0 (fun _ => true) true Try.f3.params.toList args.toList ds p := hA0
  rw [Try.params3] at hA hval
  obtain ⟨v0, vs0, d0, ds0, p0, q0, hargs, rfl, rfl, h0, r0⟩ := trodAll_cons hA
  obtain ⟨rfl, rfl, rfl⟩ := trodAll_nil r0
  obtain rfl : args = #[v0] := by cases args; simp_all
  obtain ⟨rfl, rfl⟩ := trodVars_none hV
  have k0 := h0
  have lt0 : ∀ x ∈ p0, x.block < W.heap.size := by obtain ⟨m, hm⟩ := k0; exact DataW.trod_lt m _ _ _ hm
  obtain ⟨fu0, hf0⟩ := h0
  obtain ⟨A0, len0, cap0, rfl⟩ := okWide_slice Try.underlying22 (hval 0 22 v0 rfl rfl)
  obtain ⟨z0, i0⟩ := bytes_cell Try.underlying22 Try.underlying5 (by kernel_rfl) hf0
  clear hA0 hval0
  refine (FnRacks_walk W _ z0 i0).mono fun e W' ⟨he, bel⟩ => ?_
  subst he
  exact ⟨_, rfl, _, _, _, [], _, [], hW', trodAll_mk1 (shut_bool Try.underlying4 _), (trodAll_cons_mk (Below.trod prog_laid (by kernel_rfl) (of_decide_eq_true (by kernel_rfl)) k0 bel lt0) trodAll_mk0), rfl, bel.frame _, fun h => by cases h⟩

theorem FnRacks_holds : Rows.FnRacksSaid :=
  OpenClaim.holds_of_wide 3 Try.f3 rfl rfl rfl rfl rfl rfl rfl ⟨rfl, rfl, rfl, rfl, rfl⟩ rfl rfl rfl rfl rfl (by kernel_rfl) Try.func3 (by kernel_rfl)
    (of_decide_eq_true (by kernel_rfl)) (by unfold Func.isWrapper; rw [if_neg (of_decide_eq_false (by kernel_rfl))]; exact ⟨rfl, rfl⟩)
    (fun os started H enc _ => FnRacks_lifted os started H enc)
#print axioms FnRacks_holds
end Go.Proofs.Ytcbkidpgefmhoaa
