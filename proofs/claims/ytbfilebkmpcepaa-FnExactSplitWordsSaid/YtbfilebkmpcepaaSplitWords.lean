/-
  The law of SplitWords is true of every text: the program's words are the model's, in memory of their own at each call.
-/
import Derived.Test.YtbfilebkmpcepaaP2
import Derived.Test.YtbfilebkmpcepaaK
namespace Go.Proofs.Ytbfilebkmpcepaa
open Go.ChangeShapes Go.WideShapes Go.ChangeAt Go.RowKit Go.Joins
open Go.ChangeMaps (open_string shut_string)

theorem words_len (s : ByteArray) (hs : s.size ≤ 1048576) : (wordsB s).length ≤ 1048577 := by
  have h := cuts_len s 32
  have h2 : (full (cuts s 32)).length ≤ (cuts s 32).length := List.length_filter_le _ _
  unfold wordsB pc
  simp
  omega

set_option maxHeartbeats 2000000 in
theorem splitWords_in (w : World) (s : ByteArray) (hs : s.size ≤ 1048576) : Calls Try.prog 4 #[.string s] w fun e w' => e = .returned (.bool true) ∧ Below w.heap.size w w' := by
  have hwl := words_len s hs
  obtain ⟨ss, hss⟩ : ∃ ss, wordsB s = ss := ⟨_, rfl⟩
  have hsp := specSplitWords_any s w hs
  have him : ∀ W, _ := fun W => implSplitWords_any s W hs
  rw [hss] at hwl hsp
  simp only [hss] at him
  have HSP := hid hsp
  have HIM := hid him
  clear hsp him hss
  go_enter Try.func4, Try.ntmps4
  go_wp2_with fail
  refine HSP.out.mono ?_
  rintro e w1 ⟨v0, rfl, o0, hb1⟩
  have s0 := o0.strs
  go_wp2_with fail
  refine (HIM.out w1).mono ?_
  rintro e w2 ⟨v1, rfl, o1, hb2⟩
  have hA2 : Below w1.heap.size w1 w2 := hb2
  go_wp2_with fail
  refine (eqStringS_same w2 o1.strs (s0.below hA2)).mono ?_
  rintro e w3 ⟨rfl, n3, rfl⟩
  have hA3 := below_drewN hA2 n3
  have o3 : OwnS w1.heap.size (w2.drewN n3) v1 ss := o1
  go_wp2_with fail
  refine (markStringS_any 1 _ o3 (by omega) (by omega)).mono ?_
  rintro e w4 ⟨rfl, o4, hg4⟩
  have hA4 := hA3.grown hg4 hA3.size (own_block o3)
  have s4 : Strs w4 v1 (marks 1 ss.length) := OwnS.strs o4
  go_wp2_with fail
  refine (heldStringS_any 1 ss.length w4 s4 (by omega) (by omega)).mono ?_
  rintro e w5 ⟨rfl, hb5⟩
  have hA5 := hA4.trans (hb5.mono hA4.size)
  have hnn : ¬ (((1 + ss.length : Nat) : Int) < 0) := by omega
  go_wp2_with fail
  refine (HIM.out w5).mono ?_
  rintro e w6 ⟨v2, rfl, o6, hb6⟩
  have hA6 := hA5.trans (hb6.mono hA5.size)
  go_wp2_with fail
  refine (eqStringS_same w6 o6.strs (s0.below hA6)).mono ?_
  rintro e w7 ⟨rfl, n7, rfl⟩
  have hA7 := below_drewN hA6 n7
  go_wp2_with fail
  refine (heldStringS_any 1 ss.length _ (s4.below (below_drewN (hb5.trans (hb6.mono hb5.size)) n7)) (by omega) (by omega)).mono ?_
  rintro e w8 ⟨rfl, hb8⟩
  have hA8 := hA7.trans (hb8.mono hA7.size)
  go_wp2
  go_ret
  exact ⟨rfl, hb1.trans (hA8.mono hb1.size)⟩

theorem FnExactSplitWords_walk (w : World) (s : ByteArray) (_hs : s.size ≤ maxLen) : Calls Try.prog 4 #[.string s] w fun e w' => e = .returned (.bool true) ∧ Below w.heap.size w w' := by
  by_cases hlong : s.size ≤ 1048576
  · exact splitWords_in w s hlong
  · have hl : (1048576 : Int) < (s.size : Int) := by omega
    clear hlong
    go_enter Try.func4, Try.ntmps4
    go_wp2
    go_ret
    exact ⟨rfl, Below.refl _ _⟩

set_option maxRecDepth 100000 in
theorem FnExactSplitWords_lifted (os : Os) (started : os.Started) (H : Type) (enc : TypeId × Value → H) :
    ReturnsInHanded {} Try.checked os 4 .any (Rows.fnExactSplitWordsSpec.pre6 enc Try.prog Try.f4 Rows.fnExactSplitWordsRow.domain false) (Rows.fnExactSplitWordsSpec.post enc Try.prog Try.f4 false true false false) := by
  refine returnsInHanded_of_change (C := Try.checked) prog_own started (by kernel_rfl) Try.func4
    (ChangeSpec.witness6 (enc := enc) (C := Try.checked) false ⟨#[], #[.string ByteArray.empty], []⟩ 8 (by kernel_rfl) (by kernel_rfl) (by kernel_rfl) (by kernel_rfl)) ?_
  intro W base args ds gs before hval0 hW hcnd _
  have hval : ∀ (j : Nat) t v, Try.f4.params[j]? = some t → args[j]? = some v → Value.okWide Try.prog W .any base t v := hval0
  have hW' := hW
  obtain ⟨p, q, hA0, hV, rfl, hfz, hnd⟩ := hW
  have hA : DataW.TrodAll enc Try.prog W 0 (fun _ => true) true Try.f4.params.toList args.toList ds p := hA0
  rw [Try.params4] at hA hval
  obtain ⟨v0, vs0, d0, ds0, p0, q0, hargs, rfl, rfl, h0, r0⟩ := trodAll_cons hA
  obtain ⟨rfl, rfl, rfl⟩ := trodAll_nil r0
  obtain rfl : args = #[v0] := by cases args; simp_all
  obtain ⟨rfl, rfl⟩ := trodVars_none hV
  have k0 := h0
  have lt0 : ∀ x ∈ p0, x.block < W.heap.size := by obtain ⟨m, hm⟩ := k0; exact DataW.trod_lt m _ _ _ hm
  obtain ⟨a0, rfl, rfl, rfl, w0⟩ := open_string Try.underlying9 (hval 0 9 v0 rfl rfl) h0
  clear hA0 hval0
  refine (FnExactSplitWords_walk W a0 w0).mono fun e W' ⟨he, bel⟩ => ?_
  subst he
  exact ⟨_, rfl, _, _, _, [], _, [], hW', trodAll_mk1 (shut_bool Try.underlying4 _), (trodAll_cons_mk (Below.trod prog_laid (by kernel_rfl) (of_decide_eq_true (by kernel_rfl)) k0 bel lt0) trodAll_mk0), rfl, bel.frame _, fun h => by cases h⟩

theorem FnExactSplitWords_holds : Rows.FnExactSplitWordsSaid :=
  OpenClaim.holds_of_wide 4 Try.f4 rfl rfl rfl rfl rfl rfl rfl ⟨rfl, rfl, rfl, rfl, rfl⟩ rfl rfl rfl rfl rfl (by kernel_rfl) Try.func4 (by kernel_rfl)
    (of_decide_eq_true (by kernel_rfl)) (by unfold Func.isWrapper; rw [if_neg (of_decide_eq_false (by kernel_rfl))]; exact ⟨rfl, rfl⟩)
    (fun os started H enc _ => FnExactSplitWords_lifted os started H enc)
#print axioms FnExactSplitWords_holds
end Go.Proofs.Ytbfilebkmpcepaa
