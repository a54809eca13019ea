/-
  At every size the program's StandardBoard answers as the model does.
-/
import Derived.Test.YtpeobloofofnlaaBG
import Derived.Test.YtpeobloofofnlaaWQ
namespace Go.Proofs.Ytpeobloofofnlaa
open Go.ChangeShapes Go.WideShapes Go.ChangeAt Go.RowKit Go.Joins
open Go.ChangeMaps (open_string shut_string)

set_option maxHeartbeats 4000000 in
theorem FnExactStandardBoard_walk (w : World) (n : Int) (_hn : (Lit.int .i64 n).wf = true) :
    Calls Try.prog 11 #[.int .i64 n] w fun e w' => e = .returned (.bool true) ∧ Below w.heap.size w w' := by
  obtain ⟨o, ho⟩ : ∃ o, standOut n = o := ⟨_, rfl⟩
  have HO := ShO.mk ho
  clear ho
  go_enter Try.func11, Try.ntmps11
  go_wp2_with fail
  refine (specStandardBoard_any n _).mono ?_
  rw [HO.out]
  rintro e w3 ⟨rfl, hb3⟩
  have A3 := ShO.mk (hb3.alloc hb3.size (.cells #[.int .i64 o.1.1, .string o.1.2.1, .string o.1.2.2] 25))
  have R3 := ShO.mk (Blk.made w3 25 #[.int .i64 o.1.1, .string o.1.2.1, .string o.1.2.2])
  clear hb3
  go_wp2_with fail
  refine (implStandardBoard_any n _).mono ?_
  rw [HO.out]
  rintro e w5 ⟨rfl, hb5⟩
  have B5 := ShO.mk (A3.out.trans (hb5.mono A3.out.size))
  have R5 := ShO.mk (R3.out.kept hb5 R3.out.lt)
  have A5 := ShO.mk (B5.out.alloc B5.out.size (.cells #[.int .i64 o.1.1, .string o.1.2.1, .string o.1.2.2] 25))
  have K5 := ShO.mk (R5.out.alloc (.cells #[.int .i64 o.1.1, .string o.1.2.1, .string o.1.2.2] 25))
  have c5 := K5.out.cells
  clear hb5
  go_wp2_with fail
  refine (eqBoard_same o.1.1 o.1.2.1 o.1.2.2 _).mono ?_
  rintro e w6 ⟨rfl, hb6⟩
  have B6 := ShO.mk (A5.out.trans (hb6.mono A5.out.size))
  clear hb6 c5
  go_wp2
  go_ret
  exact ⟨rfl, B6.out⟩
set_option maxRecDepth 100000 in
theorem FnExactStandardBoard_lifted (os : Os) (started : os.Started) (H : Type) (enc : TypeId × Value → H) :
    ReturnsInHanded {} Try.checked os 11 .any (Rows.fnExactStandardBoardSpec.pre6 enc Try.prog Try.f11 Rows.fnExactStandardBoardRow.domain false) (Rows.fnExactStandardBoardSpec.post enc Try.prog Try.f11 false true false false) := by
  refine returnsInHanded_of_change (C := Try.checked) prog_own started (by kernel_rfl) Try.func11
    (ChangeSpec.witness6 (enc := enc) (C := Try.checked) false ⟨#[], #[.int .i64 0], []⟩ 8 (by kernel_rfl) (by kernel_rfl) (by kernel_rfl) (by kernel_rfl)) ?_
  intro W base args ds gs before hval0 hW hcnd _
  have hval : ∀ (j : Nat) t v, Try.f11.params[j]? = some t → args[j]? = some v → Value.okWide Try.prog W .any base t v := hval0
  have hW' := hW
  obtain ⟨p, q, hA0, hV, rfl, hfz, hnd⟩ := hW
  have hA : DataW.TrodAll enc Try.prog W 0 (fun _ => true) true Try.f11.params.toList args.toList ds p := hA0
  rw [Try.params11] at hA hval
  obtain ⟨v0, vs0, d0, ds0, p0, q0, hargs, rfl, rfl, h0, r0⟩ := trodAll_cons hA
  obtain ⟨rfl, rfl, rfl⟩ := trodAll_nil r0
  obtain rfl : args = #[v0] := by cases args; simp_all
  obtain ⟨rfl, rfl⟩ := trodVars_none hV
  have k0 := h0
  have lt0 : ∀ x ∈ p0, x.block < W.heap.size := by obtain ⟨m, hm⟩ := k0; exact DataW.trod_lt m _ _ _ hm
  obtain ⟨a0, rfl, rfl, rfl, w0⟩ := open_int Try.underlying2 (hval 0 2 v0 rfl rfl) h0
  clear hA0 hval0
  refine (FnExactStandardBoard_walk W a0 w0).mono fun e W' ⟨he, bel⟩ => ?_
  subst he
  exact ⟨_, rfl, _, _, _, [], _, [], hW', trodAll_mk1 (shut_bool Try.underlying4 _), (trodAll_cons_mk (Below.trod prog_laid (by kernel_rfl) (of_decide_eq_true (by kernel_rfl)) k0 bel lt0) trodAll_mk0), rfl, bel.frame _, fun h => by cases h⟩

set_option maxHeartbeats 8000000 in
theorem FnExactStandardBoard_facts : joinedFacts Try.pinned.checked.prog 11 Try.f11 Rows.fnExactStandardBoardSpec Rows.fnExactStandardBoardRow = true := by
  unfold joinedFacts
  rw [prog_enter, prog_lifts, prog_made]
  kernel_rfl
theorem FnExactStandardBoard_holds : Rows.FnExactStandardBoardSaid :=
  OpenClaim.holds_of_wide 11 Try.f11 rfl rfl rfl rfl rfl rfl rfl ⟨rfl, rfl, rfl, rfl, rfl⟩ rfl rfl rfl rfl rfl (by kernel_rfl) Try.func11 FnExactStandardBoard_facts
    (of_decide_eq_true (by kernel_rfl)) (by unfold Func.isWrapper; rw [if_neg (of_decide_eq_false (by kernel_rfl))]; exact ⟨rfl, rfl⟩)
    (fun os started H enc _ => FnExactStandardBoard_lifted os started H enc)
end Go.Proofs.Ytpeobloofofnlaa
