/-
  At every play the program's TransposePlay answers as the model does, and leaves its argument as it was.
-/
import Derived.Test.YtmkdbahdhobdjaaCP
import Derived.Test.YtmkdbahdhobdjaaK5
import Derived.Test.YtmkdbahdhobdjaaWQ
namespace Go.Proofs.Ytmkdbahdhobdjaa
open Go.ChangeShapes Go.WideShapes Go.ChangeAt Go.RowKit Go.Joins
open Go.ChangeMaps (open_string shut_string)

set_option maxHeartbeats 4000000 in
theorem FnExactTransposePlay_walk (w : World) (r k : Int) (d : Bool) (s : ByteArray) (_hr : (Lit.int .i64 r).wf = true) (_hk : (Lit.int .i64 k).wf = true) (hs : s.size ≤ maxLen) :
    Calls Try.prog 9 #[.agg #[.int .i64 r, .int .i64 k, .bool d, .string s]] w fun e w' => e = .returned (.bool true) ∧ Below w.heap.size w w' := by
  have hB0 : Below w.heap.size w (w.alloc (.cells #[.int .i64 r, .int .i64 k, .bool d, .string s] 54)) := (Below.refl _ _).alloc (Nat.le_refl _) _
  by_cases hsz : (1048576 : Int) < (s.size : Int)
  · go_enter Try.func9, Try.ntmps9
    go_wp2_with fail
    refine (szPlay_big (left := 1048576) r k d s _ hs (by omega) (by omega) hsz).mono ?_
    rintro e w1 ⟨rfl, hb1⟩
    go_wp2
    go_ret
    exact ⟨rfl, hB0.trans (hb1.mono hB0.size)⟩
  · obtain ⟨R, hR⟩ : ∃ R : Int, (1048576 : Int) - s.size = R := ⟨_, rfl⟩
    have hge : ¬ R < 0 := by omega
    have HR := ShO.mk hR
    have HG := ShO.mk (Blk.made w 54 #[.int .i64 r, .int .i64 k, .bool d, .string s])
    have HF := ShO.mk hsz
    clear hR hsz
    go_enter Try.func9, Try.ntmps9
    go_wp2_with fail
    refine (szPlay_fits (left := 1048576) r k d s _ (by omega) (by omega) (by have := HF.out; omega)).mono ?_
    rw [HR.out]
    rintro e w1 ⟨rfl, hb1⟩
    have B1 := ShO.mk (hB0.trans (hb1.mono hB0.size))
    have G1 := ShO.mk (HG.out.kept hb1 HG.out.lt)
    have c1 := G1.out.cells
    clear hb1
    go_wp2_with fail
    refine (toPlay_any r k d s _).mono ?_
    rintro e w2 ⟨rfl, hb2⟩
    have B2 := ShO.mk (B1.out.trans (hb2.mono B1.out.size))
    have G2 := ShO.mk (G1.out.kept hb2 G1.out.lt)
    clear c1 hb2
    go_wp2_with fail
    refine (specTransposePlay_any r k d s _).mono ?_
    rintro e w3 ⟨rfl, hb3⟩
    have A3 := ShO.mk ((B2.out.trans (hb3.mono B2.out.size)).alloc (by have := (B2.out.trans (hb3.mono B2.out.size)).size; omega) (.cells #[.int .i64 k, .int .i64 r, .bool (!d), .string s] 56))
    have K3 := ShO.mk ((G2.out.kept hb3 G2.out.lt).alloc (.cells #[.int .i64 k, .int .i64 r, .bool (!d), .string s] 56))
    have R3 := ShO.mk (Blk.made w3 56 #[.int .i64 k, .int .i64 r, .bool (!d), .string s])
    have c3 := K3.out.cells
    clear hb3
    go_wp2_with fail
    refine (toPlay_any r k d s _).mono ?_
    rintro e w4 ⟨rfl, hb4⟩
    have B4 := ShO.mk (A3.out.trans (hb4.mono A3.out.size))
    have R4 := ShO.mk (R3.out.kept hb4 R3.out.lt)
    clear c3 hb4
    go_wp2_with fail
    refine (implTransposePlay_any r k d s _).mono ?_
    rintro e w5 ⟨rfl, hb5⟩
    have B5 := ShO.mk (B4.out.trans (hb5.mono B4.out.size))
    have R5 := ShO.mk (R4.out.kept hb5 R4.out.lt)
    have A5 := ShO.mk (B5.out.alloc (by have := B5.out.size; omega) (.cells #[.int .i64 k, .int .i64 r, .bool (!d), .string s] 56))
    have K5 := ShO.mk (R5.out.alloc (.cells #[.int .i64 k, .int .i64 r, .bool (!d), .string s] 56))
    have S5 := ShO.mk (Blk.made w5 56 #[.int .i64 k, .int .i64 r, .bool (!d), .string s])
    have c5 := K5.out.cells
    have d5 := S5.out.cells
    clear hb5
    go_wp2_with fail
    refine (eqPlay_same k r (!d) s _).mono ?_
    rintro e w6 ⟨rfl, hb6⟩
    have B6 := ShO.mk (A5.out.trans (hb6.mono A5.out.size))
    clear hb6 c5 d5
    go_wp2
    go_ret
    exact ⟨rfl, B6.out⟩
set_option maxRecDepth 100000 in
theorem FnExactTransposePlay_lifted (os : Os) (started : os.Started) (H : Type) (enc : TypeId × Value → H) :
    ReturnsInHanded {} Try.checked os 9 .any (Rows.fnExactTransposePlaySpec.pre6 enc Try.prog Try.f9 Rows.fnExactTransposePlayRow.domain false) (Rows.fnExactTransposePlaySpec.post enc Try.prog Try.f9 false true false false) := by
  refine returnsInHanded_of_change (C := Try.checked) prog_own started (by kernel_rfl) Try.func9
    (ChangeSpec.witness6 (enc := enc) (C := Try.checked) false ⟨#[], #[.agg #[.int .i64 0, .int .i64 0, .bool false, .string ByteArray.empty]], []⟩ 8 (by kernel_rfl) (by kernel_rfl) (by kernel_rfl) (by kernel_rfl)) ?_
  intro W base args ds gs before hval0 hW hcnd _
  have hval : ∀ (j : Nat) t v, Try.f9.params[j]? = some t → args[j]? = some v → Value.okWide Try.prog W .any base t v := hval0
  have hW' := hW
  obtain ⟨p, q, hA0, hV, rfl, hfz, hnd⟩ := hW
  have hA : DataW.TrodAll enc Try.prog W 0 (fun _ => true) true Try.f9.params.toList args.toList ds p := hA0
  rw [Try.params9] at hA hval
  obtain ⟨v0, vs0, d0, ds0, p0, q0, hargs, rfl, rfl, h0, r0⟩ := trodAll_cons hA
  obtain ⟨rfl, rfl, rfl⟩ := trodAll_nil r0
  obtain rfl : args = #[v0] := by cases args; simp_all
  obtain ⟨rfl, rfl⟩ := trodVars_none hV
  have k0 := h0
  have lt0 : ∀ x ∈ p0, x.block < W.heap.size := by obtain ⟨m, hm⟩ := k0; exact DataW.trod_lt m _ _ _ hm
  obtain ⟨c00, c01, c02, c03, y00, y01, y02, y03, n0, rfl, rfl, rfl, f00, f01, f02, f03⟩ := open_agg4 Try.underlying54 (by kernel_rfl) (by kernel_rfl) (hval 0 54 v0 rfl rfl) h0
  obtain ⟨r0_, rfl, _, wr0_⟩ := int_cell Try.underlying2 f00
  obtain ⟨k0_, rfl, _, wk0_⟩ := int_cell Try.underlying2 f01
  obtain ⟨d0_, rfl, _⟩ := bool_cell Try.underlying4 f02
  obtain ⟨s0_, rfl, _, ws0_⟩ := string_cell Try.underlying9 f03
  clear hA0 hval0
  refine (FnExactTransposePlay_walk W r0_ k0_ d0_ s0_ wr0_ wk0_ ws0_).mono fun e W' ⟨he, bel⟩ => ?_
  subst he
  exact ⟨_, rfl, _, _, _, [], _, [], hW', trodAll_mk1 (shut_bool Try.underlying4 _), (trodAll_cons_mk (Below.trod prog_laid (by kernel_rfl) (of_decide_eq_true (by kernel_rfl)) k0 bel lt0) trodAll_mk0), rfl, bel.frame _, fun h => by cases h⟩

theorem FnExactTransposePlay_holds : Rows.FnExactTransposePlaySaid :=
  OpenClaim.holds_of_wide 9 Try.f9 rfl rfl rfl rfl rfl rfl rfl ⟨rfl, rfl, rfl, rfl, rfl⟩ rfl rfl rfl rfl rfl (by kernel_rfl) Try.func9 (by kernel_rfl)
    (of_decide_eq_true (by kernel_rfl)) (by unfold Func.isWrapper; rw [if_neg (of_decide_eq_false (by kernel_rfl))]; exact ⟨rfl, rfl⟩)
    (fun os started H enc _ => FnExactTransposePlay_lifted os started H enc)
end Go.Proofs.Ytmkdbahdhobdjaa
