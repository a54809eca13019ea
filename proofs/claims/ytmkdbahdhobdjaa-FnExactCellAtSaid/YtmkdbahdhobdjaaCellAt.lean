/-
  At every board the program's CellAt answers as the model does, and leaves its argument as it was.
-/
import Derived.Test.YtmkdbahdhobdjaaBD
import Derived.Test.YtmkdbahdhobdjaaWQ
namespace Go.Proofs.Ytmkdbahdhobdjaa
open Go.ChangeShapes Go.WideShapes Go.ChangeAt Go.RowKit Go.Joins
open Go.ChangeMaps (open_string shut_string)

set_option maxHeartbeats 4000000 in
theorem FnExactCellAt_walk (w : World) (n : Int) (p c : ByteArray) (_hn : (Lit.int .i64 n).wf = true) (hp : p.size ≤ maxLen) (hc : c.size ≤ maxLen) (r : Int) (_hr : (Lit.int .i64 r).wf = true) (k : Int) (_hk : (Lit.int .i64 k).wf = true) :
    Calls Try.prog 6 #[.agg #[.int .i64 n, .string p, .string c], .int .i64 r, .int .i64 k] w fun e w' => e = .returned (.bool true) ∧ Below w.heap.size w w' := by
  have hB0 : Below w.heap.size w (w.alloc (.cells #[.int .i64 n, .string p, .string c] 47)) := (Below.refl _ _).alloc (Nat.le_refl _) _
  by_cases hsz : (1048576 : Int) < ((p.size + c.size : Nat) : Int)
  · go_enter Try.func6, Try.ntmps6
    go_wp2_with fail
    refine (szBoard_big (left := 1048576) n p c _ hp hc (by omega) (by omega) hsz).mono ?_
    rintro e w1 ⟨rfl, hb1⟩
    go_wp2
    go_ret
    exact ⟨rfl, hB0.trans (hb1.mono hB0.size)⟩
  · obtain ⟨R, hR⟩ : ∃ R : Int, (1048576 : Int) - p.size - c.size = R := ⟨_, rfl⟩
    have hge : ¬ R < 0 := by omega
    have HR := ShO.mk hR
    obtain ⟨o, ho⟩ : ∃ o, atOut c n p c r k = o := ⟨_, rfl⟩
    have HO := ShO.mk ho
    have HG := ShO.mk (Blk.made w 47 #[.int .i64 n, .string p, .string c])
    have HF := ShO.mk (show ¬ (1048576 : Int) < ((p.size + c.size : Nat) : Int) from hsz)
    clear hR ho hsz
    go_enter Try.func6, Try.ntmps6
    go_wp2_with fail
    refine (szBoard_fits (left := 1048576) n p c _ (by omega) (by omega) (by have := HF.out; omega)).mono ?_
    rw [HR.out]
    rintro e w1 ⟨rfl, hb1⟩
    have B1 := ShO.mk (hB0.trans (hb1.mono hB0.size))
    have G1 := ShO.mk (HG.out.kept hb1 HG.out.lt)
    have c1 := G1.out.cells
    clear hb1
    go_wp2_with fail
    refine (toBoard_any n p c _).mono ?_
    rintro e w2 ⟨rfl, hb2⟩
    have B2 := ShO.mk (B1.out.trans (hb2.mono B1.out.size))
    have G2 := ShO.mk (G1.out.kept hb2 G1.out.lt)
    clear c1 hb2
    go_wp2_with fail
    refine (specCellAt_any n p c r k _).mono ?_
    rw [HO.out]
    rintro e w3 ⟨rfl, hb3⟩
    have B3 := ShO.mk (B2.out.trans (hb3.mono B2.out.size))
    have G3 := ShO.mk (G2.out.kept hb3 G2.out.lt)
    clear hb3
    have c3 := G3.out.cells
    go_wp2_with fail
    refine (toBoard_any n p c _).mono ?_
    rintro e w4 ⟨rfl, hb4⟩
    have B4 := ShO.mk (B3.out.trans (hb4.mono B3.out.size))
    clear c3 hb4
    go_wp2_with fail
    refine (implCellAt_any n p c r k _).mono ?_
    rw [HO.out]
    rintro e w5 ⟨rfl, hb5⟩
    have B5 := ShO.mk (B4.out.trans (hb5.mono B4.out.size))
    clear hb5
    go_wp2
    go_ret
    exact ⟨rfl, B5.out⟩
set_option maxRecDepth 100000 in
theorem FnExactCellAt_lifted (os : Os) (started : os.Started) (H : Type) (enc : TypeId × Value → H) :
    ReturnsInHanded {} Try.checked os 6 .any (Rows.fnExactCellAtSpec.pre6 enc Try.prog Try.f6 Rows.fnExactCellAtRow.domain false) (Rows.fnExactCellAtSpec.post enc Try.prog Try.f6 false true false false) := by
  refine returnsInHanded_of_change (C := Try.checked) prog_own started (by kernel_rfl) Try.func6
    (ChangeSpec.witness6 (enc := enc) (C := Try.checked) false ⟨#[], #[.agg #[.int .i64 0, .string ByteArray.empty, .string ByteArray.empty], .int .i64 0, .int .i64 0], []⟩ 8 (by kernel_rfl) (by kernel_rfl) (by kernel_rfl) (by kernel_rfl)) ?_
  intro W base args ds gs before hval0 hW hcnd _
  have hval : ∀ (j : Nat) t v, Try.f6.params[j]? = some t → args[j]? = some v → Value.okWide Try.prog W .any base t v := hval0
  have hW' := hW
  obtain ⟨p, q, hA0, hV, rfl, hfz, hnd⟩ := hW
  have hA : DataW.TrodAll enc Try.prog W 0 (fun _ => true) true Try.f6.params.toList args.toList ds p := hA0
  rw [Try.params6] at hA hval
  obtain ⟨v0, vs0, d0, ds0, p0, q0, hargs, rfl, rfl, h0, r0⟩ := trodAll_cons hA
  obtain ⟨v1, vs1, d1, ds1, p1, q1, rfl, rfl, rfl, h1, r1⟩ := trodAll_cons r0
  obtain ⟨v2, vs2, d2, ds2, p2, q2, rfl, rfl, rfl, h2, r2⟩ := trodAll_cons r1
  obtain ⟨rfl, rfl, rfl⟩ := trodAll_nil r2
  obtain rfl : args = #[v0, v1, v2] := by cases args; simp_all
  obtain ⟨rfl, rfl⟩ := trodVars_none hV
  have k0 := h0
  have lt0 : ∀ x ∈ p0, x.block < W.heap.size := by obtain ⟨m, hm⟩ := k0; exact DataW.trod_lt m _ _ _ hm
  obtain ⟨c00, c01, c02, y00, y01, y02, n0, rfl, rfl, rfl, f00, f01, f02⟩ := open_agg3 Try.underlying47 (by kernel_rfl) (by kernel_rfl) (hval 0 47 v0 rfl rfl) h0
  obtain ⟨b0, rfl, _, wb0⟩ := int_cell Try.underlying2 f00
  obtain ⟨P0, rfl, _, wP0⟩ := string_cell Try.underlying9 f01
  obtain ⟨L0, rfl, _, wL0⟩ := string_cell Try.underlying9 f02
  have k1 := h1
  have lt1 : ∀ x ∈ p1, x.block < W.heap.size := by obtain ⟨m, hm⟩ := k1; exact DataW.trod_lt m _ _ _ hm
  obtain ⟨a1, rfl, rfl, rfl, w1⟩ := open_int Try.underlying2 (hval 1 2 v1 rfl rfl) h1
  have k2 := h2
  have lt2 : ∀ x ∈ p2, x.block < W.heap.size := by obtain ⟨m, hm⟩ := k2; exact DataW.trod_lt m _ _ _ hm
  obtain ⟨a2, rfl, rfl, rfl, w2⟩ := open_int Try.underlying2 (hval 2 2 v2 rfl rfl) h2
  clear hA0 hval0
  refine (FnExactCellAt_walk W b0 P0 L0 wb0 wP0 wL0 a1 w1 a2 w2).mono fun e W' ⟨he, bel⟩ => ?_
  subst he
  exact ⟨_, rfl, _, _, _, [], _, [], hW', trodAll_mk1 (shut_bool Try.underlying4 _), (trodAll_cons_mk (Below.trod prog_laid (by kernel_rfl) (of_decide_eq_true (by kernel_rfl)) k0 bel lt0) (trodAll_cons_mk (Below.trod prog_laid (by kernel_rfl) (of_decide_eq_true (by kernel_rfl)) k1 bel lt1) (trodAll_cons_mk (Below.trod prog_laid (by kernel_rfl) (of_decide_eq_true (by kernel_rfl)) k2 bel lt2) trodAll_mk0))), rfl, bel.frame _, fun h => by cases h⟩

theorem FnExactCellAt_holds : Rows.FnExactCellAtSaid :=
  OpenClaim.holds_of_wide 6 Try.f6 rfl rfl rfl rfl rfl rfl rfl ⟨rfl, rfl, rfl, rfl, rfl⟩ rfl rfl rfl rfl rfl (by kernel_rfl) Try.func6 (by kernel_rfl)
    (of_decide_eq_true (by kernel_rfl)) (by unfold Func.isWrapper; rw [if_neg (of_decide_eq_false (by kernel_rfl))]; exact ⟨rfl, rfl⟩)
    (fun os started H enc _ => FnExactCellAt_lifted os started H enc)
end Go.Proofs.Ytmkdbahdhobdjaa
