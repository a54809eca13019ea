/-
  The law of SameTiles is true of all two tile sets, valid or not: the program says of them what the model says, and changes nothing.
-/
import Derived.Test.YtaipfampkgpnpaaX6
import Derived.Test.YtaipfampkgpnpaaX7
namespace Go.Proofs.Ytaipfampkgpnpaa
open Go.ChangeShapes Go.WideShapes Go.ChangeAt Go.RowKit Go.Joins
open Go.ChangeMaps (open_string shut_string)

set_option maxHeartbeats 4000000 in
theorem FnExactSameTiles_walk (w : World) (L : ByteArray) (vv vc : Value) (zv zc : List Int) (b : Int) (hL : L.size ≤ maxLen) (hv : Ints .i64 w vv zv) (hc : Ints .i64 w vc zc) (_hb : (Lit.int .i64 b).wf = true)
    (M : ByteArray) (mv mc : Value) (yv yc : List Int) (d : Int) (hM : M.size ≤ maxLen) (kv : Ints .i64 w mv yv) (kc : Ints .i64 w mc yc) (_hd : (Lit.int .i64 d).wf = true) :
    Calls Try.prog 3 #[.agg #[.string L, vv, vc, .int .i64 b], .agg #[.string M, mv, mc, .int .i64 d]] w fun e w' => e = .returned (.bool true) ∧ Below w.heap.size w w' := by
  have h1 := hv.len
  have h2 := hc.len
  have h3 := kv.len
  have h4 := kc.len
  have hB0 : Below w.heap.size w ((w.alloc (.cells #[.string L, vv, vc, .int .i64 b] 24)).alloc (.cells #[.string M, mv, mc, .int .i64 d] 24)) := ((Below.refl _ _).alloc (Nat.le_refl _) _).alloc (by simp) _
  by_cases hsz : (1048576 : Int) < ((L.size + zv.length + zc.length : Nat) : Int)
  · have HS := Shh.mk (szN_no hsz)
    clear hsz
    go_enter Try.func3, Try.ntmps3
    go_wp2_with fail
    refine (szTileSet_any L b 1048576 _ hL ((hv.alloc _).alloc _) ((hc.alloc _).alloc _) (by omega) (by omega)).mono ?_
    rw [HS.out]
    rintro e w1 ⟨rfl, hb1⟩
    go_wp2
    go_ret
    exact ⟨rfl, hB0.trans (hb1.mono (by simp; omega))⟩
  · have HS := szN_yes hsz
    obtain ⟨R, hR⟩ : ∃ R, szN 1048576 (L.size + zv.length + zc.length) = R := ⟨_, rfl⟩
    rw [hR] at HS
    have hr0 : 0 ≤ R := by omega
    have hr1 : R ≤ 1048576 := by omega
    by_cases hsq : R < ((M.size + yv.length + yc.length : Nat) : Int)
    · have HQ := Shh.mk (szN_no hsq)
      have HR := Shh.mk hR
      have hr' : ¬ R < 0 := by omega
      clear hsz hsq hR HS
      go_enter Try.func3, Try.ntmps3
      go_wp2_with fail
      refine (szTileSet_any L b 1048576 _ hL ((hv.alloc _).alloc _) ((hc.alloc _).alloc _) (by omega) (by omega)).mono ?_
      rw [HR.out]
      rintro e w1 ⟨rfl, hb1⟩
      have r1 := hid ((made2 w 24 24 #[.string L, vv, vc, .int .i64 b] #[.string M, mv, mc, .int .i64 d]).kept hb1 (by simp))
      have cr := r1.out.cells
      have hB1 := hB0.trans (hb1.mono (by simp; omega))
      go_wp2_with fail
      refine (szTileSet_any M d R _ hM (kv.below hB1) (kc.below hB1) hr0 hr1).mono ?_
      rw [HQ.out]
      rintro e w2 ⟨rfl, hb2⟩
      go_wp2
      go_ret
      exact ⟨rfl, hB1.trans (hb2.mono hB1.size)⟩
    · have HQ := szN_yes hsq
      exact FnExactSameTiles_in w L vv vc zv zc b hL hv hc M mv mc yv yc d hM kv kc R _ hR HQ hr0 hr1 (by omega) (by omega) (by omega) (by omega) (by omega) _ rfl
        ⟨fun w x1 x2 y1 y2 i1 i2 i3 i4 => implSameTiles_any L M b d w i1 i2 i3 i4⟩

set_option maxRecDepth 100000 in
theorem FnExactSameTiles_lifted (os : Os) (started : os.Started) (H : Type) (enc : TypeId × Value → H) :
    ReturnsInHanded {} Try.checked os 3 .any (Rows.fnExactSameTilesSpec.pre6 enc Try.prog Try.f3 Rows.fnExactSameTilesRow.domain false) (Rows.fnExactSameTilesSpec.post enc Try.prog Try.f3 false true false false) := by
  refine returnsInHanded_of_change (C := Try.checked) prog_own started (by kernel_rfl) Try.func3
    (ChangeSpec.witness6 (enc := enc) (C := Try.checked) false ⟨#[], #[.agg #[.string ByteArray.empty, .slice none 0 0, .slice none 0 0, .int .i64 0], .agg #[.string ByteArray.empty, .slice none 0 0, .slice none 0 0, .int .i64 0]], []⟩ 8 (by kernel_rfl) (by kernel_rfl) (by kernel_rfl) (by kernel_rfl)) ?_
  intro W base args ds gs before hval0 hW hcnd _
  have hval : ∀ (j : Nat) t v, Try.f3.params[j]? = some t → args[j]? = some v → Value.okWide Try.prog W .any base t v := hval0
  have hW' := hW
  obtain ⟨p, q, hA0, hV, rfl, hfz, hnd⟩ := hW
  have hA : DataW.TrodAll enc Try.prog W 0 (fun _ => true) true Try.f3.params.toList args.toList ds p := hA0
  rw [Try.params3] at hA hval
  obtain ⟨v0, vs0, d0, ds0, p0, q0, hargs, rfl, rfl, h0, r0⟩ := trodAll_cons hA
  obtain ⟨v1, vs1, d1, ds1, p1, q1, rfl, rfl, rfl, h1, r1⟩ := trodAll_cons r0
  obtain ⟨rfl, rfl, rfl⟩ := trodAll_nil r1
  obtain rfl : args = #[v0, v1] := by cases args; simp_all
  obtain ⟨rfl, rfl⟩ := trodVars_none hV
  have k0 := h0
  have lt0 : ∀ x ∈ p0, x.block < W.heap.size := by obtain ⟨m, hm⟩ := k0; exact DataW.trod_lt m _ _ _ hm
  obtain ⟨c00, c01, c02, c03, y00, y01, y02, y03, n0, rfl, rfl, rfl, f00, f01, f02, f03⟩ := open_agg4 Try.underlying24 (by kernel_rfl) (by kernel_rfl) (hval 0 24 v0 rfl rfl) h0
  obtain ⟨L0, rfl, _, wL0⟩ := string_cell Try.underlying9 f00
  obtain ⟨zv0, iv0⟩ := ints_cell Try.underlying22 Try.underlying2 (by kernel_rfl) f01
  obtain ⟨zc0, ic0⟩ := ints_cell Try.underlying22 Try.underlying2 (by kernel_rfl) f02
  obtain ⟨b0, rfl, _, wb0⟩ := int_cell Try.underlying2 f03
  have k1 := h1
  have lt1 : ∀ x ∈ p1, x.block < W.heap.size := by obtain ⟨m, hm⟩ := k1; exact DataW.trod_lt m _ _ _ hm
  obtain ⟨c10, c11, c12, c13, y10, y11, y12, y13, n1, rfl, rfl, rfl, f10, f11, f12, f13⟩ := open_agg4 Try.underlying24 (by kernel_rfl) (by kernel_rfl) (hval 1 24 v1 rfl rfl) h1
  obtain ⟨L1, rfl, _, wL1⟩ := string_cell Try.underlying9 f10
  obtain ⟨zv1, iv1⟩ := ints_cell Try.underlying22 Try.underlying2 (by kernel_rfl) f11
  obtain ⟨zc1, ic1⟩ := ints_cell Try.underlying22 Try.underlying2 (by kernel_rfl) f12
  obtain ⟨b1, rfl, _, wb1⟩ := int_cell Try.underlying2 f13
  clear hA0 hval0
  refine (FnExactSameTiles_walk W L0 _ _ zv0 zc0 b0 wL0 iv0 ic0 wb0 L1 _ _ zv1 zc1 b1 wL1 iv1 ic1 wb1).mono fun e W' ⟨he, bel⟩ => ?_
  subst he
  exact ⟨_, rfl, _, _, _, [], _, [], hW', trodAll_mk1 (shut_bool Try.underlying4 _), (trodAll_cons_mk (Below.trod prog_laid (by kernel_rfl) (of_decide_eq_true (by kernel_rfl)) k0 bel lt0) (trodAll_cons_mk (Below.trod prog_laid (by kernel_rfl) (of_decide_eq_true (by kernel_rfl)) k1 bel lt1) trodAll_mk0)), rfl, bel.frame _, fun h => by cases h⟩

theorem FnExactSameTiles_holds : Rows.FnExactSameTilesSaid :=
  OpenClaim.holds_of_wide 3 Try.f3 rfl rfl rfl rfl rfl rfl rfl ⟨rfl, rfl, rfl, rfl, rfl⟩ rfl rfl rfl rfl rfl (by kernel_rfl) Try.func3 (by kernel_rfl)
    (of_decide_eq_true (by kernel_rfl)) (by unfold Func.isWrapper; rw [if_neg (of_decide_eq_false (by kernel_rfl))]; exact ⟨rfl, rfl⟩)
    (fun os started H enc _ => FnExactSameTiles_lifted os started H enc)
#print axioms FnExactSameTiles_holds
end Go.Proofs.Ytaipfampkgpnpaa
