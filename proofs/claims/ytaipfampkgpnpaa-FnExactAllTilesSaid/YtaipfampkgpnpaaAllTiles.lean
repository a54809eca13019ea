/-
  The law of AllTiles is true of every tile set, valid or not: the program says of it what the model says, and changes nothing.
-/
import Derived.Test.YtaipfampkgpnpaaW3
import Derived.Deep.RegionWith
namespace Go.Proofs.Ytaipfampkgpnpaa
open Go.ChangeShapes Go.WideShapes Go.ChangeAt Go.RowKit Go.Joins
open Go.ChangeMaps (open_string shut_string)

set_option maxHeartbeats 2000000 in
theorem FnExactAllTiles_walk (w : World) (L : ByteArray) (vv vc : Value) (zv zc : List Int) (b : Int) (hL : L.size ≤ maxLen) (hv : Ints .i64 w vv zv) (hc : Ints .i64 w vc zc) (_hb : (Lit.int .i64 b).wf = true)  :
    Calls Try.prog 4 #[.agg #[.string L, vv, vc, .int .i64 b]] w fun e w' => e = .returned (.bool true) ∧ Below w.heap.size w w' := by
  have hvl := hv.len
  have hcl := hc.len
  by_cases hsz : (1048576 : Int) < ((L.size + zv.length + zc.length : Nat) : Int)
  · have HS := hid (szN_no hsz)
    go_enter Try.func4, Try.ntmps4
    go_wp2_with fail
    refine (szTileSet_any L b 1048576 _ hL (hv.alloc _) (hc.alloc _) (by omega) (by omega)).mono ?_
    rw [HS.out]
    rintro e w1 ⟨rfl, hb1⟩
    go_wp2
    go_ret
    exact ⟨rfl, ((Below.refl _ _).alloc (Nat.le_refl _) _).trans (hb1.mono (by simp))⟩
  · have HS := hid (szN_yes hsz)
    have hge : ¬ (1048576 : Int) - ((L.size + zv.length + zc.length : Nat) : Int) < 0 := by omega
    have hvn : zv.length ≤ 1048576 := by omega
    have hcn : zc.length ≤ 1048576 := by omega
    have hwv : ∀ n ∈ zv, (Lit.int .i64 n).wf = true := by obtain ⟨_, _, _, _, _, _, h⟩ := hv; exact h
    have hwc : ∀ n ∈ zc, (Lit.int .i64 n).wf = true := by obtain ⟨_, _, _, _, _, _, h⟩ := hc; exact h
    obtain ⟨V, hV⟩ : ∃ V, (allOut L zv zc b).1 = V := ⟨_, rfl⟩
    have HV := hid hV
    have sV := same_str ⟨V.toArray⟩
    clear hV
    obtain ⟨V1, hV1⟩ : ∃ V1, (allOut L zv zc b).2 = V1 := ⟨_, rfl⟩
    have HV1 := hid hV1
    clear hV1
    obtain ⟨R, hR⟩ : ∃ R : Int, (1048576 : Int) - ((L.size + zv.length + zc.length : Nat) : Int) = R := ⟨_, rfl⟩
    rw [hR] at hge
    have HR := hid (HS.out.trans hR)
    have HWV := hid hwv
    have HWC := hid hwc
    clear hR HS hwv hwc
    go_enter Try.func4, Try.ntmps4
    go_wp2_with fail
    refine (szTileSet_any L b 1048576 _ hL (hv.alloc _) (hc.alloc _) (by omega) (by omega)).mono ?_
    rw [HR.out]
    rintro e w1 ⟨rfl, hb1⟩
    have p1 := hid ((Blk.made w _ _).kept hb1 (by simp))
    have c1 := p1.out.cells
    have hB1 := ((Below.refl w.heap.size w).alloc (Nat.le_refl _) _).trans (hb1.mono (by simp))
    go_wp2_with fail
    refine (toTileSet_any L b _ (hv.below hB1) (hc.below hB1) hvn hcn).mono ?_
    rintro e w2 ⟨t1, rfl, ⟨v1, u1, rfl, o1, q1⟩, hb2⟩
    have hB2 := hB1.trans (hb2.mono hB1.size)
    clear c1
    go_wp2_with fail
    refine (specAll2 L b _ hL (o1.ints HWV.out) (q1.ints HWC.out)).mono ?_
    rw [HV.out, HV1.out]
    rintro e w3 ⟨rfl, hb3⟩
    have hB3 := hB2.trans (hb3.mono hB2.size)
    have p3 := hid ((p1.out.kept hb2 p1.out.lt).kept hb3 (Nat.lt_of_lt_of_le p1.out.lt hb2.size))
    have c3 := p3.out.cells
    go_wp2_with fail
    refine (toTileSet_any L b _ (hv.below hB3) (hc.below hB3) hvn hcn).mono ?_
    rintro e w4 ⟨t2, rfl, ⟨v2, u2, rfl, o2, q2⟩, hb4⟩
    have hB4 := hB3.trans (hb4.mono hB3.size)
    have p4 := hid (p3.out.kept hb4 p3.out.lt)
    have i2 := o2.ints HWV.out
    have j2 := q2.ints HWC.out
    obtain ⟨g2, rfl, o2, -⟩ := o2
    obtain ⟨k2, rfl, q2, -⟩ := q2
    clear c3
    go_wp2_with fail
    refine (implAll2 L b _ hL (i2.alloc _) (j2.alloc _)).mono ?_
    rw [HV.out, HV1.out]
    rintro e w5 ⟨rfl, hb5⟩
    have hB5 : Below w.heap.size w w5 := (hB4.alloc hB4.size _).trans (hb5.mono (by have := hB4.size; simp; omega))
    have x5 := hid ((Blk.made w4 _ _).kept hb5 (by simp))
    have p5 := hid ((p4.out.alloc _).kept hb5 (by have := p4.out.lt; simp; omega))
    have cx := x5.out.cells
    have cp := p5.out.cells
    go_wp2_with fail
    have i5 := (i2.alloc _).below hb5
    have j5 := (j2.alloc _).below hb5
    have HI := hid i5
    have HJ := hid j5
    clear i2 j2 i5 j5
    go_region_with (first
      | (go_at_call 7
         refine (toTileSet_any L b _ (hv.below (by first | exact hB5.drew | exact hB5)) (hc.below (by first | exact hB5.drew | exact hB5)) hvn hcn).mono ?_
         rintro e w6 ⟨t3, rfl, ⟨v3, u3, rfl, o3, q3⟩, hb6⟩
         have cx6 := (x5.out.drew.kept hb6 x5.out.lt).cells
         have hB6 := hB5.drew.trans (hb6.mono hB5.size))
      | (go_at_call 9
         refine (eqTileSet_same L b _ (HI.out.drew.below hb6) (HJ.out.drew.below hb6) (o3.ints HWV.out) (q3.ints HWC.out)).mono ?_
         rintro e w7 ⟨rfl, hb7⟩
         have hB7 := hB6.trans (hb7.mono hB6.size)))
    all_goals
      go_wp2
      go_ret
      exact ⟨rfl, hB7⟩

set_option maxRecDepth 100000 in
theorem FnExactAllTiles_lifted (os : Os) (started : os.Started) (H : Type) (enc : TypeId × Value → H) :
    ReturnsInHanded {} Try.checked os 4 .any (Rows.fnExactAllTilesSpec.pre6 enc Try.prog Try.f4 Rows.fnExactAllTilesRow.domain false) (Rows.fnExactAllTilesSpec.post enc Try.prog Try.f4 false true false false) := by
  refine returnsInHanded_of_change (C := Try.checked) prog_own started (by kernel_rfl) Try.func4
    (ChangeSpec.witness6 (enc := enc) (C := Try.checked) false ⟨#[], #[.agg #[.string ByteArray.empty, .slice none 0 0, .slice none 0 0, .int .i64 0]], []⟩ 8 (by kernel_rfl) (by kernel_rfl) (by kernel_rfl) (by kernel_rfl)) ?_
  intro W base args ds gs before hval0 hW hcnd _
  have hval : ∀ (j : Nat) t v, Try.f4.params[j]? = some t → args[j]? = some v → Value.okWide Try.prog W .any base t v := hval0
  have hW' := hW
  obtain ⟨p, q, hA0, hV, rfl, hfz, hnd⟩ := hW
  have hA : DataW.TrodAll enc Try.prog W 0 (fun _ => true) true Try.f4.params.toList args.toList ds p := hA0
  rw [Try.params4] at hA hval
  obtain ⟨v0, vs0, d0, ds0, p0, q0, hargs, rfl, rfl, h0, r0⟩ := trodAll_cons hA
  obtain ⟨rfl, rfl, rfl⟩ := trodAll_nil r0
  obtain rfl : args = #[v0] := by cases args; simp_all
  obtain ⟨rfl, rfl⟩ := trodVars_none hV
  have k0 := h0
  have lt0 : ∀ x ∈ p0, x.block < W.heap.size := by obtain ⟨m, hm⟩ := k0; exact DataW.trod_lt m _ _ _ hm
  obtain ⟨c00, c01, c02, c03, y00, y01, y02, y03, n0, rfl, rfl, rfl, f00, f01, f02, f03⟩ := open_agg4 Try.underlying24 (by kernel_rfl) (by kernel_rfl) (hval 0 24 v0 rfl rfl) h0
  obtain ⟨L0, rfl, _, wL0⟩ := string_cell Try.underlying9 f00
  obtain ⟨zv0, iv0⟩ := ints_cell Try.underlying22 Try.underlying2 (by kernel_rfl) f01
  obtain ⟨zc0, ic0⟩ := ints_cell Try.underlying22 Try.underlying2 (by kernel_rfl) f02
  obtain ⟨b0, rfl, _, wb0⟩ := int_cell Try.underlying2 f03
  clear hA0 hval0
  refine (FnExactAllTiles_walk W L0 _ _ zv0 zc0 b0 wL0 iv0 ic0 wb0).mono fun e W' ⟨he, bel⟩ => ?_
  subst he
  exact ⟨_, rfl, _, _, _, [], _, [], hW', trodAll_mk1 (shut_bool Try.underlying4 _), (trodAll_cons_mk (Below.trod prog_laid (by kernel_rfl) (of_decide_eq_true (by kernel_rfl)) k0 bel lt0) trodAll_mk0), rfl, bel.frame _, fun h => by cases h⟩

theorem FnExactAllTiles_holds : Rows.FnExactAllTilesSaid :=
  OpenClaim.holds_of_wide 4 Try.f4 rfl rfl rfl rfl rfl rfl rfl ⟨rfl, rfl, rfl, rfl, rfl⟩ rfl rfl rfl rfl rfl (by kernel_rfl) Try.func4 (by kernel_rfl)
    (of_decide_eq_true (by kernel_rfl)) (by unfold Func.isWrapper; rw [if_neg (of_decide_eq_false (by kernel_rfl))]; exact ⟨rfl, rfl⟩)
    (fun os started H enc _ => FnExactAllTiles_lifted os started H enc)
#print axioms FnExactAllTiles_holds
end Go.Proofs.Ytaipfampkgpnpaa
