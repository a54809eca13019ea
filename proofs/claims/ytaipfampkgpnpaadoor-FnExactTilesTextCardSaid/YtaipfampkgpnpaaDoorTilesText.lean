/-
  The law of TilesText is true of every tile set, valid or not: the program's text of it is the model's.
-/
import Derived.Test.YtaipfampkgpnpaaDoorCards
import Derived.Test.YtaipfampkgpnpaaDoorTie
import Derived.Test.YtaipfampkgpnpaaDoorY2
import Derived.Deep.RegionWith
import Derived.WalkKit
import Derived.ProofKit
import Derived.OpenShut
import Derived.ShutString
import Derived.ChangeOld
import Derived.Below
import Derived.Stop.LaidErr
import Derived.OpenVars
import Derived.ChangeVars
import Derived.Lay
import Derived.Deep.DeepHandedRow
import Derived.Lib.LaidTab
namespace Go.Proofs.YtaipfampkgpnpaaDoor
open Go.ChangeShapes Go.WideShapes Go.ChangeAt Go.RowKit Go.Joins
open Go.ChangeMaps (open_string shut_string)

set_option maxHeartbeats 2000000 in
theorem FnExactTilesText_walk (w : World) (L : ByteArray) (vv vc : Value) (zv zc : List Int) (b : Int) (hL : L.size ≤ maxLen) (hv : Ints .i64 w vv zv) (hc : Ints .i64 w vc zc) (_hb : (Lit.int .i64 b).wf = true) (HT : TabY w) :
    Calls Tryd.prog 4 #[.agg #[.string L, vv, vc, .int .i64 b]] w fun e w' => e = .returned (.bool true) ∧ Below w.heap.size w w' := by
  have hvl := hv.len
  have hcl := hc.len
  by_cases hsz : (1048576 : Int) < ((L.size + zv.length + zc.length : Nat) : Int)
  · have HS := hid (szN_no hsz)
    go_enter Tryd.func4, Tryd.ntmps4
    go_wp2_with fail
    refine (szTileSet_any L b 1048576 _ hL (hv.alloc _) (hc.alloc _) (by omega) (by omega)).mono ?_
    rw [HS.out]
    rintro e w1 ⟨rfl, hb1⟩
    go_wp2
    go_ret
    exact ⟨rfl, ((Below.refl _ _).alloc (Nat.le_refl _) _).trans (hb1.mono (by simp))⟩
  · have HS := hid (szN_yes hsz)
    have hge : ¬ (1048576 : Int) - ((L.size + zv.length + zc.length : Nat) : Int) < 0 := by omega
    have hvn : zv.length ≤ 1048576 := by omega
    have hcn : zc.length ≤ 1048576 := by omega
    have hwv : ∀ n ∈ zv, (Lit.int .i64 n).wf = true := by obtain ⟨_, _, _, _, _, _, h⟩ := hv; exact h
    have hwc : ∀ n ∈ zc, (Lit.int .i64 n).wf = true := by obtain ⟨_, _, _, _, _, _, h⟩ := hc; exact h
    obtain ⟨V, hV⟩ : ∃ V, textOut L zv zc b = V := ⟨_, rfl⟩
    have HV := hid hV
    have sV := same_str ⟨V.toArray⟩
    clear hV
    obtain ⟨R, hR⟩ : ∃ R : Int, (1048576 : Int) - ((L.size + zv.length + zc.length : Nat) : Int) = R := ⟨_, rfl⟩
    rw [hR] at hge
    have HR := hid (HS.out.trans hR)
    have HWV := hid hwv
    have HWC := hid hwc
    clear hR HS hwv hwc
    go_enter Tryd.func4, Tryd.ntmps4
    go_wp2_with fail
    refine (szTileSet_any L b 1048576 _ hL (hv.alloc _) (hc.alloc _) (by omega) (by omega)).mono ?_
    rw [HR.out]
    rintro e w1 ⟨rfl, hb1⟩
    have p1 := hid ((Blk.made w _ _).kept hb1 (by simp))
    have c1 := p1.out.cells
    have hB1 := ((Below.refl w.heap.size w).alloc (Nat.le_refl _) _).trans (hb1.mono (by simp))
    go_wp2_with fail
    refine (toTileSet_any L b _ (hv.below hB1) (hc.below hB1) hvn hcn).mono ?_
    rintro e w2 ⟨t1, rfl, ⟨v1, u1, rfl, o1, q1⟩, hb2⟩
    have hB2 := hB1.trans (hb2.mono hB1.size)
    clear c1
    go_wp2_with fail
    refine (specTilesText_any L b _ hL (o1.ints HWV.out) (q1.ints HWC.out)).mono ?_
    rw [HV.out]
    rintro e w3 ⟨rfl, hb3⟩
    have hB3 := hB2.trans (hb3.mono hB2.size)
    have p3 := hid ((p1.out.kept hb2 p1.out.lt).kept hb3 (Nat.lt_of_lt_of_le p1.out.lt hb2.size))
    have c3 := p3.out.cells
    go_wp2_with fail
    refine (toTileSet_any L b _ (hv.below hB3) (hc.below hB3) hvn hcn).mono ?_
    rintro e w4 ⟨t2, rfl, ⟨v2, u2, rfl, o2, q2⟩, hb4⟩
    have hB4 := hB3.trans (hb4.mono hB3.size)
    have p4 := hid (p3.out.kept hb4 p3.out.lt)
    have i2 := o2.ints HWV.out
    have j2 := q2.ints HWC.out
    obtain ⟨g2, rfl, o2, -⟩ := o2
    obtain ⟨k2, rfl, q2, -⟩ := q2
    clear c3
    go_wp2_with fail
    refine (implTilesText_any L b _ hL (i2.alloc _) (j2.alloc _) (TabY.on HT (hB4.alloc hB4.size _))).mono ?_
    rw [HV.out]
    rintro e w5 ⟨rfl, hb5⟩
    have hB5 : Below w.heap.size w w5 := (hB4.alloc hB4.size _).trans (hb5.mono (by have := hB4.size; simp; omega))
    have x5 := hid ((Blk.made w4 _ _).kept hb5 (by simp))
    have p5 := hid ((p4.out.alloc _).kept hb5 (by have := p4.out.lt; simp; omega))
    have cx := x5.out.cells
    have cp := p5.out.cells
    go_wp2_with fail
    have i5 := (i2.alloc _).below hb5
    have j5 := (j2.alloc _).below hb5
    have HI := hid i5
    have HJ := hid j5
    clear i2 j2 i5 j5
    go_region_with (first
      | (go_at_call 13
         refine (toTileSet_any L b _ (hv.below (by first | exact hB5.drew | exact hB5)) (hc.below (by first | exact hB5.drew | exact hB5)) hvn hcn).mono ?_
         rintro e w6 ⟨t3, rfl, ⟨v3, u3, rfl, o3, q3⟩, hb6⟩
         have cx6 := (x5.out.drew.kept hb6 x5.out.lt).cells
         have hB6 := hB5.drew.trans (hb6.mono hB5.size))
      | (go_at_call 8
         refine (eqTileSet_same L b _ (HI.out.drew.below hb6) (HJ.out.drew.below hb6) (o3.ints HWV.out) (q3.ints HWC.out)).mono ?_
         rintro e w7 ⟨rfl, hb7⟩
         have hB7 := hB6.trans (hb7.mono hB6.size)))
    all_goals
      go_wp2
      go_ret
      exact ⟨rfl, hB7⟩


/-! ### What the row lists -/
theorem tt_own : ownKnob Tryd.prog.godebug = none := by kernel_rfl
theorem tt_laid : laidOutB Tryd.prog = true := by kernel_rfl
theorem tt_g : Tryd.prog.globalNamed "internal/strconv.uint64pow10" = some 0 := by kernel_rfl
theorem tt_type : (Tryd.prog.globals[0]?).map (·.type) = some 92 := by kernel_rfl
theorem tt_data {H : Type} : (Rows.laid_internal_strconv_uint64pow10 : DataW H) = Lib.tabData .u64 Lib.pow10Tab := rfl
theorem tt_tab {W : World} (h : laidMetH Tryd.prog Rows.fnExactTilesTextRow.laid W) : TabY W := by
  have h' : laidMet Tryd.prog Rows.fnExactTilesTextRow.laid W := h
  have h2 := h'.tail.tail
  rw [tt_data] at h2
  exact ⟨Lib.tabIs_of_head tt_g tt_type Tryd.underlying92 Tryd.underlying77 (by kernel_rfl) (by kernel_rfl) h2⟩

set_option maxRecDepth 100000 in
theorem tilesText_contract (H : Type) (enc : TypeId × Value → H) (W : World) (base : Nat) (args : Array Value) (ds gs : List (DataW H)) (before : List MemPlace)
    (hval : ∀ (j : Nat) t v, Tryd.f4.params[j]? = some t → args[j]? = some v → Value.okWide Tryd.prog W .any base t v)
    (hW : DataW.Whole enc Tryd.prog Tryd.f4.params.toList Rows.fnExactTilesTextSpec.vars false W args.toList ds gs before) (hL : laidMetH Tryd.prog Rows.fnExactTilesTextRow.laid W) :
    Calls Tryd.prog 4 args W fun e W' => ∃ v, e = .returned v ∧ Rows.fnExactTilesTextSpec.post enc Tryd.prog Tryd.f4 false true false false W args v W' := by
  have hW' := hW
  obtain ⟨p, q, hA0, hV, rfl, hfz, hnd⟩ := hW
  have hA : DataW.TrodAll enc Tryd.prog W 0 (fun _ => true) true Tryd.f4.params.toList args.toList ds p := hA0
  rw [Tryd.params4] at hA hval
  obtain ⟨v0, vs0, d0, ds0, p0, q0, hargs, rfl, rfl, h0, r0⟩ := trodAll_cons hA
  obtain ⟨rfl, rfl, rfl⟩ := trodAll_nil r0
  obtain rfl : args = #[v0] := by cases args; simp_all
  obtain ⟨rfl, rfl⟩ := trodVars_none hV
  have k0 := h0
  have lt0 : ∀ x ∈ p0, x.block < W.heap.size := by obtain ⟨m, hm⟩ := k0; exact DataW.trod_lt m _ _ _ hm
  obtain ⟨c00, c01, c02, c03, y00, y01, y02, y03, n0, rfl, rfl, rfl, f00, f01, f02, f03⟩ := open_agg4 Tryd.underlying30 (by kernel_rfl) (by kernel_rfl) (hval 0 30 v0 rfl rfl) h0
  obtain ⟨L0, rfl, _, wL0⟩ := string_cell Tryd.underlying9 f00
  obtain ⟨zv0, iv0⟩ := ints_cell Tryd.underlying22 Tryd.underlying2 (by kernel_rfl) f01
  obtain ⟨zc0, ic0⟩ := ints_cell Tryd.underlying22 Tryd.underlying2 (by kernel_rfl) f02
  obtain ⟨b0, rfl, _, wb0⟩ := int_cell Tryd.underlying2 f03
  clear hA0
  refine (FnExactTilesText_walk W L0 _ _ zv0 zc0 b0 wL0 iv0 ic0 wb0 (tt_tab hL)).mono fun e W' ⟨he, bel⟩ => ?_
  subst he
  exact ⟨_, rfl, _, _, _, [], _, _, hW', trodAll_mk1 (shut_bool Tryd.underlying4 _), (trodAll_cons_mk (Below.trod tt_laid (by kernel_rfl) (of_decide_eq_true (by kernel_rfl)) k0 bel lt0) trodAll_mk0), Below.trodVars tt_laid bel (by kernel_rfl) hV, bel.frame _, fun h => by cases h⟩

/-- A start that fits. -/
def ttArg : Value := .agg #[.string ByteArray.empty, .slice none 0 0, .slice none 0 0, .int .i64 0]
noncomputable def ttWorld (os : Os) : World := World.laidAll Tryd.prog os Rows.fnExactTilesTextRow.laid
theorem tt_met (os : Os) : laidMet Tryd.prog Rows.fnExactTilesTextRow.laid ((ttWorld os).forCall (fun _ _ => 0) ⟨#[], #[ttArg], []⟩).memory :=
  laidMet_laidAll _ (by kernel_rfl) (by kernel_rfl)
theorem tt_reads (os : Os) {H : Type} (enc : TypeId × Value → H) : ∃ places, DataW.whole enc Tryd.prog ((ttWorld os).forCall (fun _ _ => 0) ⟨#[], #[ttArg], []⟩).memory Tryd.f4.params.toList Rows.fnExactTilesTextSpec.vars false #[ttArg].toList 8 = some ([.agg [.lit (.string []), .nil, .nil, .lit (.int .i64 0)]], [], places) :=
  ⟨[], by kernel_rfl⟩

set_option maxRecDepth 100000 in
theorem tilesText_lifted (os : Os) (started : os.Started) (H : Type) (enc : TypeId × Value → H) (F : Stop.Interp) :
    ReturnsInHanded {} Tryd.checked os 4 .any ((OpenSpec.ofChange Rows.fnExactTilesTextSpec).preRow enc Tryd.prog Tryd.f4 Rows.fnExactTilesTextRow.domain false Rows.fnExactTilesTextRow.laid) (((OpenSpec.ofChange Rows.fnExactTilesTextSpec).at F).post enc Tryd.prog Tryd.f4 false true false false) := by
  obtain ⟨places, hx⟩ := tt_reads os enc
  refine returnsInHanded_of_row (C := Tryd.checked) (s := OpenSpec.ofChange Rows.fnExactTilesTextSpec) tt_own started (by kernel_rfl) Tryd.func4
    (witness_row_at (enc := enc) (C := Tryd.checked) false (ttWorld os) #[ttArg] (World.laidAll_os _ _ _) (by kernel_rfl) (by kernel_rfl) (by kernel_rfl)
      (OpenSpec.preRow_of_cond 8 hx (by kernel_rfl) (fun k hk => by cases hk) (by kernel_rfl) (tt_met os))) ?_
  intro W base args ds gs before hval hW _ _ _ hL _ _
  exact tilesText_contract H enc W base args ds gs before hval hW hL

theorem tilesText_said : Rows.FnExactTilesTextSaid :=
  OpenClaim.holds_of_cond 4 Tryd.f4 rfl rfl rfl rfl rfl rfl rfl ⟨rfl, rfl, rfl, rfl, rfl⟩ rfl rfl rfl rfl rfl (by kernel_rfl) Tryd.func4 (by kernel_rfl)
    (of_decide_eq_true (by kernel_rfl)) (by unfold Func.isWrapper; rw [if_neg (of_decide_eq_false (by kernel_rfl))]; exact ⟨rfl, rfl⟩)
    (fun os started H enc _ F => by rw [OpenClaim.pre_eq_preRow]; exact tilesText_lifted os started H enc F)

theorem tilesText_plain (f : FuncId) (fn : Func) (hf : Tryd.pinned.checked.prog.funcNamed "loop.example/g00911/laws.FnExactTilesText" = some f) (hfn : Tryd.pinned.checked.prog.funcs[f]? = some fn) :
    true = Tryd.pinned.checked.prog.looks [] ∧ ∀ (j : Nat) t, fn.params[j]? = some t → Tryd.pinned.checked.prog.wantsStandIn t = false := by
  obtain rfl : f = 4 := Option.some.inj ((show Tryd.prog.funcNamed "loop.example/g00911/laws.FnExactTilesText" = some 4 by kernel_rfl).symm.trans hf) |>.symm
  obtain rfl : fn = Tryd.f4 := (Option.some.inj (Tryd.func4.symm.trans hfn)).symm
  refine ⟨by kernel_rfl, fun j t ht => ?_⟩
  rw [Tryd.params4] at ht
  obtain rfl : t = 30 := by simpa using Array.mem_of_getElem? ht
  exact (show Tryd.prog.wantsStandIn 30 = false by kernel_rfl)

theorem FnExactTilesText_card : Rows.FnExactTilesTextCardSaid :=
  Claim7.holds_tied_plain_at .later [] _ _ _ _ tilesText_said (fun _ h => by cases h) (by kernel_rfl) (fun _ h => by cases h) fnExactTilesText_row_tie rfl ⟨rfl, rfl⟩ (by kernel_rfl) rfl tilesText_plain (by kernel_rfl)
#print axioms FnExactTilesText_card

end Go.Proofs.YtaipfampkgpnpaaDoor
