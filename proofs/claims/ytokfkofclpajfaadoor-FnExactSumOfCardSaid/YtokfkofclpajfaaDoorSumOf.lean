/-
  The law of SumOf is true of every automaton: the program answers as the model does, and changes nothing.
-/
import Derived.Test.YtokfkofclpajfaaDoorWM
import Derived.Test.YtokfkofclpajfaaDoorWO
import Derived.Test.YtokfkofclpajfaaDoorK6
import Derived.Test.YtokfkofclpajfaaDoorYL
namespace Go.Proofs.YtokfkofclpajfaaDoor
open Go.ChangeShapes Go.WideShapes Go.ChangeAt Go.RowKit Go.Joins Go.Deep
open Go.ChangeMaps (open_string shut_string)

set_option maxRecDepth 100000 in
set_option maxHeartbeats 4000000 in
theorem FnExactSumOf_walk (W : World) (hTab : TabW W) (us : List Nod) (u : Value) (hu : Nds W u us) (hz : ∀ x ∈ us, x.ls.size ≤ maxLen) :
    Calls Tryd.prog 18 #[.agg #[u]] W fun e w' => e = .returned (.bool true) ∧ Below W.heap.size W w' := by
  have hB0 := (Below.refl W.heap.size W).alloc (Nat.le_refl _) (.cells #[u] 24)
  have HT := Shh.mk hTab
  have HU := Shh.mk hu
  have P0 := Shh.mk (Blk.made W 24 #[u])
  obtain ⟨aa, ac, rfl, -⟩ := hu
  clear hTab
  by_cases hsz : (1048576 : Int) < ((nodsW us : Nat) : Int)
  · have HS := hid (szN_no hsz)
    clear hsz
    go_enter Tryd.func18, Tryd.ntmps18
    go_wp2_with fail
    refine (szDawg_any 1048576 _ (HU.out.below hB0) hz (by omega) (by omega)).mono ?_
    rw [HS.out]
    rintro e w1 ⟨rfl, hb1⟩
    go_wp2
    go_ret
    exact ⟨rfl, hB0.trans (hb1.mono hB0.size)⟩
  · have HS := hid (szN_yes hsz)
    have hn : SmallD us := smallD_of (by omega)
    have hge : ¬ (1048576 : Int) - ((nodsW us : Nat) : Int) < 0 := by omega
    obtain ⟨t0, ht0⟩ : ∃ t, (sumOut us).1 = t := ⟨_, rfl⟩
    have HO0 := Shh.mk ht0
    obtain ⟨t1, ht1⟩ : ∃ t, (sumOut us).2 = t := ⟨_, rfl⟩
    have HO1 := Shh.mk ht1
    have SM := Shh.mk hn
    clear hsz hn ht0 ht1
    go_enter Tryd.func18, Tryd.ntmps18
    go_wp2_with fail
    refine (szDawg_any 1048576 _ (HU.out.below hB0) hz (by omega) (by omega)).mono ?_
    rw [HS.out]
    rintro e w1 ⟨rfl, hb1⟩
    have hB1 := hB0.trans (hb1.mono hB0.size)
    have p1 := P0.out.kept hb1 P0.out.lt
    have c0 := p1.cells
    go_wp2_with fail
    refine (toDawgL_any _ (HU.out.below hB1) SM.out).mono ?_
    rintro e w2 ⟨a2, s2, rfl, hg2, hb2⟩
    have hB2 := hB1.trans (hb2.mono hB1.size)
    have p2 := p1.kept hb2 p1.lt
    clear c0
    go_wp2_with fail
    refine (specSumOf_any _ hg2).mono ?_
    rw [HO0.out, HO1.out]
    rintro e w3 ⟨rfl, hb3⟩
    have hB3 := hB2.trans (hb3.mono hB2.size)
    have p3 := p2.kept hb3 p2.lt
    have c0 := p3.cells
    go_wp2_with fail
    refine (toDawgL_any _ (HU.out.below hB3) SM.out).mono ?_
    rintro e w4 ⟨a4, s4, rfl, hg4, hb4⟩
    have hB4 := Shh.mk (hB3.trans (hb4.mono hB3.size))
    have X4 := Shh.mk (Blk.made w4 29 #[.slice a4 us.length s4])
    have p4 := Shh.mk ((p3.kept hb4 p3.lt).alloc (.cells #[.slice a4 us.length s4] 29))
    have G4 := Shh.mk (hg4.alloc (.cells #[.slice a4 us.length s4] 29))
    have hB5 := Shh.mk (hB4.out.alloc hB4.out.size (.cells #[.slice a4 us.length s4] 29))
    clear c0 hg2 hb1 hb2 hb3 hb4 hB0 hB1 hB2 hB3 p1 p2 p3 hg4
    go_wp2_with fail
    refine (implSumOf_any _ (HT.out.on hB5.out) G4.out).mono ?_
    rw [HO0.out, HO1.out]
    rintro e w6 ⟨rfl, hb6⟩
    have HB6 := Shh.mk (hB5.out.trans (hb6.mono hB5.out.size))
    have X6 := Shh.mk (X4.out.kept hb6 X4.out.lt)
    have U6 := Shh.mk (p4.out.kept hb6 p4.out.lt)
    have GA6 := Shh.mk (HU.out.below HB6.out)
    have XG6 := Shh.mk (G4.out.below hb6)
    clear hb6
    go_wp2
    have HK := Shh.mk (fun w' (hb : Below w6.heap.size w6 w') => twoDaw X6.out U6.out hb)
    go_region_held3 (fun w' => w'.cell? ⟨w4.heap.size, 0, none⟩ = some (.slice a4 us.length s4) ∧ w'.cell? ⟨W.heap.size, 0, none⟩ = some (.slice aa us.length ac))
      (exact HK.out _ (by first | assumption | exact (Below.refl _ _).drew))
      (first
        | (go_at_call 21; with_reducible refine (toD_on w6 _ (by first | assumption | exact (Below.refl _ _).drew) GA6.out SM.out).mono ?_; rintro e w9 ⟨a9, s9, rfl, hg9, hb9, hc9⟩)
        | (go_at_call 23; refine (eqD_on w6 _ (by assumption) (XG6.out.below (by assumption)) hg9).mono ?_; rintro e w10 ⟨rfl, hb10⟩))
    all_goals
      clear HK
      go_wp2
      go_ret
      exact ⟨rfl, HB6.out.trans (hb10.mono HB6.out.size)⟩

theorem FnExactSumOf_tab {W : World} (h : laidMetH Tryd.prog Rows.fnExactSumOfRow.laid W) : TabW W := by
  have h' : laidMet Tryd.prog Rows.fnExactSumOfRow.laid W := h
  first | exact ⟨Lib.tabIs_of_head tabW_g tabW_type Tryd.underlying175 Tryd.underlying167 (by kernel_rfl) (by kernel_rfl) h'⟩ | exact ⟨Lib.tabIs_of_head tabW_g tabW_type Tryd.underlying175 Tryd.underlying167 (by kernel_rfl) (by kernel_rfl) (laidMet.tail h')⟩ | exact ⟨Lib.tabIs_of_head tabW_g tabW_type Tryd.underlying175 Tryd.underlying167 (by kernel_rfl) (by kernel_rfl) (laidMet.tail (laidMet.tail h'))⟩
set_option maxRecDepth 100000 in
theorem FnExactSumOf_contract (H : Type) (enc : TypeId × Value → H) (W : World) (base : Nat) (args : Array Value) (ds gs : List (DataW H)) (before : List MemPlace)
    (hval : ∀ (j : Nat) t v, Tryd.f18.params[j]? = some t → args[j]? = some v → Value.okWide Tryd.prog W .any base t v)
    (hW : DataW.Whole enc Tryd.prog Tryd.f18.params.toList Rows.fnExactSumOfSpec.vars false W args.toList ds gs before) (hL : laidMetH Tryd.prog Rows.fnExactSumOfRow.laid W) :
    Calls Tryd.prog 18 args W fun e W' => ∃ v, e = .returned v ∧ Rows.fnExactSumOfSpec.post enc Tryd.prog Tryd.f18 false true false false W args v W' := by
  have hW' := hW
  obtain ⟨p, q, hA0, hV, rfl, hfz, hnd⟩ := hW
  have hA : DataW.TrodAll enc Tryd.prog W 0 (fun _ => true) true Tryd.f18.params.toList args.toList ds p := hA0
  rw [Tryd.params18] at hA hval
  obtain ⟨v0, vs0, d0, ds0, p0, q0, hargs, rfl, rfl, h0, r0⟩ := trodAll_cons hA
  obtain ⟨rfl, rfl, rfl⟩ := trodAll_nil r0
  obtain rfl : args = #[v0] := by cases args; simp_all
  obtain ⟨rfl, rfl⟩ := trodVars_none hV
  have k0 := h0
  have lt0 : ∀ x ∈ p0, x.block < W.heap.size := by obtain ⟨m, hm⟩ := k0; exact DataW.trod_lt m _ _ _ hm
  obtain ⟨c00, y00, n0, rfl, rfl, rfl, f00⟩ := open_agg1 Tryd.underlying24 (by kernel_rfl) (by kernel_rfl) (hval 0 24 v0 rfl rfl) h0
  obtain ⟨ss0, hs0, zs0⟩ := nods_cell Tryd.underlying22 Tryd.underlying122 (by kernel_rfl) (by kernel_rfl) Tryd.underlying4 Tryd.underlying9 Tryd.underlying53 Tryd.underlying2 (by kernel_rfl) f00
  clear hA0
  refine (FnExactSumOf_walk W (FnExactSumOf_tab hL) ss0 _ hs0 zs0).mono fun e W' ⟨he, bel⟩ => ?_
  subst he
  exact ⟨_, rfl, _, _, _, [], _, _, hW', trodAll_mk1 (shut_bool Tryd.underlying4 _), (trodAll_cons_mk (Below.trod prog_laid (by kernel_rfl) (of_decide_eq_true (by kernel_rfl)) k0 bel lt0) trodAll_mk0), Below.trodVars prog_laid bel (by kernel_rfl) hV, bel.frame _, fun h => by cases h⟩
noncomputable def FnExactSumOf_world (os : Os) : World := World.laidAll Tryd.prog os Rows.fnExactSumOfRow.laid
theorem FnExactSumOf_met (os : Os) : laidMet Tryd.prog Rows.fnExactSumOfRow.laid ((FnExactSumOf_world os).forCall (fun _ _ => 0) ⟨#[], #[(.agg #[.slice none 0 0] : Value)], []⟩).memory :=
  laidMet_laidAll _ (by kernel_rfl) (by kernel_rfl)
theorem FnExactSumOf_reads (os : Os) {H : Type} (enc : TypeId × Value → H) : ∃ places, DataW.whole enc Tryd.prog ((FnExactSumOf_world os).forCall (fun _ _ => 0) ⟨#[], #[(.agg #[.slice none 0 0] : Value)], []⟩).memory Tryd.f18.params.toList Rows.fnExactSumOfSpec.vars false (#[(.agg #[.slice none 0 0] : Value)]).toList 8 = some ([.agg [.nil]], [], places) :=
  ⟨[], by kernel_rfl⟩
set_option maxRecDepth 100000 in
theorem FnExactSumOf_lifted (os : Os) (started : os.Started) (H : Type) (enc : TypeId × Value → H) (F : Stop.Interp) :
    ReturnsInHanded {} Tryd.checked os 18 .any ((OpenSpec.ofChange Rows.fnExactSumOfSpec).preRow enc Tryd.prog Tryd.f18 Rows.fnExactSumOfRow.domain false Rows.fnExactSumOfRow.laid) (((OpenSpec.ofChange Rows.fnExactSumOfSpec).at F).post enc Tryd.prog Tryd.f18 false true false false) := by
  obtain ⟨places, hx⟩ := FnExactSumOf_reads os enc
  refine returnsInHanded_of_row (C := Tryd.checked) (s := OpenSpec.ofChange Rows.fnExactSumOfSpec) prog_own started (by kernel_rfl) Tryd.func18
    (witness_row_at (enc := enc) (C := Tryd.checked) false (FnExactSumOf_world os) #[(.agg #[.slice none 0 0] : Value)] (World.laidAll_os _ _ _) (by kernel_rfl) (by kernel_rfl) (by kernel_rfl)
      (OpenSpec.preRow_of_cond 8 hx (by kernel_rfl) (fun k hk => by cases hk) (by kernel_rfl) (FnExactSumOf_met os))) ?_
  intro W base args ds gs before hval hW _ _ _ hL _ _
  exact FnExactSumOf_contract H enc W base args ds gs before hval hW hL
set_option maxHeartbeats 8000000 in
theorem FnExactSumOf_facts : joinedFacts Tryd.pinned.checked.prog 18 Tryd.f18 (OpenSpec.ofChange Rows.fnExactSumOfSpec).bare Rows.fnExactSumOfRow = true := by
  unfold joinedFacts
  rw [prog_enter, prog_lifts, prog_made]
  kernel_rfl
set_option maxHeartbeats 8000000 in
theorem FnExactSumOf_goes : false = Rows.fnExactSumOfRow.goesBy Tryd.pinned.checked.prog := by kernel_rfl
theorem FnExactSumOf_said : Rows.FnExactSumOfSaid :=
  OpenClaim.holds_of_cond 18 Tryd.f18 rfl rfl rfl rfl rfl rfl rfl ⟨rfl, rfl, rfl, rfl, rfl⟩ rfl rfl rfl rfl rfl (by kernel_rfl) Tryd.func18 FnExactSumOf_facts
    (of_decide_eq_true (by kernel_rfl)) (by unfold Func.isWrapper; rw [if_neg (of_decide_eq_false (by kernel_rfl))]; exact ⟨rfl, rfl⟩)
    (fun os started H enc _ F => by rw [OpenClaim.pre_eq_preRow]; exact FnExactSumOf_lifted os started H enc F)
theorem FnExactSumOf_plain (f : FuncId) (fn : Func) (hf : Tryd.pinned.checked.prog.funcNamed "loop.example/g00911/laws.FnExactSumOf" = some f) (hfn : Tryd.pinned.checked.prog.funcs[f]? = some fn) :
    false = Tryd.pinned.checked.prog.looks [] ∧ ∀ (j : Nat) t, fn.params[j]? = some t → Tryd.pinned.checked.prog.wantsStandIn t = false := by
  obtain rfl : f = 18 := Option.some.inj ((show Tryd.prog.funcNamed "loop.example/g00911/laws.FnExactSumOf" = some 18 by kernel_rfl).symm.trans hf) |>.symm
  obtain rfl : fn = Tryd.f18 := (Option.some.inj (Tryd.func18.symm.trans hfn)).symm
  refine ⟨by kernel_rfl, fun j t ht => ?_⟩
  rw [Tryd.params18] at ht
  obtain rfl : t = 24 := by simpa using Array.mem_of_getElem? ht
  exact (show Tryd.prog.wantsStandIn 24 = false by kernel_rfl)
theorem FnExactSumOf_card : Rows.FnExactSumOfCardSaid :=
  Claim7.holds_tied_plain_at .later [] _ _ _ _ FnExactSumOf_said (fun _ h => by cases h) (by kernel_rfl) (fun _ h => by cases h) fnExactSumOf_row_tie rfl ⟨rfl, rfl⟩ (prog_main.trans (by kernel_rfl)) rfl FnExactSumOf_plain FnExactSumOf_goes
#print axioms FnExactSumOf_card
end Go.Proofs.YtokfkofclpajfaaDoor
