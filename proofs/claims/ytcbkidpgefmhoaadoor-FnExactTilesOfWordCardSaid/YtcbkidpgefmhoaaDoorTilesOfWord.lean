/-
  The law of TilesOfWord is true of every text: the program's tiles are the model's.
-/
import Derived.Test.YtcbkidpgefmhoaaDoorCards
import Derived.Test.YtcbkidpgefmhoaaDoorTie
import Derived.Test.YtcbkidpgefmhoaaDoorA
import Derived.Test.YtcbkidpgefmhoaaDoorD6
import Derived.WalkKit
import Derived.ProofKit
import Derived.OpenShut
import Derived.ShutString
import Derived.ChangeOld
import Derived.Below
import Derived.Stop.LaidErr
import Derived.OpenVars
import Derived.ChangeVars
import Derived.Lay
import Derived.Deep.DeepHandedRow
import Derived.Lib.LaidTab
import Derived.Lib.LaidU8
namespace Go.Proofs.YtcbkidpgefmhoaaDoor
open Go.ChangeShapes Go.WideShapes Go.ChangeAt Go.RowKit
open Go.ChangeMaps (open_string shut_string)

theorem tw_own : ownKnob Tryd.prog.godebug = none := by kernel_rfl
theorem tw_laid : laidOutB Tryd.prog = true := by kernel_rfl
theorem same_txtN (s : ByteArray) : (s.toList != s.toList) = false := by simp

set_option maxHeartbeats 1000000 in
theorem FnExactTilesOfWord_walk (w : World) (hT : Tabs w) (s : ByteArray) :
    Calls Tryd.prog 3 #[.string s] w fun e w' => e = .returned (.bool true) ∧ Below w.heap.size w w' := by
  have HT := Shh.mk hT
  clear hT
  by_cases hs : s.size ≤ 1048576
  · have hl : ¬ (1048576 : Int) < (s.size : Int) := by omega
    obtain ⟨X, hX⟩ : ∃ X, tilesOut s.data.toList = X := ⟨_, rfl⟩
    have HX := Shh.mk hX
    have hss := same_txtN (txt X)
    clear hX
    go_enter Tryd.func3, Tryd.ntmps3
    go_wp2_with fail
    refine (specTilesOfWord_any s w hs).mono ?_
    rw [HX.out]
    rintro e w1 ⟨rfl, hb1⟩
    go_wp2_with fail
    refine (implTilesOfWord_any s w1 hs (HT.out.on hb1)).mono ?_
    rw [HX.out]
    rintro e w2 ⟨rfl, hb2⟩
    go_wp2
    go_ret
    exact ⟨rfl, hb1.trans (hb2.mono hb1.size)⟩
  · have hl : (1048576 : Int) < (s.size : Int) := by omega
    clear hs
    go_enter Tryd.func3, Tryd.ntmps3
    go_wp2
    go_ret
    exact ⟨rfl, Below.refl _ _⟩

/-! ### What the row lists -/
theorem tw_first : Rows.laid_unicode_utf8_first = Lib.firstData := by kernel_rfl
theorem tw_accept : (Rows.laid_unicode_utf8_acceptRanges : DataW Unit) = Lib.acceptData := by kernel_rfl
theorem tw_tabs {W : World} (h : laidMetH Tryd.prog Rows.fnExactTilesOfWordRow.laid W) : Tabs W := by
  have h' : laidMet Tryd.prog Rows.fnExactTilesOfWordRow.laid W := h
  have r4 := Lib.laidMet.reads h' (.head _)
  have r3 := Lib.laidMet.reads h' (.tail _ (.head _))
  rw [tw_first] at r3
  rw [tw_accept] at r4
  exact utf8Tabs_of_reads (ρ := Tryd.lays260_ren) Tryd.lays260 ⟨by kernel_rfl, by kernel_rfl, by kernel_rfl, by kernel_rfl, by kernel_rfl, by kernel_rfl, by kernel_rfl⟩ r3 r4

set_option maxRecDepth 100000 in
theorem tilesOfWord_contract (H : Type) (enc : TypeId × Value → H) (W : World) (base : Nat) (args : Array Value) (ds gs : List (DataW H)) (before : List MemPlace)
    (hval : ∀ (j : Nat) t v, Tryd.f3.params[j]? = some t → args[j]? = some v → Value.okWide Tryd.prog W .any base t v)
    (hW : DataW.Whole enc Tryd.prog Tryd.f3.params.toList Rows.fnExactTilesOfWordSpec.vars false W args.toList ds gs before) (hL : laidMetH Tryd.prog Rows.fnExactTilesOfWordRow.laid W) :
    Calls Tryd.prog 3 args W fun e W' => ∃ v, e = .returned v ∧ Rows.fnExactTilesOfWordSpec.post enc Tryd.prog Tryd.f3 false true false false W args v W' := by
  have hW' := hW
  obtain ⟨p, q, hA0, hV, rfl, hfz, hnd⟩ := hW
  have hA : DataW.TrodAll enc Tryd.prog W 0 (fun _ => true) true Tryd.f3.params.toList args.toList ds p := hA0
  rw [Tryd.params3] at hA hval
  obtain ⟨v0, vs0, d0, ds0, p0, q0, hargs, rfl, rfl, h0, r0⟩ := trodAll_cons hA
  obtain ⟨rfl, rfl, rfl⟩ := trodAll_nil r0
  obtain rfl : args = #[v0] := by cases args; simp_all
  obtain ⟨rfl, rfl⟩ := trodVars_none hV
  have k0 := h0
  have lt0 : ∀ x ∈ p0, x.block < W.heap.size := by obtain ⟨m, hm⟩ := k0; exact DataW.trod_lt m _ _ _ hm
  obtain ⟨c, rfl, rfl, rfl, wc⟩ := open_string Tryd.underlying9 (hval 0 9 v0 rfl rfl) h0
  clear hA0
  refine (FnExactTilesOfWord_walk W (tw_tabs hL) c).mono fun e W' ⟨he, bel⟩ => ?_
  subst he
  exact ⟨_, rfl, _, _, _, [], _, _, hW', trodAll_mk1 (shut_bool Tryd.underlying4 _), (trodAll_cons_mk (Below.trod tw_laid (by kernel_rfl) (of_decide_eq_true (by kernel_rfl)) k0 bel lt0) trodAll_mk0), Below.trodVars tw_laid bel (by kernel_rfl) hV, bel.frame _, fun h => by cases h⟩

/-- A start that fits. -/
noncomputable def twWorld (os : Os) : World := World.laidAll Tryd.prog os Rows.fnExactTilesOfWordRow.laid
theorem tw_met (os : Os) : laidMet Tryd.prog Rows.fnExactTilesOfWordRow.laid ((twWorld os).forCall (fun _ _ => 0) ⟨#[], #[.string ByteArray.empty], []⟩).memory :=
  laidMet_laidAll _ (by kernel_rfl) (by kernel_rfl)
theorem tw_reads (os : Os) {H : Type} (enc : TypeId × Value → H) : ∃ places, DataW.whole enc Tryd.prog ((twWorld os).forCall (fun _ _ => 0) ⟨#[], #[.string ByteArray.empty], []⟩).memory Tryd.f3.params.toList Rows.fnExactTilesOfWordSpec.vars false #[Value.string ByteArray.empty].toList 8 = some ([.lit (.string [])], [], places) :=
  ⟨[], by kernel_rfl⟩

set_option maxRecDepth 100000 in
theorem tilesOfWord_lifted (os : Os) (started : os.Started) (H : Type) (enc : TypeId × Value → H) (F : Stop.Interp) :
    ReturnsInHanded {} Tryd.checked os 3 .any ((OpenSpec.ofChange Rows.fnExactTilesOfWordSpec).preRow enc Tryd.prog Tryd.f3 Rows.fnExactTilesOfWordRow.domain false Rows.fnExactTilesOfWordRow.laid) (((OpenSpec.ofChange Rows.fnExactTilesOfWordSpec).at F).post enc Tryd.prog Tryd.f3 false true false false) := by
  obtain ⟨places, hx⟩ := tw_reads os enc
  refine returnsInHanded_of_row (C := Tryd.checked) (s := OpenSpec.ofChange Rows.fnExactTilesOfWordSpec) tw_own started (by kernel_rfl) Tryd.func3
    (witness_row_at (enc := enc) (C := Tryd.checked) false (twWorld os) #[.string ByteArray.empty] (World.laidAll_os _ _ _) (by kernel_rfl) (by kernel_rfl) (by kernel_rfl)
      (OpenSpec.preRow_of_cond 8 hx (by kernel_rfl) (fun k hk => by cases hk) (by kernel_rfl) (tw_met os))) ?_
  intro W base args ds gs before hval hW _ _ _ hL _ _
  exact tilesOfWord_contract H enc W base args ds gs before hval hW hL

theorem tilesOfWord_said : Rows.FnExactTilesOfWordSaid :=
  OpenClaim.holds_of_cond 3 Tryd.f3 rfl rfl rfl rfl rfl rfl rfl ⟨rfl, rfl, rfl, rfl, rfl⟩ rfl rfl rfl rfl rfl (by kernel_rfl) Tryd.func3 (by kernel_rfl)
    (of_decide_eq_true (by kernel_rfl)) (by unfold Func.isWrapper; rw [if_neg (of_decide_eq_false (by kernel_rfl))]; exact ⟨rfl, rfl⟩)
    (fun os started H enc _ F => by rw [OpenClaim.pre_eq_preRow]; exact tilesOfWord_lifted os started H enc F)

theorem tilesOfWord_plain (f : FuncId) (fn : Func) (hf : Tryd.pinned.checked.prog.funcNamed "loop.example/g00911/laws.FnExactTilesOfWord" = some f) (hfn : Tryd.pinned.checked.prog.funcs[f]? = some fn) :
    false = Tryd.pinned.checked.prog.looks [] ∧ ∀ (j : Nat) t, fn.params[j]? = some t → Tryd.pinned.checked.prog.wantsStandIn t = false := by
  obtain rfl : f = 3 := Option.some.inj ((show Tryd.prog.funcNamed "loop.example/g00911/laws.FnExactTilesOfWord" = some 3 by kernel_rfl).symm.trans hf) |>.symm
  obtain rfl : fn = Tryd.f3 := (Option.some.inj (Tryd.func3.symm.trans hfn)).symm
  refine ⟨by kernel_rfl, fun j t ht => ?_⟩
  rw [Tryd.params3] at ht
  obtain rfl : t = 9 := by simpa using Array.mem_of_getElem? ht
  exact (show Tryd.prog.wantsStandIn 9 = false by kernel_rfl)

theorem FnExactTilesOfWord_card : Rows.FnExactTilesOfWordCardSaid :=
  Claim7.holds_tied_plain_at .later [] _ _ _ _ tilesOfWord_said (fun _ h => by cases h) (by kernel_rfl) (fun _ h => by cases h) fnExactTilesOfWord_row_tie rfl ⟨rfl, rfl⟩ (by kernel_rfl) rfl tilesOfWord_plain (by kernel_rfl)
#print axioms FnExactTilesOfWord_card

end Go.Proofs.YtcbkidpgefmhoaaDoor
