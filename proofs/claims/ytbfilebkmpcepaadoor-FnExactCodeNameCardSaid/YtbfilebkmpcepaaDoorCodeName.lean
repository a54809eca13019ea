/-
  The law of CodeName is true of every number: the program's table of names and the model's list name each code alike.
-/
import Derived.Test.YtbfilebkmpcepaaDoorCards
import Derived.Test.YtbfilebkmpcepaaDoorTie
import Derived.Test.YtbfilebkmpcepaaDoorA
import Derived.WalkKit
import Derived.ProofKit
import Derived.OpenShut
import Derived.ShutString
import Derived.ChangeOld
import Derived.Below
import Derived.OpenVars
import Derived.ChangeVars
import Derived.Deep.DeepHandedRow
import Derived.Lib.LaidTab
namespace Go.Proofs.YtbfilebkmpcepaaDoor
open Go.ChangeShapes Go.WideShapes Go.ChangeAt Go.RowKit

theorem ret_bool {a b : Bool} (h : a = b) : Ending.returned (.bool a) = .returned (.bool b) := by rw [h]
theorem cn_own : ownKnob Tryd.prog.godebug = none := by kernel_rfl
theorem cn_laid : laidOutB Tryd.prog = true := by kernel_rfl
set_option maxHeartbeats 400000 in
theorem l00In_any (n l h : Int) (w : World) : Calls Tryd.prog 26 #[.int .i64 n, .int .i64 l, .int .i64 h] w fun e w' => e = .returned (.bool (inB n l h)) ∧ w = w' := by
  by_cases h1 : l ≤ n
  · by_cases h2 : n ≤ h
    · rw [inB_yes h1 h2]
      go_enter Tryd.func26, Tryd.ntmps26
      go_wp2
      go_ret
      exact ⟨rfl, rfl⟩
    · rw [inB_no (fun hn => h2 hn.2)]
      go_enter Tryd.func26, Tryd.ntmps26
      go_wp2
      go_ret
      exact ⟨rfl, rfl⟩
  · rw [inB_no (fun hn => h1 hn.1)]
    go_enter Tryd.func26, Tryd.ntmps26
    go_wp2
    go_ret
    exact ⟨rfl, rfl⟩

/-- The names of the codes. -/
def cnList : List (List UInt8) := [[111, 107], [105, 110, 118, 97, 108, 105, 100], [114, 97, 110, 103, 101], [110, 111, 116, 45, 102, 111, 117, 110, 100], [101, 120, 105, 115, 116, 115], [102, 117, 108, 108], [115, 116, 97, 116, 101], [115, 121, 110, 116, 97, 120], [102, 111, 114, 109, 97, 116], [105, 108, 108, 101, 103, 97, 108], [111, 118, 101, 114]]
def cnAt (k : Nat) : ByteArray := ⟨(cnList.getD k []).toArray⟩
theorem cn_arr (k : Nat) (hk : k < 11) : (#[.string ⟨#[111, 107]⟩, .string ⟨#[105, 110, 118, 97, 108, 105, 100]⟩, .string ⟨#[114, 97, 110, 103, 101]⟩, .string ⟨#[110, 111, 116, 45, 102, 111, 117, 110, 100]⟩, .string ⟨#[101, 120, 105, 115, 116, 115]⟩, .string ⟨#[102, 117, 108, 108]⟩, .string ⟨#[115, 116, 97, 116, 101]⟩, .string ⟨#[115, 121, 110, 116, 97, 120]⟩, .string ⟨#[102, 111, 114, 109, 97, 116]⟩, .string ⟨#[105, 108, 108, 101, 103, 97, 108]⟩, .string ⟨#[111, 118, 101, 114]⟩] : Array Value)[k]? = some (.string (cnAt k)) := by
  match k, hk with
  | 0, _ => rfl
  | 1, _ => rfl
  | 2, _ => rfl
  | 3, _ => rfl
  | 4, _ => rfl
  | 5, _ => rfl
  | 6, _ => rfl
  | 7, _ => rfl
  | 8, _ => rfl
  | 9, _ => rfl
  | 10, _ => rfl
  | n + 11, h => omega

set_option maxHeartbeats 1000000 in
theorem specCodeName_at (k : Nat) (hk : k < 11) (w : World) : Calls Tryd.prog 9 #[.int .i64 k] w fun e w' => e = .returned (.string (cnAt k)) ∧ Below w.heap.size w w' := by
  have hb : (w.alloc (.cells #[.string ⟨#[111, 107]⟩, .string ⟨#[105, 110, 118, 97, 108, 105, 100]⟩, .string ⟨#[114, 97, 110, 103, 101]⟩, .string ⟨#[110, 111, 116, 45, 102, 111, 117, 110, 100]⟩, .string ⟨#[101, 120, 105, 115, 116, 115]⟩, .string ⟨#[102, 117, 108, 108]⟩, .string ⟨#[115, 116, 97, 116, 101]⟩, .string ⟨#[115, 121, 110, 116, 97, 120]⟩, .string ⟨#[102, 111, 114, 109, 97, 116]⟩, .string ⟨#[105, 108, 108, 101, 103, 97, 108]⟩, .string ⟨#[111, 118, 101, 114]⟩] 9)).heap[w.heap.size]? = some (.cells #[.string ⟨#[111, 107]⟩, .string ⟨#[105, 110, 118, 97, 108, 105, 100]⟩, .string ⟨#[114, 97, 110, 103, 101]⟩, .string ⟨#[110, 111, 116, 45, 102, 111, 117, 110, 100]⟩, .string ⟨#[101, 120, 105, 115, 116, 115]⟩, .string ⟨#[102, 117, 108, 108]⟩, .string ⟨#[115, 116, 97, 116, 101]⟩, .string ⟨#[115, 121, 110, 116, 97, 120]⟩, .string ⟨#[102, 111, 114, 109, 97, 116]⟩, .string ⟨#[105, 108, 108, 101, 103, 97, 108]⟩, .string ⟨#[111, 118, 101, 114]⟩] 9 (0, 0)) := heap_alloc_new w _
  have hcell := (cell_of_row _ w.heap.size k _ 9 (0, 0) hb).trans (cn_arr k hk)
  have HI := hid (inB_yes (n := (k : Int)) (l := 0) (h := 10) (by omega) (by omega))
  obtain ⟨m, hm⟩ : ∃ m, cnAt k = m := ⟨_, rfl⟩
  rw [hm] at hcell ⊢
  clear hb hm
  go_enter Tryd.func9, Tryd.ntmps9
  go_wp2_with (go_at_call 26; refine (l00In_any _ _ _ _).mono ?_; rw [HI.out]; rintro e w' ⟨rfl, rfl⟩)
  go_ret
  exact ⟨rfl, (Below.refl _ _).alloc (Nat.le_refl _) _⟩
set_option maxHeartbeats 1000000 in
theorem specCodeName_no (c : Int) (hc : c < 0 ∨ 11 ≤ c) (w : World) : Calls Tryd.prog 9 #[.int .i64 c] w fun e w' => e = .returned (.string ⟨#[]⟩) ∧ Below w.heap.size w w' := by
  have HI := hid (inB_no (n := c) (l := 0) (h := 10) (by omega))
  go_enter Tryd.func9, Tryd.ntmps9
  go_wp2_with (go_at_call 26; refine (l00In_any _ _ _ _).mono ?_; rw [HI.out]; rintro e w' ⟨rfl, rfl⟩)
  go_ret
  exact ⟨rfl, (Below.refl _ _).alloc (Nat.le_refl _) _⟩

set_option maxHeartbeats 1000000 in
theorem implCodeName_at (k : Nat) (hk : k < 11) (w : World) (hT : w.cell? ⟨0, k, none⟩ = some (.string (cnAt k))) : Calls Tryd.prog 10 #[.int .i64 k] w fun e w' => e = .returned (.string (cnAt k)) ∧ w = w' := by
  obtain ⟨m, hm⟩ : ∃ m, cnAt k = m := ⟨_, rfl⟩
  rw [hm] at hT ⊢
  clear hm
  go_enter Tryd.func10, Tryd.ntmps10
  go_wp2
  go_ret
  exact ⟨rfl, rfl⟩
set_option maxHeartbeats 1000000 in
theorem implCodeName_no (c : Int) (hc : c < 0 ∨ 11 ≤ c) (w : World) : Calls Tryd.prog 10 #[.int .i64 c] w fun e w' => e = .returned (.string ⟨#[]⟩) ∧ w = w' := by
  rcases hc with hc | hc
  · go_enter Tryd.func10, Tryd.ntmps10
    go_wp2
    go_ret
    exact ⟨rfl, rfl⟩
  · go_enter Tryd.func10, Tryd.ntmps10
    go_wp2
    go_ret
    exact ⟨rfl, rfl⟩

set_option maxHeartbeats 1000000 in
theorem FnExactCodeName_walk (w : World) (hw : 0 < w.heap.size) (hT : ∀ k, k < 11 → w.cell? ⟨0, k, none⟩ = some (.string (cnAt k))) (c : Int) :
    Calls Tryd.prog 3 #[.int .i64 c] w fun e w' => e = .returned (.bool true) ∧ Below w.heap.size w w' := by
  by_cases hc : 0 ≤ c ∧ c < 11
  · obtain ⟨k, rfl⟩ := Int.eq_ofNat_of_zero_le hc.1
    have hk : k < 11 := by omega
    have hss : ((cnAt k).toList != (cnAt k).toList) = false := by simp
    have HT := hid hT
    clear hT
    go_enter Tryd.func3, Tryd.ntmps3
    go_wp2_with fail
    refine (specCodeName_at k hk w).mono ?_
    rintro e w1 ⟨rfl, hb1⟩
    have hT1 := (hb1.cell (p := ⟨0, k, none⟩) hw).trans (HT.out k hk)
    have hcall := implCodeName_at k hk w1 hT1
    clear hT1
    obtain ⟨m, hm⟩ : ∃ m, cnAt k = m := ⟨_, rfl⟩
    rw [hm] at hcall hss ⊢
    have HC := hid hcall
    clear hcall hm
    go_wp2_with fail
    refine HC.out.mono ?_
    rintro e w2 ⟨rfl, rfl⟩
    go_wp2
    go_ret
    exact ⟨rfl, hb1⟩
  · have hc' : c < 0 ∨ 11 ≤ c := by omega
    clear hc hT
    go_enter Tryd.func3, Tryd.ntmps3
    go_wp2_with fail
    refine (specCodeName_no c hc' w).mono ?_
    rintro e w1 ⟨rfl, hb1⟩
    go_wp2_with fail
    refine (implCodeName_no c hc' w1).mono ?_
    rintro e w2 ⟨rfl, rfl⟩
    go_wp2
    go_ret
    exact ⟨rfl, hb1⟩

/-! ### The table as the row lists it -/
theorem cn_g : Tryd.prog.globalNamed "loop.example/g00911/impl.codeNames" = some 0 := by kernel_rfl
theorem cn_type : (Tryd.prog.globals[0]?).map (·.type) = some 43 := by kernel_rfl
theorem cn_cellsT : Tryd.prog.cellsOf 43 = 11 := by kernel_rfl
theorem cn_cellsS : Tryd.prog.cellsOf 9 = 1 := by kernel_rfl

theorem cn_cells {W : World} (h : laidMetH Tryd.prog Rows.fnExactCodeNameRow.laid W) : (0 < W.heap.size) ∧ ∀ k, k < 11 → W.cell? ⟨0, k, none⟩ = some (.string (cnAt k)) := by
  have h' : laidMet Tryd.prog Rows.fnExactCodeNameRow.laid W := h
  obtain ⟨ps, ⟨g', t', cs, fuel, p, q, hg', ht', hvar, hd, _, _⟩, _⟩ := h'
  obtain rfl := Option.some.inj (cn_g.symm.trans hg')
  obtain rfl := Option.some.inj (cn_type.symm.trans ht')
  have hcell := World.var?_cell cn_g hvar
  obtain ⟨xs, m, _, hx, hlen, hxl, hat⟩ := DataW.trod_array Tryd.underlying43 hd
  rw [cn_cellsT] at hlen
  have key : ∀ k, k < 11 → W.cell? ⟨0, k, none⟩ = some (.string (cnAt k)) := by
    intro k hk
    have h1 := hat k hk
    rw [cn_cellsS, Nat.mul_one] at h1
    have hxs : xs[k]? = some (xs[k]'(by omega)) := List.getElem?_eq_getElem (by omega)
    rw [hxs] at h1
    obtain ⟨s, hc, hy, _⟩ := DataW.trod_string Tryd.underlying9 h1
    have hck : cs.toList[k]? = some (.string s) := by
      have := congrArg (·[0]?) hc
      simpa [List.getElem?_take, List.getElem?_drop] using this
    have hsd : (DataW.lit (.string s.data.toList) : DataW Unit) = .lit (.string (cnList.getD k [])) := by
      have e1 : (xs.map (·.1)) = cnList.map fun l => (DataW.lit (.string l) : DataW Unit) := by
        have := congrArg Prod.fst hx
        simp only at this
        exact (DataW.agg.inj this).symm
      have e2 := congrArg (·[k]?) e1
      simp only [List.getElem?_map, hxs, Option.map_some, hy] at e2
      have hl : cnList.length = 11 := rfl
      have h3 : cnList[k]? = some (cnList[k]'(by omega)) := List.getElem?_eq_getElem (by omega)
      rw [h3] at e2
      simp only [Option.map_some, Option.some.injEq] at e2
      rw [e2, List.getD_eq_getElem?_getD, h3]
      rfl
    have hs : s = cnAt k := by
      apply Go.WideShapes.bytes_inj
      have := Lit.string.inj (DataW.lit.inj hsd)
      rw [this]
      rfl
    rw [hcell k, ← hs]
    simpa using hck
  refine ⟨World.block_lt_of_cell? W _ (key 0 (by omega)), key⟩

set_option maxRecDepth 100000 in
theorem codeName_contract (H : Type) (enc : TypeId × Value → H) (W : World) (base : Nat) (args : Array Value) (ds gs : List (DataW H)) (before : List MemPlace)
    (hval : ∀ (j : Nat) t v, Tryd.f3.params[j]? = some t → args[j]? = some v → Value.okWide Tryd.prog W .any base t v)
    (hW : DataW.Whole enc Tryd.prog Tryd.f3.params.toList Rows.fnExactCodeNameSpec.vars false W args.toList ds gs before) (hL : laidMetH Tryd.prog Rows.fnExactCodeNameRow.laid W) :
    Calls Tryd.prog 3 args W fun e W' => ∃ v, e = .returned v ∧ Rows.fnExactCodeNameSpec.post enc Tryd.prog Tryd.f3 false true false false W args v W' := by
  have hW' := hW
  obtain ⟨p, q, hA0, hV, rfl, hfz, hnd⟩ := hW
  have hA : DataW.TrodAll enc Tryd.prog W 0 (fun _ => true) true Tryd.f3.params.toList args.toList ds p := hA0
  rw [Tryd.params3] at hA hval
  obtain ⟨v0, vs0, d0, ds0, p0, q0, hargs, rfl, rfl, h0, r0⟩ := trodAll_cons hA
  obtain ⟨rfl, rfl, rfl⟩ := trodAll_nil r0
  obtain rfl : args = #[v0] := by cases args; simp_all
  obtain ⟨_, _, _, _, g1, _, rfl, _⟩ := trodVars_one hV
  have k0 := h0
  have lt0 : ∀ x ∈ p0, x.block < W.heap.size := by obtain ⟨m, hm⟩ := k0; exact DataW.trod_lt m _ _ _ hm
  obtain ⟨c, rfl, rfl, rfl, wc⟩ := open_int Tryd.underlying2 (hval 0 2 v0 rfl rfl) h0
  clear hA0
  obtain ⟨hlt, hT⟩ := cn_cells hL
  refine (FnExactCodeName_walk W hlt hT c).mono fun e W' ⟨he, bel⟩ => ?_
  subst he
  exact ⟨_, rfl, _, _, _, [], _, _, hW', trodAll_mk1 (shut_bool Tryd.underlying4 _), (trodAll_cons_mk (Below.trod cn_laid (by kernel_rfl) (of_decide_eq_true (by kernel_rfl)) k0 bel lt0) trodAll_mk0), Below.trodVars cn_laid bel (by kernel_rfl) hV, bel.frame _, fun h => by cases h⟩

/-- A start that fits: the table holds what its initialiser lays. -/
noncomputable def cnWorld (os : Os) : World :=
  { World.holding Tryd.prog os ⟨#[], #[], []⟩ with heap := (World.holding Tryd.prog os ⟨#[], #[], []⟩).heap.modify 0 fun
      | .cells _ t frozen => .cells #[.string ⟨#[111, 107]⟩, .string ⟨#[105, 110, 118, 97, 108, 105, 100]⟩, .string ⟨#[114, 97, 110, 103, 101]⟩, .string ⟨#[110, 111, 116, 45, 102, 111, 117, 110, 100]⟩, .string ⟨#[101, 120, 105, 115, 116, 115]⟩, .string ⟨#[102, 117, 108, 108]⟩, .string ⟨#[115, 116, 97, 116, 101]⟩, .string ⟨#[115, 121, 110, 116, 97, 120]⟩, .string ⟨#[102, 111, 114, 109, 97, 116]⟩, .string ⟨#[105, 108, 108, 101, 103, 97, 108]⟩, .string ⟨#[111, 118, 101, 114]⟩] t frozen
      | o => o }
theorem cn_met (os : Os) : laidMet Tryd.prog Rows.fnExactCodeNameRow.laid ((cnWorld os).forCall (fun _ _ => 0) ⟨#[], #[.int .i64 0], []⟩).memory :=
  laidMet_of_run' 8 (by kernel_rfl) (by kernel_rfl)
theorem cn_reads (os : Os) {H : Type} (enc : TypeId × Value → H) : ∃ places, DataW.whole enc Tryd.prog ((cnWorld os).forCall (fun _ _ => 0) ⟨#[], #[.int .i64 0], []⟩).memory Tryd.f3.params.toList Rows.fnExactCodeNameSpec.vars false #[Value.int .i64 0].toList 8 = some ([.lit (.int .i64 0)], [Rows.laid_loop_example_g00911_impl_codeNames], places) :=
  ⟨MemPlace.row ⟨0, 0, none⟩ 11, by kernel_rfl⟩

set_option maxRecDepth 100000 in
theorem codeName_lifted (os : Os) (started : os.Started) (H : Type) (enc : TypeId × Value → H) (F : Stop.Interp) :
    ReturnsInHanded {} Tryd.checked os 3 .any ((OpenSpec.ofChange Rows.fnExactCodeNameSpec).preRow enc Tryd.prog Tryd.f3 Rows.fnExactCodeNameRow.domain false Rows.fnExactCodeNameRow.laid) (((OpenSpec.ofChange Rows.fnExactCodeNameSpec).at F).post enc Tryd.prog Tryd.f3 false true false false) := by
  obtain ⟨places, hx⟩ := cn_reads os enc
  refine returnsInHanded_of_row (C := Tryd.checked) (s := OpenSpec.ofChange Rows.fnExactCodeNameSpec) cn_own started (by kernel_rfl) Tryd.func3
    (witness_row_at (enc := enc) (C := Tryd.checked) false (cnWorld os) #[.int .i64 0] rfl (by kernel_rfl) (by kernel_rfl) (by kernel_rfl)
      (OpenSpec.preRow_of_cond 8 hx (by kernel_rfl) (fun k hk => by cases hk) (by kernel_rfl) (cn_met os))) ?_
  intro W base args ds gs before hval hW _ _ _ hL _ _
  exact codeName_contract H enc W base args ds gs before hval hW hL

theorem codeName_said : Rows.FnExactCodeNameSaid :=
  OpenClaim.holds_of_cond 3 Tryd.f3 rfl rfl rfl rfl rfl rfl rfl ⟨rfl, rfl, rfl, rfl, rfl⟩ rfl rfl rfl rfl rfl (by kernel_rfl) Tryd.func3 (by kernel_rfl)
    (of_decide_eq_true (by kernel_rfl)) (by unfold Func.isWrapper; rw [if_neg (of_decide_eq_false (by kernel_rfl))]; exact ⟨rfl, rfl⟩)
    (fun os started H enc _ F => by rw [OpenClaim.pre_eq_preRow]; exact codeName_lifted os started H enc F)

theorem codeName_plain (f : FuncId) (fn : Func) (hf : Tryd.pinned.checked.prog.funcNamed "loop.example/g00911/laws.FnExactCodeName" = some f) (hfn : Tryd.pinned.checked.prog.funcs[f]? = some fn) :
    true = Tryd.pinned.checked.prog.looks [] ∧ ∀ (j : Nat) t, fn.params[j]? = some t → Tryd.pinned.checked.prog.wantsStandIn t = false := by
  obtain rfl : f = 3 := Option.some.inj ((show Tryd.prog.funcNamed "loop.example/g00911/laws.FnExactCodeName" = some 3 by kernel_rfl).symm.trans hf) |>.symm
  obtain rfl : fn = Tryd.f3 := (Option.some.inj (Tryd.func3.symm.trans hfn)).symm
  refine ⟨by kernel_rfl, fun j t ht => ?_⟩
  rw [Tryd.params3] at ht
  obtain rfl : t = 2 := by simpa using Array.mem_of_getElem? ht
  exact (show Tryd.prog.wantsStandIn 2 = false by kernel_rfl)

theorem FnExactCodeName_card : Rows.FnExactCodeNameCardSaid :=
  Claim7.holds_tied_plain_at .later [] _ _ _ _ codeName_said (fun _ h => by cases h) (by kernel_rfl) (fun _ h => by cases h) fnExactCodeName_row_tie rfl ⟨rfl, rfl⟩ (by kernel_rfl) rfl codeName_plain (by kernel_rfl)
#print axioms FnExactCodeName_card

end Go.Proofs.YtbfilebkmpcepaaDoor
