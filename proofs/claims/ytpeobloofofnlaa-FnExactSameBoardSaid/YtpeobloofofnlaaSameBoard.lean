/-
  At every two boards the program's SameBoard answers as the model does, and leaves its arguments as they were.
-/
import Derived.Test.YtpeobloofofnlaaBI
import Derived.Test.YtpeobloofofnlaaWQ
import Derived.Deep.RegionWith
import Derived.Deep.RegionHeld3
namespace Go.Proofs.Ytpeobloofofnlaa
open Go.ChangeShapes Go.WideShapes Go.ChangeAt Go.RowKit Go.Joins Go.Deep
open Go.ChangeMaps (open_string shut_string)

set_option maxRecDepth 100000 in
set_option maxHeartbeats 4000000 in
theorem FnExactSameBoard_walk (W : World) (n : Int) (p c : ByteArray) (_hn : (Lit.int .i64 n).wf = true) (hp : p.size ≤ maxLen) (hc : c.size ≤ maxLen) (m : Int) (q d : ByteArray) (_hm : (Lit.int .i64 m).wf = true) (hq : q.size ≤ maxLen) (hd : d.size ≤ maxLen) :
    Calls Try.prog 9 #[.agg #[.int .i64 n, .string p, .string c], .agg #[.int .i64 m, .string q, .string d]] W fun e w' => e = .returned (.bool true) ∧ Below W.heap.size W w' := by
  have hB0 : Below W.heap.size W ((W.alloc (.cells #[.int .i64 n, .string p, .string c] 57)).alloc (.cells #[.int .i64 m, .string q, .string d] 57)) := below_two _ _
  have p0 := (Blk.made W 57 #[.int .i64 n, .string p, .string c]).alloc (.cells #[.int .i64 m, .string q, .string d] 57)
  have p1 := Blk.made (W.alloc (.cells #[.int .i64 n, .string p, .string c] 57)) 57 #[.int .i64 m, .string q, .string d]
  rw [World.size_alloc] at p1
  have P0 := ShO.mk p0
  have P1 := ShO.mk p1
  clear p0 p1
  by_cases hsz : (1048576 : Int) < ((p.size + c.size : Nat) : Int)
  · go_enter Try.func9, Try.ntmps9
    go_wp2_with fail
    refine (szBoard_big (left := 1048576) n p c _ hp hc (by omega) (by omega) hsz).mono ?_
    rintro e w1 ⟨rfl, hb1⟩
    go_wp2
    go_ret
    exact ⟨rfl, hB0.trans (hb1.mono hB0.size)⟩
  · obtain ⟨R, hR⟩ : ∃ R : Int, (1048576 : Int) - p.size - c.size = R := ⟨_, rfl⟩
    have hge : ¬ R < 0 := by omega
    have hR2 : R ≤ 1048576 := by omega
    have HR := ShO.mk hR
    have HF := ShO.mk hsz
    clear hR
    by_cases hsz2 : R < ((q.size + d.size : Nat) : Int)
    · have HF2 := ShO.mk hsz2
      clear hsz hsz2
      go_enter Try.func9, Try.ntmps9
      go_wp2_with fail
      refine (szBoard_fits (left := 1048576) n p c _ (by omega) (by omega) (by have := HF.out; omega)).mono ?_
      rw [HR.out]
      rintro e w1 ⟨rfl, hb1⟩
      have hB1 := hB0.trans (hb1.mono hB0.size)
      have c1 := (P1.out.kept hb1 P1.out.lt).cells
      clear hb1
      go_wp2_with fail
      refine (szBoard_big (left := R) m q d _ hq hd (by omega) (by omega) HF2.out).mono ?_
      rintro e w2 ⟨rfl, hb2⟩
      go_wp2
      go_ret
      exact ⟨rfl, hB1.trans (hb2.mono hB1.size)⟩
    · obtain ⟨R2, hR3⟩ : ∃ R2 : Int, R - q.size - d.size = R2 := ⟨_, rfl⟩
      have hge2 : ¬ R2 < 0 := by omega
      have HR2 := ShO.mk hR3
      have HF2 := ShO.mk hsz2
      obtain ⟨t, htt⟩ : ∃ t, sameBd n p c m q d = t := ⟨_, rfl⟩
      have HT := ShO.mk htt
      clear hsz hsz2 hR3 htt
      go_enter Try.func9, Try.ntmps9
      go_wp2_with fail
      refine (szBoard_fits (left := 1048576) n p c _ (by omega) (by omega) (by have := HF.out; omega)).mono ?_
      rw [HR.out]
      rintro e w1 ⟨rfl, hb1⟩
      have hB1 := hB0.trans (hb1.mono hB0.size)
      have q1 := P1.out.kept hb1 P1.out.lt
      have q0 := P0.out.kept hb1 P0.out.lt
      have c1 := q1.cells
      clear hb1
      go_wp2_with fail
      refine (szBoard_fits (left := R) m q d _ (by omega) (by omega) (by have := HF2.out; omega)).mono ?_
      rw [HR2.out]
      rintro e w2 ⟨rfl, hb2⟩
      have HB2 := ShO.mk (hB1.trans (hb2.mono hB1.size))
      have Q1 := ShO.mk (q1.kept hb2 q1.lt)
      have Q0 := ShO.mk (q0.kept hb2 q0.lt)
      clear c1 q1 q0 hb2 hB0 hB1
      have c0 := Q0.out.cells
      have c1 := Q1.out.cells
      go_wp2
      have HK := ShO.mk (fun w' (hb : Below w2.heap.size w2 w') => twoB Q0.out Q1.out hb)
      unfold TwoB at HK
      go_region_held3 (fun w' => (w'.cell? ⟨W.heap.size, 0, none⟩ = some (.int .i64 n) ∧ w'.cell? ⟨W.heap.size, 1, none⟩ = some (.string p) ∧ w'.cell? ⟨W.heap.size, 2, none⟩ = some (.string c)) ∧
          (w'.cell? ⟨W.heap.size + 1, 0, none⟩ = some (.int .i64 m) ∧ w'.cell? ⟨W.heap.size + 1, 1, none⟩ = some (.string q) ∧ w'.cell? ⟨W.heap.size + 1, 2, none⟩ = some (.string d)))
        (exact HK.out _ (by first | assumption | exact (Below.refl _ _).drew))
        (first
          | (go_at_call 65; with_reducible refine (toBoard_on n p c w2 _ (by first | assumption | exact (Below.refl _ _).drew)).mono ?_; rintro e w3 ⟨rfl, hb3⟩)
          | (go_at_call 65; with_reducible refine (toBoard_on m q d w2 _ (by first | assumption | exact (Below.refl _ _).drew)).mono ?_; rintro e w4 ⟨rfl, hb4⟩)
          | (go_at_call 67; refine (specSame_onO HT.out w2 _ (by assumption)).mono ?_; rintro e w5 ⟨rfl, hb5⟩))
      all_goals
        have HB5 := ShO.mk (HB2.out.trans (hb5.mono HB2.out.size))
        have R0 := ShO.mk (Q0.out.kept hb5 Q0.out.lt)
        have R1 := ShO.mk (Q1.out.kept hb5 Q1.out.lt)
        clear HK c0 c1 hb5
        have c0 := R0.out.cells
        have c1 := R1.out.cells
        go_wp2
        have HK := ShO.mk (fun w' (hb : Below w5.heap.size w5 w') => twoB R0.out R1.out hb)
        unfold TwoB at HK
        go_region_held3 (fun w' => (w'.cell? ⟨W.heap.size, 0, none⟩ = some (.int .i64 n) ∧ w'.cell? ⟨W.heap.size, 1, none⟩ = some (.string p) ∧ w'.cell? ⟨W.heap.size, 2, none⟩ = some (.string c)) ∧
            (w'.cell? ⟨W.heap.size + 1, 0, none⟩ = some (.int .i64 m) ∧ w'.cell? ⟨W.heap.size + 1, 1, none⟩ = some (.string q) ∧ w'.cell? ⟨W.heap.size + 1, 2, none⟩ = some (.string d)))
          (exact HK.out _ (by first | assumption | exact (Below.refl _ _).drew))
          (first
            | (go_at_call 65; with_reducible refine (toBoard_on n p c w5 _ (by first | assumption | exact (Below.refl _ _).drew)).mono ?_; rintro e w6 ⟨rfl, hb6⟩)
            | (go_at_call 65; with_reducible refine (toBoard_on m q d w5 _ (by first | assumption | exact (Below.refl _ _).drew)).mono ?_; rintro e w7 ⟨rfl, hb7⟩)
            | (go_at_call 68; refine (implSame_onO HT.out w5 _ (by assumption)).mono ?_; rintro e w8 ⟨rfl, hb8⟩))
        all_goals
          go_wp2
          go_ret
          exact ⟨rfl, HB5.out.trans (hb8.mono HB5.out.size)⟩
set_option maxRecDepth 100000 in
theorem FnExactSameBoard_lifted (os : Os) (started : os.Started) (H : Type) (enc : TypeId × Value → H) :
    ReturnsInHanded {} Try.checked os 9 .any (Rows.fnExactSameBoardSpec.pre6 enc Try.prog Try.f9 Rows.fnExactSameBoardRow.domain false) (Rows.fnExactSameBoardSpec.post enc Try.prog Try.f9 false true false false) := by
  refine returnsInHanded_of_change (C := Try.checked) prog_own started (by kernel_rfl) Try.func9
    (ChangeSpec.witness6 (enc := enc) (C := Try.checked) false ⟨#[], #[.agg #[.int .i64 0, .string ByteArray.empty, .string ByteArray.empty], .agg #[.int .i64 0, .string ByteArray.empty, .string ByteArray.empty]], []⟩ 8 (by kernel_rfl) (by kernel_rfl) (by kernel_rfl) (by kernel_rfl)) ?_
  intro W base args ds gs before hval0 hW hcnd _
  have hval : ∀ (j : Nat) t v, Try.f9.params[j]? = some t → args[j]? = some v → Value.okWide Try.prog W .any base t v := hval0
  have hW' := hW
  obtain ⟨p, q, hA0, hV, rfl, hfz, hnd⟩ := hW
  have hA : DataW.TrodAll enc Try.prog W 0 (fun _ => true) true Try.f9.params.toList args.toList ds p := hA0
  rw [Try.params9] at hA hval
  obtain ⟨v0, vs0, d0, ds0, p0, q0, hargs, rfl, rfl, h0, r0⟩ := trodAll_cons hA
  obtain ⟨v1, vs1, d1, ds1, p1, q1, rfl, rfl, rfl, h1, r1⟩ := trodAll_cons r0
  obtain ⟨rfl, rfl, rfl⟩ := trodAll_nil r1
  obtain rfl : args = #[v0, v1] := by cases args; simp_all
  obtain ⟨rfl, rfl⟩ := trodVars_none hV
  have k0 := h0
  have lt0 : ∀ x ∈ p0, x.block < W.heap.size := by obtain ⟨m, hm⟩ := k0; exact DataW.trod_lt m _ _ _ hm
  obtain ⟨c00, c01, c02, y00, y01, y02, n0, rfl, rfl, rfl, f00, f01, f02⟩ := open_agg3 Try.underlying57 (by kernel_rfl) (by kernel_rfl) (hval 0 57 v0 rfl rfl) h0
  obtain ⟨b0, rfl, _, wb0⟩ := int_cell Try.underlying2 f00
  obtain ⟨P0, rfl, _, wP0⟩ := string_cell Try.underlying9 f01
  obtain ⟨L0, rfl, _, wL0⟩ := string_cell Try.underlying9 f02
  have k1 := h1
  have lt1 : ∀ x ∈ p1, x.block < W.heap.size := by obtain ⟨m, hm⟩ := k1; exact DataW.trod_lt m _ _ _ hm
  obtain ⟨c10, c11, c12, y10, y11, y12, n1, rfl, rfl, rfl, f10, f11, f12⟩ := open_agg3 Try.underlying57 (by kernel_rfl) (by kernel_rfl) (hval 1 57 v1 rfl rfl) h1
  obtain ⟨b1, rfl, _, wb1⟩ := int_cell Try.underlying2 f10
  obtain ⟨P1, rfl, _, wP1⟩ := string_cell Try.underlying9 f11
  obtain ⟨L1, rfl, _, wL1⟩ := string_cell Try.underlying9 f12
  clear hA0 hval0
  refine (FnExactSameBoard_walk W b0 P0 L0 wb0 wP0 wL0 b1 P1 L1 wb1 wP1 wL1).mono fun e W' ⟨he, bel⟩ => ?_
  subst he
  exact ⟨_, rfl, _, _, _, [], _, [], hW', trodAll_mk1 (shut_bool Try.underlying4 _), (trodAll_cons_mk (Below.trod prog_laid (by kernel_rfl) (of_decide_eq_true (by kernel_rfl)) k0 bel lt0) (trodAll_cons_mk (Below.trod prog_laid (by kernel_rfl) (of_decide_eq_true (by kernel_rfl)) k1 bel lt1) trodAll_mk0)), rfl, bel.frame _, fun h => by cases h⟩

set_option maxHeartbeats 8000000 in
theorem FnExactSameBoard_facts : joinedFacts Try.pinned.checked.prog 9 Try.f9 Rows.fnExactSameBoardSpec Rows.fnExactSameBoardRow = true := by
  unfold joinedFacts
  rw [prog_enter, prog_lifts, prog_made]
  kernel_rfl
theorem FnExactSameBoard_holds : Rows.FnExactSameBoardSaid :=
  OpenClaim.holds_of_wide 9 Try.f9 rfl rfl rfl rfl rfl rfl rfl ⟨rfl, rfl, rfl, rfl, rfl⟩ rfl rfl rfl rfl rfl (by kernel_rfl) Try.func9 FnExactSameBoard_facts
    (of_decide_eq_true (by kernel_rfl)) (by unfold Func.isWrapper; rw [if_neg (of_decide_eq_false (by kernel_rfl))]; exact ⟨rfl, rfl⟩)
    (fun os started H enc _ => FnExactSameBoard_lifted os started H enc)
end Go.Proofs.Ytpeobloofofnlaa
