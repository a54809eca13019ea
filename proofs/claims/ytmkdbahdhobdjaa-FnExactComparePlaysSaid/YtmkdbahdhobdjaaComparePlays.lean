/-
  At every two plays the program's ComparePlays answers as the model does, and leaves its arguments as they were.
-/
import Derived.Test.YtmkdbahdhobdjaaCO
import Derived.Test.YtmkdbahdhobdjaaK5
import Derived.Test.YtmkdbahdhobdjaaWQ
import Derived.Deep.RegionWith
import Derived.Deep.RegionHeld3
namespace Go.Proofs.Ytmkdbahdhobdjaa
open Go.ChangeShapes Go.WideShapes Go.ChangeAt Go.RowKit Go.Joins Go.Deep
open Go.ChangeMaps (open_string shut_string)

set_option maxRecDepth 100000 in
set_option maxHeartbeats 4000000 in
theorem FnExactComparePlays_walk (W : World) (r k : Int) (d : Bool) (s : ByteArray) (_hr : (Lit.int .i64 r).wf = true) (_hk : (Lit.int .i64 k).wf = true) (hs : s.size ≤ maxLen) (r' k' : Int) (d' : Bool) (s' : ByteArray) (_hr' : (Lit.int .i64 r').wf = true) (_hk' : (Lit.int .i64 k').wf = true) (hs' : s'.size ≤ maxLen) :
    Calls Try.prog 10 #[.agg #[.int .i64 r, .int .i64 k, .bool d, .string s], .agg #[.int .i64 r', .int .i64 k', .bool d', .string s']] W fun e w' => e = .returned (.bool true) ∧ Below W.heap.size W w' := by
  have hB0 := below_twoC (W := W) (a := #[.int .i64 r, .int .i64 k, .bool d, .string s]) (b := #[.int .i64 r', .int .i64 k', .bool d', .string s']) (s := 54) (t := 54)
  have p0 := (Blk.made W 54 #[.int .i64 r, .int .i64 k, .bool d, .string s]).alloc (.cells #[.int .i64 r', .int .i64 k', .bool d', .string s'] 54)
  have p1 := Blk.made (W.alloc (.cells #[.int .i64 r, .int .i64 k, .bool d, .string s] 54)) 54 #[.int .i64 r', .int .i64 k', .bool d', .string s']
  rw [World.size_alloc] at p1
  have P0 := ShO.mk p0
  have P1 := ShO.mk p1
  clear p0 p1
  by_cases hsz : (1048576 : Int) < (s.size : Int)
  · go_enter Try.func10, Try.ntmps10
    go_wp2_with fail
    refine (szPlay_big (left := 1048576) r k d s _ hs (by omega) (by omega) hsz).mono ?_
    rintro e w1 ⟨rfl, hb1⟩
    go_wp2
    go_ret
    exact ⟨rfl, hB0.trans (hb1.mono hB0.size)⟩
  · obtain ⟨R, hR⟩ : ∃ R : Int, (1048576 : Int) - s.size = R := ⟨_, rfl⟩
    have hge : ¬ R < 0 := by omega
    have hR2 : R ≤ 1048576 := by omega
    have HR := ShO.mk hR
    have HF := ShO.mk hsz
    clear hR
    by_cases hsz2 : R < (s'.size : Int)
    · have HF2 := ShO.mk hsz2
      clear hsz hsz2
      go_enter Try.func10, Try.ntmps10
      go_wp2_with fail
      refine (szPlay_fits (left := 1048576) r k d s _ (by omega) (by omega) (by have := HF.out; omega)).mono ?_
      rw [HR.out]
      rintro e w1 ⟨rfl, hb1⟩
      have hB1 := hB0.trans (hb1.mono hB0.size)
      have c1 := (P1.out.kept hb1 P1.out.lt).cells
      clear hb1
      go_wp2_with fail
      refine (szPlay_big (left := R) r' k' d' s' _ hs' (by omega) (by omega) HF2.out).mono ?_
      rintro e w2 ⟨rfl, hb2⟩
      go_wp2
      go_ret
      exact ⟨rfl, hB1.trans (hb2.mono hB1.size)⟩
    · obtain ⟨R2, hR3⟩ : ∃ R2 : Int, R - s'.size = R2 := ⟨_, rfl⟩
      have hge2 : ¬ R2 < 0 := by omega
      have HR2 := ShO.mk hR3
      have HF2 := ShO.mk hsz2
      obtain ⟨t, htt⟩ : ∃ t, cmpOut r k d s r' k' d' s' = t := ⟨_, rfl⟩
      have HS := ShO.mk (show ∀ w, Calls Try.prog 49 #[.agg #[.int .i64 r, .int .i64 k, .bool d, .string s], .agg #[.int .i64 r', .int .i64 k', .bool d', .string s']] w (fun e w' => e = .returned (.int .i64 t) ∧ Below w.heap.size w w') from fun w => htt ▸ specComparePlays_any r k d s r' k' d' s' w)
      have HI := ShO.mk (show ∀ w, Calls Try.prog 50 #[.agg #[.int .i64 r, .int .i64 k, .bool d, .string s], .agg #[.int .i64 r', .int .i64 k', .bool d', .string s']] w (fun e w' => e = .returned (.int .i64 t) ∧ Below w.heap.size w w') from fun w => htt ▸ implComparePlays_any r k d s r' k' d' s' w)
      clear hsz hsz2 hR3 htt
      go_enter Try.func10, Try.ntmps10
      go_wp2_with fail
      refine (szPlay_fits (left := 1048576) r k d s _ (by omega) (by omega) (by have := HF.out; omega)).mono ?_
      rw [HR.out]
      rintro e w1 ⟨rfl, hb1⟩
      have hB1 := hB0.trans (hb1.mono hB0.size)
      have q1 := P1.out.kept hb1 P1.out.lt
      have q0 := P0.out.kept hb1 P0.out.lt
      have c1 := q1.cells
      clear hb1
      go_wp2_with fail
      refine (szPlay_fits (left := R) r' k' d' s' _ (by omega) (by omega) (by have := HF2.out; omega)).mono ?_
      rw [HR2.out]
      rintro e w2 ⟨rfl, hb2⟩
      have HB2 := ShO.mk (hB1.trans (hb2.mono hB1.size))
      have Q1 := ShO.mk (q1.kept hb2 q1.lt)
      have Q0 := ShO.mk (q0.kept hb2 q0.lt)
      clear c1 q1 q0 hb2 hB0 hB1
      have c0 := Q0.out.cells
      have c1 := Q1.out.cells
      go_wp2
      have HK := ShO.mk (fun w' (hb : Below w2.heap.size w2 w') => twoP Q0.out Q1.out hb)
      unfold TwoP at HK
      go_region_held3 (fun w' => (w'.cell? ⟨W.heap.size, 0, none⟩ = some (.int .i64 r) ∧ w'.cell? ⟨W.heap.size, 1, none⟩ = some (.int .i64 k) ∧ w'.cell? ⟨W.heap.size, 2, none⟩ = some (.bool d) ∧ w'.cell? ⟨W.heap.size, 3, none⟩ = some (.string s)) ∧
          (w'.cell? ⟨W.heap.size + 1, 0, none⟩ = some (.int .i64 r') ∧ w'.cell? ⟨W.heap.size + 1, 1, none⟩ = some (.int .i64 k') ∧ w'.cell? ⟨W.heap.size + 1, 2, none⟩ = some (.bool d') ∧ w'.cell? ⟨W.heap.size + 1, 3, none⟩ = some (.string s')))
        (with_reducible exact HK.out _ (by first | assumption | exact (Below.refl _ _).drew))
        (first
          | (go_at_call 46; with_reducible refine (callsC (w0 := w2) (by first | assumption | exact (Below.refl _ _).drew) (toPlay_any r k d s _)).mono ?_; rintro e w3 ⟨rfl, hb3⟩)
          | (go_at_call 46; with_reducible refine (callsC (w0 := w2) (by first | assumption | exact (Below.refl _ _).drew) (toPlay_any r' k' d' s' _)).mono ?_; rintro e w4 ⟨rfl, hb4⟩)
          | (go_at_call 49; refine (callsC (w0 := w2) (by assumption) (HS.out _)).mono ?_; rintro e w5 ⟨rfl, hb5⟩))
      all_goals
        have HB5 := ShO.mk (HB2.out.trans (hb5.mono HB2.out.size))
        have R0 := ShO.mk (Q0.out.kept hb5 Q0.out.lt)
        have R1 := ShO.mk (Q1.out.kept hb5 Q1.out.lt)
        clear HK c0 c1 hb5
        have c0 := R0.out.cells
        have c1 := R1.out.cells
        go_wp2
        have HK := ShO.mk (fun w' (hb : Below w5.heap.size w5 w') => twoP R0.out R1.out hb)
        unfold TwoP at HK
        go_region_held3 (fun w' => (w'.cell? ⟨W.heap.size, 0, none⟩ = some (.int .i64 r) ∧ w'.cell? ⟨W.heap.size, 1, none⟩ = some (.int .i64 k) ∧ w'.cell? ⟨W.heap.size, 2, none⟩ = some (.bool d) ∧ w'.cell? ⟨W.heap.size, 3, none⟩ = some (.string s)) ∧
            (w'.cell? ⟨W.heap.size + 1, 0, none⟩ = some (.int .i64 r') ∧ w'.cell? ⟨W.heap.size + 1, 1, none⟩ = some (.int .i64 k') ∧ w'.cell? ⟨W.heap.size + 1, 2, none⟩ = some (.bool d') ∧ w'.cell? ⟨W.heap.size + 1, 3, none⟩ = some (.string s')))
          (with_reducible exact HK.out _ (by first | assumption | exact (Below.refl _ _).drew))
          (first
            | (go_at_call 46; with_reducible refine (callsC (w0 := w5) (by first | assumption | exact (Below.refl _ _).drew) (toPlay_any r k d s _)).mono ?_; rintro e w6 ⟨rfl, hb6⟩)
            | (go_at_call 46; with_reducible refine (callsC (w0 := w5) (by first | assumption | exact (Below.refl _ _).drew) (toPlay_any r' k' d' s' _)).mono ?_; rintro e w7 ⟨rfl, hb7⟩)
            | (go_at_call 50; refine (callsC (w0 := w5) (by assumption) (HI.out _)).mono ?_; rintro e w8 ⟨rfl, hb8⟩))
        all_goals
          go_wp2
          go_ret
          exact ⟨rfl, HB5.out.trans (hb8.mono HB5.out.size)⟩
set_option maxRecDepth 100000 in
theorem FnExactComparePlays_lifted (os : Os) (started : os.Started) (H : Type) (enc : TypeId × Value → H) :
    ReturnsInHanded {} Try.checked os 10 .any (Rows.fnExactComparePlaysSpec.pre6 enc Try.prog Try.f10 Rows.fnExactComparePlaysRow.domain false) (Rows.fnExactComparePlaysSpec.post enc Try.prog Try.f10 false true false false) := by
  refine returnsInHanded_of_change (C := Try.checked) prog_own started (by kernel_rfl) Try.func10
    (ChangeSpec.witness6 (enc := enc) (C := Try.checked) false ⟨#[], #[.agg #[.int .i64 0, .int .i64 0, .bool false, .string ByteArray.empty], .agg #[.int .i64 0, .int .i64 0, .bool false, .string ByteArray.empty]], []⟩ 8 (by kernel_rfl) (by kernel_rfl) (by kernel_rfl) (by kernel_rfl)) ?_
  intro W base args ds gs before hval0 hW hcnd _
  have hval : ∀ (j : Nat) t v, Try.f10.params[j]? = some t → args[j]? = some v → Value.okWide Try.prog W .any base t v := hval0
  have hW' := hW
  obtain ⟨p, q, hA0, hV, rfl, hfz, hnd⟩ := hW
  have hA : DataW.TrodAll enc Try.prog W 0 (fun _ => true) true Try.f10.params.toList args.toList ds p := hA0
  rw [Try.params10] at hA hval
  obtain ⟨v0, vs0, d0, ds0, p0, q0, hargs, rfl, rfl, h0, r0⟩ := trodAll_cons hA
  obtain ⟨v1, vs1, d1, ds1, p1, q1, rfl, rfl, rfl, h1, r1⟩ := trodAll_cons r0
  obtain ⟨rfl, rfl, rfl⟩ := trodAll_nil r1
  obtain rfl : args = #[v0, v1] := by cases args; simp_all
  obtain ⟨rfl, rfl⟩ := trodVars_none hV
  have k0 := h0
  have lt0 : ∀ x ∈ p0, x.block < W.heap.size := by obtain ⟨m, hm⟩ := k0; exact DataW.trod_lt m _ _ _ hm
  obtain ⟨c00, c01, c02, c03, y00, y01, y02, y03, n0, rfl, rfl, rfl, f00, f01, f02, f03⟩ := open_agg4 Try.underlying54 (by kernel_rfl) (by kernel_rfl) (hval 0 54 v0 rfl rfl) h0
  obtain ⟨r0_, rfl, _, wr0_⟩ := int_cell Try.underlying2 f00
  obtain ⟨k0_, rfl, _, wk0_⟩ := int_cell Try.underlying2 f01
  obtain ⟨d0_, rfl, _⟩ := bool_cell Try.underlying4 f02
  obtain ⟨s0_, rfl, _, ws0_⟩ := string_cell Try.underlying9 f03
  have k1 := h1
  have lt1 : ∀ x ∈ p1, x.block < W.heap.size := by obtain ⟨m, hm⟩ := k1; exact DataW.trod_lt m _ _ _ hm
  obtain ⟨c10, c11, c12, c13, y10, y11, y12, y13, n1, rfl, rfl, rfl, f10, f11, f12, f13⟩ := open_agg4 Try.underlying54 (by kernel_rfl) (by kernel_rfl) (hval 1 54 v1 rfl rfl) h1
  obtain ⟨r1_, rfl, _, wr1_⟩ := int_cell Try.underlying2 f10
  obtain ⟨k1_, rfl, _, wk1_⟩ := int_cell Try.underlying2 f11
  obtain ⟨d1_, rfl, _⟩ := bool_cell Try.underlying4 f12
  obtain ⟨s1_, rfl, _, ws1_⟩ := string_cell Try.underlying9 f13
  clear hA0 hval0
  refine (FnExactComparePlays_walk W r0_ k0_ d0_ s0_ wr0_ wk0_ ws0_ r1_ k1_ d1_ s1_ wr1_ wk1_ ws1_).mono fun e W' ⟨he, bel⟩ => ?_
  subst he
  exact ⟨_, rfl, _, _, _, [], _, [], hW', trodAll_mk1 (shut_bool Try.underlying4 _), (trodAll_cons_mk (Below.trod prog_laid (by kernel_rfl) (of_decide_eq_true (by kernel_rfl)) k0 bel lt0) (trodAll_cons_mk (Below.trod prog_laid (by kernel_rfl) (of_decide_eq_true (by kernel_rfl)) k1 bel lt1) trodAll_mk0)), rfl, bel.frame _, fun h => by cases h⟩

theorem FnExactComparePlays_holds : Rows.FnExactComparePlaysSaid :=
  OpenClaim.holds_of_wide 10 Try.f10 rfl rfl rfl rfl rfl rfl rfl ⟨rfl, rfl, rfl, rfl, rfl⟩ rfl rfl rfl rfl rfl (by kernel_rfl) Try.func10 (by kernel_rfl)
    (of_decide_eq_true (by kernel_rfl)) (by unfold Func.isWrapper; rw [if_neg (of_decide_eq_false (by kernel_rfl))]; exact ⟨rfl, rfl⟩)
    (fun os started H enc _ => FnExactComparePlays_lifted os started H enc)
end Go.Proofs.Ytmkdbahdhobdjaa
