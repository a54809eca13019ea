/-
  The law of CompletionsOf is true of every lexicon, valid or not: the program answers as the model does, and changes nothing.
-/
import Derived.Test.YtpjekfebpgjgnaaUL
import Derived.Test.YtpjekfebpgjgnaaL6
import Derived.Test.YtpjekfebpgjgnaaWQ
namespace Go.Proofs.Ytpjekfebpgjgnaa
open Go.ChangeShapes Go.WideShapes Go.ChangeAt Go.RowKit Go.Joins Go.Deep
open Go.ChangeMaps (open_string shut_string)

set_option maxRecDepth 100000 in
set_option maxHeartbeats 2000000 in
theorem FnExactCompletionsOf_walk (W : World) (us : List ByteArray) (v : Value) (hu : Strs W v us) (hz : ∀ s ∈ us, s.size ≤ maxLen) (rack : ByteArray) (_hrack : rack.size ≤ maxLen) :
    Calls Try.prog 18 #[.agg #[v], .string rack] W fun e w' => e = .returned (.bool true) ∧ Below W.heap.size W w' := by
  have hB0 := (Below.refl W.heap.size W).alloc (Nat.le_refl _) (.cells #[v] 43)
  have HU := Shh.mk hu
  have P0 := Shh.mk (Blk.made W 43 #[v])
  obtain ⟨aa, ac, rfl, -⟩ := hu
  by_cases hla : rack.size ≤ 1048576
  · have hl1 : ¬ (1048576 : Int) < (rack.size : Int) := by omega
    by_cases hsz : (1048576 : Int) < ((strsW us : Nat) : Int)
    · have HS := hid (szN_no hsz)
      clear hsz
      go_enter Try.func18, Try.ntmps18
      go_wp2_with fail
      refine (szLexicon_any us 1048576 _ (HU.out.below hB0) hz (by omega) (by omega)).mono ?_
      rw [HS.out]
      rintro e w1 ⟨rfl, hb1⟩
      go_wp2
      go_ret
      exact ⟨rfl, hB0.trans (hb1.mono hB0.size)⟩
    · have HS := hid (szN_yes hsz)
      have hn : us.length ≤ 1048576 := by have := strsW_len us; omega
      have HN := Shh.mk hn
      have hge : ¬ (1048576 : Int) - ((strsW us : Nat) : Int) < 0 := by omega
      obtain ⟨t, htt⟩ : ∃ t, compOut us rack = t := ⟨_, rfl⟩
      have HT := Shh.mk htt
      clear hsz htt
      obtain ⟨x0, x1⟩ := t
      have hss := strSame x0
      have hs2 := same_str x0
      go_enter Try.func18, Try.ntmps18
      go_wp2_with fail
      refine (szLexicon_any us 1048576 _ (HU.out.below hB0) hz (by omega) (by omega)).mono ?_
      rw [HS.out]
      rintro e w1 ⟨rfl, hb1⟩
      have hB1 := hB0.trans (hb1.mono hB0.size)
      have Q1 := Shh.mk (P0.out.kept hb1 P0.out.lt)
      have c1 := Q1.out.cells
      go_wp2_with fail
      refine (toLexicon_any us _ (HU.out.below hB1) HN.out).mono ?_
      rintro e w2 ⟨a2, n2, rfl, hg2, hb2⟩
      have hB2 := hB1.trans (hb2.mono hB1.size)
      have Q2 := Shh.mk (Q1.out.kept hb2 Q1.out.lt)
      clear c1 hge
      go_wp2_with fail
      refine (specCompletionsOf_any rack _ hg2.strs hz (by omega)).mono ?_
      rw [HT.out]
      rintro e w3 ⟨rfl, hb3⟩
      unfold retT
      have hB3 := hB2.trans (hb3.mono hB2.size)
      have Q3 := Shh.mk (Q2.out.kept hb3 Q2.out.lt)
      have c3 := Q3.out.cells
      go_wp2_with fail
      refine (toLexicon_any us _ (HU.out.below hB3) HN.out).mono ?_
      rintro e w4 ⟨a4, n4, rfl, hg4, hb4⟩
      have hB4 := hB3.trans (hb4.mono hB3.size)
      have X4 := Shh.mk (Blk.made w4 26 #[.slice a4 us.length n4])
      have Q4 := Shh.mk ((Q3.out.kept hb4 Q3.out.lt).alloc (.cells #[.slice a4 us.length n4] 26))
      have G4 := Shh.mk (hg4.strs.alloc (.cells #[.slice a4 us.length n4] 26))
      have hB4' := hB4.alloc hB4.size (.cells #[.slice a4 us.length n4] 26)
      clear c3 hg4 hg2 hb4
      go_wp2_with fail
      refine (implCompletionsOf_any rack _ G4.out hz (by omega)).mono ?_
      rw [HT.out]
      rintro e w5 ⟨rfl, hb5⟩
      unfold retT
      have HB5 := Shh.mk (hB4'.trans (hb5.mono hB4'.size))
      have X5 := Shh.mk (X4.out.kept hb5 X4.out.lt)
      have Q5 := Shh.mk (Q4.out.kept hb5 Q4.out.lt)
      have G5 := Shh.mk (G4.out.below hb5)
      have HGW := Shh.mk (HU.out.below HB5.out)
      clear hb1 hb2 hb3 hb5 hB0 hB1 hB2 hB3 hB4 hB4'
      go_wp2
      have HK := Shh.mk (fun w' (hb : Below w5.heap.size w5 w') => twoLex X5.out Q5.out hb)
      go_region_held3 (fun w' => w'.cell? ⟨w4.heap.size, 0, none⟩ = some (.slice a4 us.length n4) ∧ w'.cell? ⟨W.heap.size, 0, none⟩ = some (.slice aa us.length ac))
        (exact HK.out _ (by first | assumption | exact (Below.refl _ _).drew))
        (first
          | (go_at_call 50; with_reducible refine (toL_on w5 _ (by first | assumption | exact (Below.refl _ _).drew) HGW.out HN.out).mono ?_; rintro e w6 ⟨a6, s6, rfl, hg6, hb6, hc6⟩)
          | (go_at_call 53; refine (eqL_on w5 _ (by assumption) (G5.out.below (by assumption)) hg6).mono ?_; rintro e w7 ⟨rfl, hb7⟩))
      all_goals
        clear HK
        go_wp2
        go_ret
        exact ⟨rfl, HB5.out.trans (hb7.mono HB5.out.size)⟩
  · have hl1 : (1048576 : Int) < (rack.size : Int) := by omega
    clear hla
    go_enter Try.func18, Try.ntmps18
    go_wp2
    go_ret
    exact ⟨rfl, hB0⟩

set_option maxRecDepth 100000 in
theorem FnExactCompletionsOf_lifted (os : Os) (started : os.Started) (H : Type) (enc : TypeId × Value → H) :
    ReturnsInHanded {} Try.checked os 18 .any (Rows.fnExactCompletionsOfSpec.pre6 enc Try.prog Try.f18 Rows.fnExactCompletionsOfRow.domain false) (Rows.fnExactCompletionsOfSpec.post enc Try.prog Try.f18 false true false false) := by
  refine returnsInHanded_of_change (C := Try.checked) prog_own started (by kernel_rfl) Try.func18
    (ChangeSpec.witness6 (enc := enc) (C := Try.checked) false ⟨#[], #[.agg #[.slice none 0 0], .string ByteArray.empty], []⟩ 8 (by kernel_rfl) (by kernel_rfl) (by kernel_rfl) (by kernel_rfl)) ?_
  intro W base args ds gs before hval0 hW hcnd _
  have hval : ∀ (j : Nat) t v, Try.f18.params[j]? = some t → args[j]? = some v → Value.okWide Try.prog W .any base t v := hval0
  have hW' := hW
  obtain ⟨p, q, hA0, hV, rfl, hfz, hnd⟩ := hW
  have hA : DataW.TrodAll enc Try.prog W 0 (fun _ => true) true Try.f18.params.toList args.toList ds p := hA0
  rw [Try.params18] at hA hval
  obtain ⟨v0, vs0, d0, ds0, p0, q0, hargs, rfl, rfl, h0, r0⟩ := trodAll_cons hA
  obtain ⟨v1, vs1, d1, ds1, p1, q1, rfl, rfl, rfl, h1, r1⟩ := trodAll_cons r0
  obtain ⟨rfl, rfl, rfl⟩ := trodAll_nil r1
  obtain rfl : args = #[v0, v1] := by cases args; simp_all
  obtain ⟨rfl, rfl⟩ := trodVars_none hV
  have k0 := h0
  have lt0 : ∀ x ∈ p0, x.block < W.heap.size := by obtain ⟨m, hm⟩ := k0; exact DataW.trod_lt m _ _ _ hm
  obtain ⟨c00, y00, n0, rfl, rfl, rfl, f00⟩ := open_agg1 Try.underlying43 (by kernel_rfl) (by kernel_rfl) (hval 0 43 v0 rfl rfl) h0
  obtain ⟨ss0, hs0, zs0⟩ := strs_cell Try.underlying24 Try.underlying9 (by kernel_rfl) f00
  have k1 := h1
  have lt1 : ∀ x ∈ p1, x.block < W.heap.size := by obtain ⟨m, hm⟩ := k1; exact DataW.trod_lt m _ _ _ hm
  obtain ⟨a1, rfl, rfl, rfl, w1⟩ := open_string Try.underlying9 (hval 1 9 v1 rfl rfl) h1
  clear hA0 hval0
  refine (FnExactCompletionsOf_walk W ss0 _ hs0 zs0 a1 w1).mono fun e W' ⟨he, bel⟩ => ?_
  subst he
  exact ⟨_, rfl, _, _, _, [], _, [], hW', trodAll_mk1 (shut_bool Try.underlying4 _), (trodAll_cons_mk (Below.trod prog_laid (by kernel_rfl) (of_decide_eq_true (by kernel_rfl)) k0 bel lt0) (trodAll_cons_mk (Below.trod prog_laid (by kernel_rfl) (of_decide_eq_true (by kernel_rfl)) k1 bel lt1) trodAll_mk0)), rfl, bel.frame _, fun h => by cases h⟩

set_option maxHeartbeats 8000000 in
theorem FnExactCompletionsOf_facts : joinedFacts Try.pinned.checked.prog 18 Try.f18 Rows.fnExactCompletionsOfSpec Rows.fnExactCompletionsOfRow = true := by
  unfold joinedFacts
  rw [prog_enter, prog_lifts, prog_made]
  kernel_rfl
theorem FnExactCompletionsOf_holds : Rows.FnExactCompletionsOfSaid :=
  OpenClaim.holds_of_wide 18 Try.f18 rfl rfl rfl rfl rfl rfl rfl ⟨rfl, rfl, rfl, rfl, rfl⟩ rfl rfl rfl rfl rfl (by kernel_rfl) Try.func18 FnExactCompletionsOf_facts
    (of_decide_eq_true (by kernel_rfl)) (by unfold Func.isWrapper; rw [if_neg (of_decide_eq_false (by kernel_rfl))]; exact ⟨rfl, rfl⟩)
    (fun os started H enc _ => FnExactCompletionsOf_lifted os started H enc)
#print axioms FnExactCompletionsOf_holds
end Go.Proofs.Ytpjekfebpgjgnaa
