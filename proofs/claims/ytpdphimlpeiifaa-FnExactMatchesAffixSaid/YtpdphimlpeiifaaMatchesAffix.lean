/-
  The law of MatchesAffix is true of every affix and every text: the program says of them what the model says, and changes nothing.
-/
import Derived.Test.YtpdphimlpeiifaaF9
import Derived.Test.YtpdphimlpeiifaaF5
namespace Go.Proofs.Ytpdphimlpeiifaa
open Go.ChangeShapes Go.WideShapes Go.ChangeAt Go.RowKit Go.Joins Go.Deep
open Go.ChangeMaps (open_string shut_string)

set_option maxHeartbeats 2000000 in
theorem FnExactMatchesAffix_walk (W : World) (f : Bool) (n w s a : ByteArray) (hn : n.size ≤ maxLen) (hw : w.size ≤ maxLen) (hs : s.size ≤ maxLen) (ha : a.size ≤ maxLen) (word : ByteArray) (hwd : word.size ≤ maxLen) :
    Calls Try.prog 5 #[.agg #[.string n, .bool f, .string w, .string s, .string a], .string word] W fun e w' => e = .returned (.bool true) ∧ Below W.heap.size W w' := by
  have hB0 := (Below.refl W.heap.size W).alloc (Nat.le_refl _) (.cells #[.string n, .bool f, .string w, .string s, .string a] 32)
  have hwd' := hwd
  unfold maxLen at hwd'
  by_cases hlong : (1048576 : Int) < (word.size : Int)
  · go_enter Try.func5, Try.ntmps5
    go_wp2
    go_ret
    exact ⟨rfl, hB0⟩
  · clear hwd'
    by_cases hsz : (1048576 : Int) < ((n.size + w.size + s.size + a.size : Nat) : Int)
    · have HS := hid (szN_no hsz)
      clear hsz
      go_enter Try.func5, Try.ntmps5
      go_wp2_with fail
      refine (szAffix_any f n w s a 1048576 _ hn hw hs ha (by omega) (by omega)).mono ?_
      rw [HS.out]
      rintro e w1 ⟨rfl, hb1⟩
      go_wp2
      go_ret
      exact ⟨rfl, hB0.trans (hb1.mono hB0.size)⟩
    · have HS := hid (szN_yes hsz)
      have hge : ¬ (1048576 : Int) - ((n.size + w.size + s.size + a.size : Nat) : Int) < 0 := by omega
      obtain ⟨R, hR⟩ : ∃ R : Int, (1048576 : Int) - ((n.size + w.size + s.size + a.size : Nat) : Int) = R := ⟨_, rfl⟩
      rw [hR] at hge
      have HR := hid (HS.out.trans hR)
      clear hR HS hsz
      obtain ⟨V, hV⟩ : ∃ V, matchB f n w s a word = V := ⟨_, rfl⟩
      have HV := Shh.mk hV
      clear hV
      go_enter Try.func5, Try.ntmps5
      go_wp2_with fail
      refine (szAffix_any f n w s a 1048576 _ hn hw hs ha (by omega) (by omega)).mono ?_
      rw [HR.out]
      rintro e w1 ⟨rfl, hb1⟩
      have p1 := Shh.mk ((Blk.made W 32 _).kept hb1 (by simp))
      have c1 := p1.out.cells
      have hB1 := hB0.trans (hb1.mono hB0.size)
      go_wp2_with fail
      refine (toAffix_any f n w s a _).mono ?_
      rintro e w2 ⟨rfl, hb2⟩
      have p2 := Shh.mk (p1.out.kept hb2 p1.out.lt)
      clear c1
      have c2 := p2.out.cells
      have hB2 := hB1.trans (hb2.mono hB1.size)
      go_wp2_with fail
      refine (specMatchesAffix_any f n w s a word _ hn hw hs ha hwd).mono ?_
      rw [HV.out]
      rintro e w3 ⟨rfl, hb3⟩
      have p3 := Shh.mk (p2.out.kept hb3 p2.out.lt)
      clear c2
      have c3 := p3.out.cells
      have hB3 := hB2.trans (hb3.mono hB2.size)
      go_wp2_with fail
      refine (toAffix_any f n w s a _).mono ?_
      rintro e w4 ⟨rfl, hb4⟩
      have hB4 := hB3.trans (hb4.mono hB3.size)
      go_wp2_with fail
      refine (implMatchesAffix_any f n w s a word _ hn hw hs ha hwd).mono ?_
      rw [HV.out]
      rintro e w5 ⟨rfl, hb5⟩
      have hB5 := hB4.trans (hb5.mono hB4.size)
      go_wp2
      go_ret
      exact ⟨rfl, hB5⟩

set_option maxRecDepth 100000 in
theorem FnExactMatchesAffix_lifted (os : Os) (started : os.Started) (H : Type) (enc : TypeId × Value → H) :
    ReturnsInHanded {} Try.checked os 5 .any (Rows.fnExactMatchesAffixSpec.pre6 enc Try.prog Try.f5 Rows.fnExactMatchesAffixRow.domain false) (Rows.fnExactMatchesAffixSpec.post enc Try.prog Try.f5 false true false false) := by
  refine returnsInHanded_of_change (C := Try.checked) prog_own started (by kernel_rfl) Try.func5
    (ChangeSpec.witness6 (enc := enc) (C := Try.checked) false ⟨#[], #[.agg #[.string ByteArray.empty, .bool false, .string ByteArray.empty, .string ByteArray.empty, .string ByteArray.empty], .string ByteArray.empty], []⟩ 8 (by kernel_rfl) (by kernel_rfl) (by kernel_rfl) (by kernel_rfl)) ?_
  intro W base args ds gs before hval0 hW hcnd _
  have hval : ∀ (j : Nat) t v, Try.f5.params[j]? = some t → args[j]? = some v → Value.okWide Try.prog W .any base t v := hval0
  have hW' := hW
  obtain ⟨p, q, hA0, hV, rfl, hfz, hnd⟩ := hW
  have hA : DataW.TrodAll enc Try.prog W 0 (fun _ => true) true Try.f5.params.toList args.toList ds p := hA0
  rw [Try.params5] at hA hval
  obtain ⟨v0, vs0, d0, ds0, p0, q0, hargs, rfl, rfl, h0, r0⟩ := trodAll_cons hA
  obtain ⟨v1, vs1, d1, ds1, p1, q1, rfl, rfl, rfl, h1, r1⟩ := trodAll_cons r0
  obtain ⟨rfl, rfl, rfl⟩ := trodAll_nil r1
  obtain rfl : args = #[v0, v1] := by cases args; simp_all
  obtain ⟨rfl, rfl⟩ := trodVars_none hV
  have k0 := h0
  have lt0 : ∀ x ∈ p0, x.block < W.heap.size := by obtain ⟨m, hm⟩ := k0; exact DataW.trod_lt m _ _ _ hm
  obtain ⟨c00, c01, c02, c03, c04, y00, y01, y02, y03, y04, n0, rfl, rfl, rfl, f00, f01, f02, f03, f04⟩ := open_agg5 Try.underlying32 (by kernel_rfl) (by kernel_rfl) (hval 0 32 v0 rfl rfl) h0
  obtain ⟨N0, rfl, _, wN0⟩ := string_cell Try.underlying9 f00
  obtain ⟨W0, rfl, _, wW0⟩ := string_cell Try.underlying9 f02
  obtain ⟨S0, rfl, _, wS0⟩ := string_cell Try.underlying9 f03
  obtain ⟨A0, rfl, _, wA0⟩ := string_cell Try.underlying9 f04
  obtain ⟨F0, rfl, _⟩ := bool_cell Try.underlying4 f01
  have k1 := h1
  have lt1 : ∀ x ∈ p1, x.block < W.heap.size := by obtain ⟨m, hm⟩ := k1; exact DataW.trod_lt m _ _ _ hm
  obtain ⟨a1, rfl, rfl, rfl, w1⟩ := open_string Try.underlying9 (hval 1 9 v1 rfl rfl) h1
  clear hA0 hval0
  refine (FnExactMatchesAffix_walk W F0 N0 W0 S0 A0 wN0 wW0 wS0 wA0 a1 w1).mono fun e W' ⟨he, bel⟩ => ?_
  subst he
  exact ⟨_, rfl, _, _, _, [], _, [], hW', trodAll_mk1 (shut_bool Try.underlying4 _), (trodAll_cons_mk (Below.trod prog_laid (by kernel_rfl) (of_decide_eq_true (by kernel_rfl)) k0 bel lt0) (trodAll_cons_mk (Below.trod prog_laid (by kernel_rfl) (of_decide_eq_true (by kernel_rfl)) k1 bel lt1) trodAll_mk0)), rfl, bel.frame _, fun h => by cases h⟩

theorem FnExactMatchesAffix_holds : Rows.FnExactMatchesAffixSaid :=
  OpenClaim.holds_of_wide 5 Try.f5 rfl rfl rfl rfl rfl rfl rfl ⟨rfl, rfl, rfl, rfl, rfl⟩ rfl rfl rfl rfl rfl (by kernel_rfl) Try.func5 (by kernel_rfl)
    (of_decide_eq_true (by kernel_rfl)) (by unfold Func.isWrapper; rw [if_neg (of_decide_eq_false (by kernel_rfl))]; exact ⟨rfl, rfl⟩)
    (fun os started H enc _ => FnExactMatchesAffix_lifted os started H enc)
#print axioms FnExactMatchesAffix_holds
end Go.Proofs.Ytpdphimlpeiifaa
