/-
  The law of StandardNames: both name the same two tile sets, in memory of their own.
-/
import Derived.Test.YtbfilebkmpcepaaS1
namespace Go.Proofs.Ytbfilebkmpcepaa
open Go.ChangeShapes Go.WideShapes Go.ChangeAt Go.RowKit Go.Joins
open Go.ChangeMaps (open_string shut_string)

theorem own_block {B n : Nat} {e : TypeId} {w : World} {v : Value} {xs : List Value} (h : w.ownsRow B e 1 v n xs) : ∀ k, v.ownBlock = some k → B ≤ k := by
  intro k hk
  rcases h.2 with ⟨rfl, _⟩ | ⟨g, cap, cur, rfl, hB, _⟩
  · simp [Value.ownBlock] at hk
  · simp [Value.ownBlock] at hk
    omega

/-- The names of the tile sets that are given. -/
def stdNames : List ByteArray := [⟨#[101, 110, 103, 108, 105, 115, 104]⟩, ⟨#[115, 109, 97, 108, 108]⟩]
theorem std_own (w : World) : OwnS w.heap.size (w.alloc (.cells #[.string ⟨#[101, 110, 103, 108, 105, 115, 104]⟩, .string ⟨#[115, 109, 97, 108, 108]⟩] 9)) (.slice (some ⟨w.heap.size, 0, none⟩) 2 2) stdNames :=
  World.ownsRow_lit w _ 2 (Nat.le_refl _) (by unfold maxLen; omega) rfl

set_option maxHeartbeats 400000 in
theorem specNames_any (w : World) : Calls Try.prog 31 #[] w fun e w' => ∃ v, e = .returned v ∧ OwnS w.heap.size w' v stdNames ∧ Below w.heap.size w w' := by
  go_enter Try.func31, Try.ntmps31
  go_wp2
  go_ret
  exact ⟨_, rfl, std_own w, (Below.refl _ _).alloc (Nat.le_refl _) _⟩
set_option maxHeartbeats 400000 in
theorem implNames_any (w : World) : Calls Try.prog 32 #[] w fun e w' => ∃ v, e = .returned v ∧ OwnS w.heap.size w' v stdNames ∧ Below w.heap.size w w' := by
  go_enter Try.func32, Try.ntmps32
  go_wp2
  go_ret
  exact ⟨_, rfl, std_own w, (Below.refl _ _).alloc (Nat.le_refl _) _⟩

set_option maxHeartbeats 2000000 in
theorem FnExactStandardNames_walk (w : World) : Calls Try.prog 8 #[] w fun e w' => e = .returned (.bool true) ∧ Below w.heap.size w w' := by
  go_enter Try.func8, Try.ntmps8
  go_wp2_with fail
  refine (specNames_any w).mono ?_
  rintro e w1 ⟨v0, rfl, o0, hb1⟩
  have s0 := o0.strs
  go_wp2_with fail
  refine (implNames_any w1).mono ?_
  rintro e w2 ⟨v1, rfl, o1, hb2⟩
  have hA2 : Below w1.heap.size w1 w2 := hb2
  go_wp2_with fail
  refine (eqStringS_same w2 o1.strs (s0.below hA2)).mono ?_
  rintro e w3 ⟨rfl, n3, rfl⟩
  have hA3 := below_drewN hA2 n3
  have o3 : OwnS w1.heap.size (w2.drewN n3) v1 stdNames := o1
  go_wp2_with fail
  refine (markStringS_any 1 _ o3 (by omega) (by simp [stdNames])).mono ?_
  rintro e w4 ⟨rfl, o4, hg4⟩
  have hA4 := hA3.grown hg4 hA3.size (own_block o3)
  have s4 : Strs w4 v1 (marks 1 2) := OwnS.strs o4
  go_wp2_with fail
  refine (heldStringS_any 1 2 w4 s4 (by omega) (by omega)).mono ?_
  rintro e w5 ⟨rfl, hb5⟩
  have hA5 := hA4.trans (hb5.mono hA4.size)
  go_wp2_with fail
  refine (implNames_any w5).mono ?_
  rintro e w6 ⟨v2, rfl, o6, hb6⟩
  have hA6 := hA5.trans (hb6.mono hA5.size)
  go_wp2_with fail
  refine (eqStringS_same w6 o6.strs (s0.below hA6)).mono ?_
  rintro e w7 ⟨rfl, n7, rfl⟩
  have hA7 := below_drewN hA6 n7
  go_wp2_with fail
  refine (heldStringS_any 1 2 _ (s4.below (below_drewN (hb5.trans (hb6.mono hb5.size)) n7)) (by omega) (by omega)).mono ?_
  rintro e w8 ⟨rfl, hb8⟩
  have hA8 := hA7.trans (hb8.mono hA7.size)
  go_wp2
  go_ret
  exact ⟨rfl, hb1.trans (hA8.mono hb1.size)⟩

set_option maxRecDepth 100000 in
theorem FnExactStandardNames_lifted (os : Os) (started : os.Started) (H : Type) (enc : TypeId × Value → H) :
    ReturnsInHanded {} Try.checked os 8 .any (Rows.fnExactStandardNamesSpec.pre6 enc Try.prog Try.f8 Rows.fnExactStandardNamesRow.domain false) (Rows.fnExactStandardNamesSpec.post enc Try.prog Try.f8 false true false false) := by
  refine returnsInHanded_of_change (C := Try.checked) prog_own started (by kernel_rfl) Try.func8
    (ChangeSpec.witness6 (enc := enc) (C := Try.checked) false ⟨#[], #[], []⟩ 8 (by kernel_rfl) (by kernel_rfl) (by kernel_rfl) (by kernel_rfl)) ?_
  intro W base args ds gs before hval0 hW hcnd _
  have hval : ∀ (j : Nat) t v, Try.f8.params[j]? = some t → args[j]? = some v → Value.okWide Try.prog W .any base t v := hval0
  have hW' := hW
  obtain ⟨p, q, hA0, hV, rfl, hfz, hnd⟩ := hW
  have hA : DataW.TrodAll enc Try.prog W 0 (fun _ => true) true Try.f8.params.toList args.toList ds p := hA0
  rw [Try.params8] at hA hval
  obtain ⟨hargs, rfl, rfl⟩ := trodAll_nil hA
  obtain rfl : args = #[] := by cases args; simp_all
  obtain ⟨rfl, rfl⟩ := trodVars_none hV
  clear hA0 hval0
  refine (FnExactStandardNames_walk W ).mono fun e W' ⟨he, bel⟩ => ?_
  subst he
  exact ⟨_, rfl, _, _, _, [], _, [], hW', trodAll_mk1 (shut_bool Try.underlying4 _), trodAll_mk0, rfl, bel.frame _, fun h => by cases h⟩

theorem FnExactStandardNames_holds : Rows.FnExactStandardNamesSaid :=
  OpenClaim.holds_of_wide 8 Try.f8 rfl rfl rfl rfl rfl rfl rfl ⟨rfl, rfl, rfl, rfl, rfl⟩ rfl rfl rfl rfl rfl (by kernel_rfl) Try.func8 (by kernel_rfl)
    (of_decide_eq_true (by kernel_rfl)) (by unfold Func.isWrapper; rw [if_neg (of_decide_eq_false (by kernel_rfl))]; exact ⟨rfl, rfl⟩)
    (fun os started H enc _ => FnExactStandardNames_lifted os started H enc)
#print axioms FnExactStandardNames_holds
end Go.Proofs.Ytbfilebkmpcepaa
