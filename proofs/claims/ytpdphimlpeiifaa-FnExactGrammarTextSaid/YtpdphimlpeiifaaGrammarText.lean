/-
  The law of GrammarText is true of every grammar, valid or not: the program's text of it is the model's, and nothing is changed.
-/
import Derived.Test.YtpdphimlpeiifaaHG
import Derived.Test.YtpdphimlpeiifaaHN
namespace Go.Proofs.Ytpdphimlpeiifaa
open Go.ChangeShapes Go.WideShapes Go.ChangeAt Go.RowKit Go.Joins Go.Deep
open Go.ChangeMaps (open_string shut_string)

set_option maxRecDepth 100000 in
set_option maxHeartbeats 2000000 in
theorem FnExactGrammarText_walk (W : World) (xs : List Aff) (ss : List Stm) (va vs : Value) (hg : Gram W va vs xs ss) (hx : ∀ x ∈ xs, AffFine x) (hs : ∀ x ∈ ss, StmFine x) :
    Calls Try.prog 12 #[.agg #[va, vs]] W fun e w' => e = .returned (.bool true) ∧ Below W.heap.size W w' := by
  have hB0 := (Below.refl W.heap.size W).alloc (Nat.le_refl _) (.cells #[va, vs] 40)
  have HG := Shh.mk hg
  have P0 := Shh.mk (Blk.made W 40 #[va, vs])
  obtain ⟨⟨aa, ac, rfl, -⟩, ⟨sa, sc, rfl, -⟩⟩ := hg
  by_cases hsz : (1048576 : Int) < ((gramW xs ss : Nat) : Int)
  · have HS := hid (szN_no hsz)
    clear hsz
    go_enter Try.func12, Try.ntmps12
    go_wp2_with fail
    refine (szGrammar_any xs ss 1048576 _ (HG.out.below hB0).affs (HG.out.below hB0).stms hx hs (by omega) (by omega)).mono ?_
    rw [HS.out]
    rintro e w1 ⟨rfl, hb1⟩
    go_wp2
    go_ret
    exact ⟨rfl, hB0.trans (hb1.mono hB0.size)⟩
  · have HS := hid (szN_yes hsz)
    have hsm : Small xs ss := small_of (by omega)
    have hge : ¬ (1048576 : Int) - ((gramW xs ss : Nat) : Int) < 0 := by omega
    obtain ⟨X, hX⟩ : ∃ X, txt (gText xs ss) = X := ⟨_, rfl⟩
    have HX := Shh.mk hX
    have HZ := Shh.mk (show gramW xs ss ≤ 1048576 by omega)
    have hXX : (X.data.toList != X.data.toList) = false := by simp
    have SM := Shh.mk hsm
    clear hsz hX hsm
    go_enter Try.func12, Try.ntmps12
    go_wp2_with fail
    refine (szGrammar_any xs ss 1048576 _ (HG.out.below hB0).affs (HG.out.below hB0).stms hx hs (by omega) (by omega)).mono ?_
    rw [HS.out]
    rintro e w1 ⟨rfl, hb1⟩
    have hB1 := hB0.trans (hb1.mono hB0.size)
    have Q1 := Shh.mk (P0.out.kept hb1 P0.out.lt)
    have c1 := Q1.out.cells
    go_wp2_with fail
    refine (toGrammar_any _ (HG.out.below hB1) SM.out).mono ?_
    rintro e w2 ⟨a2, s2, rfl, hg2, hb2⟩
    have hB2 := hB1.trans (hb2.mono hB1.size)
    have Q2 := Shh.mk (Q1.out.kept hb2 Q1.out.lt)
    clear c1 hge
    go_wp2_with fail
    refine (specGrammarText_any _ hg2 hx hs HZ.out).mono ?_
    rw [HX.out]
    rintro e w3 ⟨rfl, hb3⟩
    have hB3 := hB2.trans (hb3.mono hB2.size)
    have Q3 := Shh.mk (Q2.out.kept hb3 Q2.out.lt)
    have c3 := Q3.out.cells
    go_wp2_with fail
    refine (toGrammar_any _ (HG.out.below hB3) SM.out).mono ?_
    rintro e w4 ⟨a4, s4, rfl, hg4, hb4⟩
    have hB4 := hB3.trans (hb4.mono hB3.size)
    have X4 := Shh.mk (Blk.made w4 46 #[.slice a4 xs.length xs.length, .slice s4 ss.length ss.length])
    have Q4 := Shh.mk ((Q3.out.kept hb4 Q3.out.lt).alloc (.cells #[.slice a4 xs.length xs.length, .slice s4 ss.length ss.length] 46))
    have G4 := Shh.mk (hg4.alloc (.cells #[.slice a4 xs.length xs.length, .slice s4 ss.length ss.length] 46))
    have hB4' := hB4.alloc hB4.size (.cells #[.slice a4 xs.length xs.length, .slice s4 ss.length ss.length] 46)
    clear c3 hg4 hg2 hb4
    go_wp2_with fail
    refine (implGrammarText_any _ G4.out hx hs HZ.out).mono ?_
    rw [HX.out]
    rintro e w5 ⟨rfl, hb5⟩
    have HB5 := Shh.mk (hB4'.trans (hb5.mono hB4'.size))
    have X5 := Shh.mk (X4.out.kept hb5 X4.out.lt)
    have Q5 := Shh.mk (Q4.out.kept hb5 Q4.out.lt)
    have G5 := Shh.mk (G4.out.below hb5)
    have HGW := Shh.mk (HG.out.below HB5.out)
    clear hb1 hb2 hb3 hb5 hB0 hB1 hB2 hB3 hB4 hB4'
    go_wp2
    have HK := Shh.mk (fun w' (hb : Below w5.heap.size w5 w') => twoGrams X5.out Q5.out hb)
    unfold TwoGrams at HK
    go_region_held3 (fun w' => (w'.cell? ⟨w4.heap.size, 0, none⟩ = some (.slice a4 xs.length xs.length) ∧ w'.cell? ⟨w4.heap.size, 1, none⟩ = some (.slice s4 ss.length ss.length)) ∧
        (w'.cell? ⟨W.heap.size, 0, none⟩ = some (.slice aa xs.length ac) ∧ w'.cell? ⟨W.heap.size, 1, none⟩ = some (.slice sa ss.length sc)))
      (exact HK.out _ (by first | assumption | exact (Below.refl _ _).drew))
      (first
        | (go_at_call 28; with_reducible refine (toG_on w5 _ (by first | assumption | exact (Below.refl _ _).drew) HGW.out SM.out).mono ?_; rintro e w6 ⟨a6, s6, rfl, hg6, hb6, hc6⟩)
        | (go_at_call 30; refine (eqG_on w5 _ (by assumption) (G5.out.below (by assumption)) hg6).mono ?_; rintro e w7 ⟨rfl, hb7⟩))
    all_goals
      clear HK
      go_wp2
      go_ret
      exact ⟨rfl, HB5.out.trans (hb7.mono HB5.out.size)⟩

set_option maxRecDepth 100000 in
theorem FnExactGrammarText_lifted (os : Os) (started : os.Started) (H : Type) (enc : TypeId × Value → H) :
    ReturnsInHanded {} Try.checked os 12 .any (Rows.fnExactGrammarTextSpec.pre6 enc Try.prog Try.f12 Rows.fnExactGrammarTextRow.domain false) (Rows.fnExactGrammarTextSpec.post enc Try.prog Try.f12 false true false false) := by
  refine returnsInHanded_of_change (C := Try.checked) prog_own started (by kernel_rfl) Try.func12
    (ChangeSpec.witness6 (enc := enc) (C := Try.checked) false ⟨#[], #[.agg #[.slice none 0 0, .slice none 0 0]], []⟩ 8 (by kernel_rfl) (by kernel_rfl) (by kernel_rfl) (by kernel_rfl)) ?_
  intro W base args ds gs before hval0 hW hcnd _
  have hval : ∀ (j : Nat) t v, Try.f12.params[j]? = some t → args[j]? = some v → Value.okWide Try.prog W .any base t v := hval0
  have hW' := hW
  obtain ⟨p, q, hA0, hV, rfl, hfz, hnd⟩ := hW
  have hA : DataW.TrodAll enc Try.prog W 0 (fun _ => true) true Try.f12.params.toList args.toList ds p := hA0
  rw [Try.params12] at hA hval
  obtain ⟨v0, vs0, d0, ds0, p0, q0, hargs, rfl, rfl, h0, r0⟩ := trodAll_cons hA
  obtain ⟨rfl, rfl, rfl⟩ := trodAll_nil r0
  obtain rfl : args = #[v0] := by cases args; simp_all
  obtain ⟨rfl, rfl⟩ := trodVars_none hV
  have k0 := h0
  have lt0 : ∀ x ∈ p0, x.block < W.heap.size := by obtain ⟨m, hm⟩ := k0; exact DataW.trod_lt m _ _ _ hm
  obtain ⟨c00, c01, y00, y01, n0, rfl, rfl, rfl, f00, f01⟩ := open_agg2 Try.underlying40 (by kernel_rfl) (by kernel_rfl) (hval 0 40 v0 rfl rfl) h0
  obtain ⟨xs0, hx0, zx0⟩ := affs_cell Try.underlying37 Try.underlying32 (by kernel_rfl) (by kernel_rfl) Try.underlying9 Try.underlying4 Try.underlying9 Try.underlying9 Try.underlying9 f00
  obtain ⟨ss0, hs0, zs0⟩ := stms_cell Try.underlying38 Try.underlying144 (by kernel_rfl) (by kernel_rfl) Try.underlying9 Try.underlying51 Try.underlying9 (by kernel_rfl) f01
  clear hA0 hval0
  refine (FnExactGrammarText_walk W xs0 ss0 _ _ ⟨hx0, hs0⟩ zx0 zs0).mono fun e W' ⟨he, bel⟩ => ?_
  subst he
  exact ⟨_, rfl, _, _, _, [], _, [], hW', trodAll_mk1 (shut_bool Try.underlying4 _), (trodAll_cons_mk (Below.trod prog_laid (by kernel_rfl) (of_decide_eq_true (by kernel_rfl)) k0 bel lt0) trodAll_mk0), rfl, bel.frame _, fun h => by cases h⟩

theorem FnExactGrammarText_holds : Rows.FnExactGrammarTextSaid :=
  OpenClaim.holds_of_wide 12 Try.f12 rfl rfl rfl rfl rfl rfl rfl ⟨rfl, rfl, rfl, rfl, rfl⟩ rfl rfl rfl rfl rfl (by kernel_rfl) Try.func12 (by kernel_rfl)
    (of_decide_eq_true (by kernel_rfl)) (by unfold Func.isWrapper; rw [if_neg (of_decide_eq_false (by kernel_rfl))]; exact ⟨rfl, rfl⟩)
    (fun os started H enc _ => FnExactGrammarText_lifted os started H enc)
#print axioms FnExactGrammarText_holds
end Go.Proofs.Ytpdphimlpeiifaa
