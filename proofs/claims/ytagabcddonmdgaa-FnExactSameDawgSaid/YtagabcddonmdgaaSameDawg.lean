/-
  The law of SameDawg is true of every two automata, valid or not: the program says of them what the model says, and changes nothing.
-/
import Derived.Test.YtagabcddonmdgaaNG
import Derived.Test.YtagabcddonmdgaaK6
import Derived.Deep.RegionHeld3
namespace Go.Proofs.Ytagabcddonmdgaa
open Go.ChangeShapes Go.WideShapes Go.ChangeAt Go.RowKit Go.Joins Go.Deep
open Go.ChangeMaps (open_string shut_string)

theorem specSameD_on {u v : Value} {us vs : List Nod} {t : Bool} (h : sameDs us vs = t) (w0 W : World) (hb : Below w0.heap.size w0 W) (hx : Nds W u us) (hy : Nds W v vs) :
    Calls Try.prog 17 #[.agg #[u], .agg #[v]] W fun e w' => e = .returned (.bool t) ∧ Below w0.heap.size w0 w' :=
  (specSameDawg_any W hx hy h).mono fun _ _ ⟨h1, h2⟩ => ⟨h1, hb.trans (h2.mono hb.size)⟩

set_option maxRecDepth 100000 in
set_option maxHeartbeats 2000000 in
theorem FnExactSameDawg_walk (W : World) (us : List Nod) (u : Value) (hu : Nds W u us) (hz : ∀ x ∈ us, x.ls.size ≤ maxLen)
    (vs : List Nod) (v : Value) (hv : Nds W v vs) (hy : ∀ x ∈ vs, x.ls.size ≤ maxLen) :
    Calls Try.prog 5 #[.agg #[u], .agg #[v]] W fun e w' => e = .returned (.bool true) ∧ Below W.heap.size W w' := by
  have hB0 := ((Below.refl W.heap.size W).alloc (Nat.le_refl _) (.cells #[u] 40)).alloc (by simp) (.cells #[v] 40)
  have HU := Shh.mk hu
  have HV := Shh.mk hv
  have p0 := (Blk.made W 40 #[u]).alloc (.cells #[v] 40)
  have p1 := Blk.made (W.alloc (.cells #[u] 40)) 40 #[v]
  rw [World.size_alloc] at p1
  obtain ⟨aa, ac, rfl, -⟩ := hu
  obtain ⟨ba, bc, rfl, -⟩ := hv
  have P0 := Shh.mk p0
  have P1 := Shh.mk p1
  clear p0 p1
  by_cases hsz : (1048576 : Int) < ((nodsW us : Nat) : Int)
  · have HS := hid (szN_no hsz)
    clear hsz
    go_enter Try.func5, Try.ntmps5
    go_wp2_with fail
    refine (szDawg_any 1048576 _ (HU.out.below hB0) hz (by omega) (by omega)).mono ?_
    rw [HS.out]
    rintro e w1 ⟨rfl, hb1⟩
    go_wp2
    go_ret
    exact ⟨rfl, hB0.trans (hb1.mono hB0.size)⟩
  · have HS := hid (szN_yes hsz)
    have hn : SmallD us := smallD_of (by omega)
    have hge : ¬ (1048576 : Int) - ((nodsW us : Nat) : Int) < 0 := by omega
    by_cases hsz2 : (1048576 : Int) - ((nodsW us : Nat) : Int) < ((nodsW vs : Nat) : Int)
    · have HS2 := hid (szN_no hsz2)
      clear hsz2
      go_enter Try.func5, Try.ntmps5
      go_wp2_with fail
      refine (szDawg_any 1048576 _ (HU.out.below hB0) hz (by omega) (by omega)).mono ?_
      rw [HS.out]
      rintro e w1 ⟨rfl, hb1⟩
      have hB1 := hB0.trans (hb1.mono hB0.size)
      have c1 := (P1.out.kept hb1 P1.out.lt).cells
      go_wp2_with fail
      refine (szDawg_any _ _ (HV.out.below hB1) hy (by omega) (by omega)).mono ?_
      rw [HS2.out]
      rintro e w2 ⟨rfl, hb2⟩
      go_wp2
      go_ret
      exact ⟨rfl, hB1.trans (hb2.mono hB1.size)⟩
    · have HS2 := hid (szN_yes hsz2)
      have hn2 : SmallD vs := smallD_of (by omega)
      have hge2 : ¬ (1048576 : Int) - ((nodsW us : Nat) : Int) - ((nodsW vs : Nat) : Int) < 0 := by omega
      obtain ⟨t, htt⟩ : ∃ t, sameDs us vs = t := ⟨_, rfl⟩
      have HT := Shh.mk htt
      have SM := Shh.mk hn
      have SM2 := Shh.mk hn2
      clear hsz hsz2 htt hn hn2
      go_enter Try.func5, Try.ntmps5
      go_wp2_with fail
      refine (szDawg_any 1048576 _ (HU.out.below hB0) hz (by omega) (by omega)).mono ?_
      rw [HS.out]
      rintro e w1 ⟨rfl, hb1⟩
      have hB1 := hB0.trans (hb1.mono hB0.size)
      have q1 := P1.out.kept hb1 P1.out.lt
      have q0 := P0.out.kept hb1 P0.out.lt
      have c1 := q1.cells
      go_wp2_with fail
      refine (szDawg_any _ _ (HV.out.below hB1) hy (by omega) (by omega)).mono ?_
      rw [HS2.out]
      rintro e w2 ⟨rfl, hb2⟩
      have hB2 := hB1.trans (hb2.mono hB1.size)
      have Q1 := Shh.mk (q1.kept hb2 q1.lt)
      have Q0 := Shh.mk (q0.kept hb2 q0.lt)
      have HB2 := Shh.mk hB2
      have GA := Shh.mk (HU.out.below hB2)
      have GB := Shh.mk (HV.out.below hB2)
      clear c1 q1 q0 hb1 hb2 hB0 hB1 hB2
      have c0 := Q0.out.cells
      have c1 := Q1.out.cells
      go_wp2
      have HK := Shh.mk (fun w' (hb : Below w2.heap.size w2 w') => twoDaw Q0.out Q1.out hb)
      go_region_held3 (fun w' => w'.cell? ⟨W.heap.size, 0, none⟩ = some (.slice aa us.length ac) ∧ w'.cell? ⟨W.heap.size + 1, 0, none⟩ = some (.slice ba vs.length bc))
        (exact HK.out _ (by first | assumption | exact (Below.refl _ _).drew))
        (first
          | (go_at_call 18; with_reducible refine (toD_on w2 _ (by first | assumption | exact (Below.refl _ _).drew) GA.out SM.out).mono ?_; rintro e w3 ⟨a3, s3, rfl, hg3, hb3, hc3⟩)
          | (go_at_call 18; with_reducible refine (toD_on w2 _ (by first | assumption | exact (Below.refl _ _).drew) GB.out SM2.out).mono ?_; rintro e w4 ⟨a4, s4, rfl, hg4, hb4, hc4⟩)
          | (go_at_call 17; refine (specSameD_on HT.out w2 _ (by assumption) (by first | exact hg3 | exact hg3.below hc4) (by first | exact hg4 | exact hg4.below hc3)).mono ?_; rintro e w5 ⟨rfl, hb5⟩))
      all_goals
        have GA5 := GA.out.below hb5
        have HB5 := Shh.mk (HB2.out.trans (hb5.mono HB2.out.size))
        have GB5 := GB.out.below hb5
        have R0 := Q0.out.kept hb5 Q0.out.lt
        have R1 := Q1.out.kept hb5 Q1.out.lt
        clear HK c0 c1
        have c0 := R0.cells
        have c1 := R1.cells
        go_wp2_with fail
        refine (toDawgL_any _ GA5 SM.out).mono ?_
        rintro e w6 ⟨a6, s6, rfl, hg6, hb6⟩
        have HB6 := Shh.mk (HB5.out.trans (hb6.mono HB5.out.size))
        have X0 := Shh.mk (Blk.made w6 45 #[.slice a6 us.length s6])
        have S0 := Shh.mk ((R0.kept hb6 R0.lt).alloc (.cells #[.slice a6 us.length s6] 45))
        have S1 := Shh.mk ((R1.kept hb6 R1.lt).alloc (.cells #[.slice a6 us.length s6] 45))
        have GA6 := Shh.mk ((GA5.below hb6).alloc (.cells #[.slice a6 us.length s6] 45))
        have GB6 := Shh.mk ((GB5.below hb6).alloc (.cells #[.slice a6 us.length s6] 45))
        have HB6' := Shh.mk (HB6.out.alloc HB6.out.size (.cells #[.slice a6 us.length s6] 45))
        have XG6 := Shh.mk (hg6.alloc (.cells #[.slice a6 us.length s6] 45))
        clear c0 c1 GA5 GB5 R0 R1 hg6 hb6
        have c1 := S1.out.cells
        go_wp2_with fail
        refine (toDawgL_any _ GB6.out SM2.out).mono ?_
        rintro e w7 ⟨a7, s7, rfl, hg7, hb7⟩
        have HB7 := Shh.mk ((HB6'.out.trans (hb7.mono HB6'.out.size)))
        have Y0 := Shh.mk (Blk.made w7 45 #[.slice a7 vs.length s7])
        have X1 := Shh.mk ((X0.out.kept hb7 X0.out.lt).alloc (.cells #[.slice a7 vs.length s7] 45))
        have T0 := Shh.mk ((S0.out.kept hb7 S0.out.lt).alloc (.cells #[.slice a7 vs.length s7] 45))
        have T1 := Shh.mk ((S1.out.kept hb7 S1.out.lt).alloc (.cells #[.slice a7 vs.length s7] 45))
        have GA7 := Shh.mk ((GA6.out.below hb7).alloc (.cells #[.slice a7 vs.length s7] 45))
        have GB7 := Shh.mk ((GB6.out.below hb7).alloc (.cells #[.slice a7 vs.length s7] 45))
        have HB7' := Shh.mk (HB7.out.alloc HB7.out.size (.cells #[.slice a7 vs.length s7] 45))
        have XG7 := Shh.mk ((XG6.out.below hb7).alloc (.cells #[.slice a7 vs.length s7] 45))
        have YG7 := Shh.mk (hg7.alloc (.cells #[.slice a7 vs.length s7] 45))
        clear c1 hg7 hb7 S0 S1 X0 GA6 GB6
        have cx := X1.out.cells
        go_wp2_with fail
        refine (implSameDawg_any _ XG7.out YG7.out HT.out).mono ?_
        rintro e w8 ⟨rfl, hb8⟩
        have HB8 := Shh.mk (HB7'.out.trans (hb8.mono HB7'.out.size))
        have X8 := Shh.mk (X1.out.kept hb8 X1.out.lt)
        have Y8 := Shh.mk (Y0.out.kept hb8 Y0.out.lt)
        have U0 := Shh.mk (T0.out.kept hb8 T0.out.lt)
        have U1 := Shh.mk (T1.out.kept hb8 T1.out.lt)
        have GA8 := Shh.mk (GA7.out.below hb8)
        have GB8 := Shh.mk (GB7.out.below hb8)
        have XG8 := Shh.mk (XG7.out.below hb8)
        have YG8 := Shh.mk (YG7.out.below hb8)
        clear cx hb8 X1 Y0 T0 T1 GA7 GB7 XG7 YG7
        go_wp2
        have HK := Shh.mk (fun w' (hb : Below w8.heap.size w8 w') => twoDaw X8.out U0.out hb)
        go_region_held3 (fun w' => w'.cell? ⟨w6.heap.size, 0, none⟩ = some (.slice a6 us.length s6) ∧ w'.cell? ⟨W.heap.size, 0, none⟩ = some (.slice aa us.length ac))
          (exact HK.out _ (by first | assumption | exact (Below.refl _ _).drew))
          (first
            | (go_at_call 18; with_reducible refine (toD_on w8 _ (by first | assumption | exact (Below.refl _ _).drew) GA8.out SM.out).mono ?_; rintro e w9 ⟨a9, s9, rfl, hg9, hb9, hc9⟩)
            | (go_at_call 20; refine (eqD_on w8 _ (by assumption) (XG8.out.below (by assumption)) hg9).mono ?_; rintro e w10 ⟨rfl, hb10⟩))
        all_goals
          clear HK
          have GB9 := Shh.mk (GB8.out.below hb10)
          have YG9 := Shh.mk (YG8.out.below hb10)
          have HB9 := Shh.mk (HB8.out.trans (hb10.mono HB8.out.size))
          have Y9 := Shh.mk (Y8.out.kept hb10 Y8.out.lt)
          have U9 := Shh.mk (U1.out.kept hb10 U1.out.lt)
          go_wp2
          have HK := Shh.mk (fun w' (hb : Below w10.heap.size w10 w') => twoDaw Y9.out U9.out hb)
          go_region_held3 (fun w' => w'.cell? ⟨w7.heap.size, 0, none⟩ = some (.slice a7 vs.length s7) ∧ w'.cell? ⟨W.heap.size + 1, 0, none⟩ = some (.slice ba vs.length bc))
            (exact HK.out _ (by first | assumption | exact (Below.refl _ _).drew))
            (first
              | (go_at_call 18; with_reducible refine (toD_on w10 _ (by first | assumption | exact (Below.refl _ _).drew) GB9.out SM2.out).mono ?_; rintro e w11 ⟨a11, s11, rfl, hg11, hb11, hc11⟩)
              | (go_at_call 20; refine (eqD_on w10 _ (by assumption) (YG9.out.below (by assumption)) hg11).mono ?_; rintro e w12 ⟨rfl, hb12⟩))
          all_goals
            clear HK
            go_wp2
            go_ret
            exact ⟨rfl, HB9.out.trans (hb12.mono HB9.out.size)⟩

set_option maxRecDepth 100000 in
theorem FnExactSameDawg_lifted (os : Os) (started : os.Started) (H : Type) (enc : TypeId × Value → H) :
    ReturnsInHanded {} Try.checked os 5 .any (Rows.fnExactSameDawgSpec.pre6 enc Try.prog Try.f5 Rows.fnExactSameDawgRow.domain false) (Rows.fnExactSameDawgSpec.post enc Try.prog Try.f5 false true false false) := by
  refine returnsInHanded_of_change (C := Try.checked) prog_own started (by kernel_rfl) Try.func5
    (ChangeSpec.witness6 (enc := enc) (C := Try.checked) false ⟨#[], #[.agg #[.slice none 0 0], .agg #[.slice none 0 0]], []⟩ 8 (by kernel_rfl) (by kernel_rfl) (by kernel_rfl) (by kernel_rfl)) ?_
  intro W base args ds gs before hval0 hW hcnd _
  have hval : ∀ (j : Nat) t v, Try.f5.params[j]? = some t → args[j]? = some v → Value.okWide Try.prog W .any base t v := hval0
  have hW' := hW
  obtain ⟨p, q, hA0, hV, rfl, hfz, hnd⟩ := hW
  have hA : DataW.TrodAll enc Try.prog W 0 (fun _ => true) true Try.f5.params.toList args.toList ds p := hA0
  rw [Try.params5] at hA hval
  obtain ⟨v0, vs0, d0, ds0, p0, q0, hargs, rfl, rfl, h0, r0⟩ := trodAll_cons hA
  obtain ⟨v1, vs1, d1, ds1, p1, q1, rfl, rfl, rfl, h1, r1⟩ := trodAll_cons r0
  obtain ⟨rfl, rfl, rfl⟩ := trodAll_nil r1
  obtain rfl : args = #[v0, v1] := by cases args; simp_all
  obtain ⟨rfl, rfl⟩ := trodVars_none hV
  have k0 := h0
  have lt0 : ∀ x ∈ p0, x.block < W.heap.size := by obtain ⟨m, hm⟩ := k0; exact DataW.trod_lt m _ _ _ hm
  obtain ⟨c00, y00, n0, rfl, rfl, rfl, f00⟩ := open_agg1 Try.underlying40 (by kernel_rfl) (by kernel_rfl) (hval 0 40 v0 rfl rfl) h0
  obtain ⟨ss0, hs0, zs0⟩ := nods_cell Try.underlying38 Try.underlying110 (by kernel_rfl) (by kernel_rfl) Try.underlying4 Try.underlying9 Try.underlying74 Try.underlying2 (by kernel_rfl) f00
  have k1 := h1
  have lt1 : ∀ x ∈ p1, x.block < W.heap.size := by obtain ⟨m, hm⟩ := k1; exact DataW.trod_lt m _ _ _ hm
  obtain ⟨c10, y10, n1, rfl, rfl, rfl, f10⟩ := open_agg1 Try.underlying40 (by kernel_rfl) (by kernel_rfl) (hval 1 40 v1 rfl rfl) h1
  obtain ⟨ss1, hs1, zs1⟩ := nods_cell Try.underlying38 Try.underlying110 (by kernel_rfl) (by kernel_rfl) Try.underlying4 Try.underlying9 Try.underlying74 Try.underlying2 (by kernel_rfl) f10
  clear hA0 hval0
  refine (FnExactSameDawg_walk W ss0 _ hs0 zs0 ss1 _ hs1 zs1).mono fun e W' ⟨he, bel⟩ => ?_
  subst he
  exact ⟨_, rfl, _, _, _, [], _, [], hW', trodAll_mk1 (shut_bool Try.underlying4 _), (trodAll_cons_mk (Below.trod prog_laid (by kernel_rfl) (of_decide_eq_true (by kernel_rfl)) k0 bel lt0) (trodAll_cons_mk (Below.trod prog_laid (by kernel_rfl) (of_decide_eq_true (by kernel_rfl)) k1 bel lt1) trodAll_mk0)), rfl, bel.frame _, fun h => by cases h⟩

theorem FnExactSameDawg_holds : Rows.FnExactSameDawgSaid :=
  OpenClaim.holds_of_wide 5 Try.f5 rfl rfl rfl rfl rfl rfl rfl ⟨rfl, rfl, rfl, rfl, rfl⟩ rfl rfl rfl rfl rfl (by kernel_rfl) Try.func5 (by kernel_rfl)
    (of_decide_eq_true (by kernel_rfl)) (by unfold Func.isWrapper; rw [if_neg (of_decide_eq_false (by kernel_rfl))]; exact ⟨rfl, rfl⟩)
    (fun os started H enc _ => FnExactSameDawg_lifted os started H enc)
#print axioms FnExactSameDawg_holds
end Go.Proofs.Ytagabcddonmdgaa
