/-
  The law of standard boards is true at every code: a standard board looks the same from all four sides, and the program answers as the model does; the code is left as it was.
-/
import Derived.Test.YtpeobloofofnlaaBR
import Derived.Test.YtpeobloofofnlaaWQ
namespace Go.Proofs.Ytpeobloofofnlaa
open Go.ChangeShapes Go.WideShapes Go.ChangeAt Go.RowKit Go.Joins
open Go.ChangeMaps (open_string shut_string)

set_option maxHeartbeats 400000 in
theorem f6bigO_any (w : World) (v : Value) (zs : List Int) (hz : Ints .u8 w v zs) :
    Calls Try.prog 19 #[v] w fun e w' => e = .returned (.bool (decide (4096 < zs.length))) ∧ w = w' := by
  have hl := hz.len
  obtain ⟨a, cap, rfl, -⟩ := hz
  by_cases h : 4096 < zs.length
  · have h1 : (4096 : Int) < (zs.length : Int) := by omega
    have HR := ShQ.mk (decide_eq_true h)
    go_enter Try.func19, Try.ntmps19
    go_wp2
    go_ret
    exact ⟨ret_bool HR.out.symm, rfl⟩
  · have h1 : ¬ (4096 : Int) < (zs.length : Int) := by omega
    have HR := ShQ.mk (decide_eq_false h)
    go_enter Try.func19, Try.ntmps19
    go_wp2
    go_ret
    exact ⟨rfl, rfl⟩
/-- A board that lies in a block. -/
abbrev bdC (o : Bd) : Array Value := #[.int .i64 o.1, .string o.2.1, .string o.2.2]
set_option maxRecDepth 100000 in
set_option maxHeartbeats 8000000 in
theorem FnStandardBoards_walk (W : World) (v : Value) (zs : List Int) (hz : Ints .u8 W v zs) :
    Calls Try.prog 4 #[v] W fun e w' => e = .returned (.bool true) ∧ Below W.heap.size W w' := by
  have HZ := ShQ.mk hz
  have hguard := Try.eqGuardType25
  clear hz
  by_cases hlong : 4096 < zs.length
  · have HL := ShQ.mk (decide_eq_true hlong)
    clear hlong
    go_enter Try.func4, Try.ntmps4
    go_wp2_with fail
    refine (f6bigO_any W v zs HZ.out).mono ?_
    rw [HL.out]
    rintro e w1 ⟨rfl, rfl⟩
    go_wp2
    go_ret
    exact ⟨rfl, Below.refl _ _⟩
  · have HL := ShQ.mk (decide_eq_false hlong)
    have HN := ShQ.mk hlong
    clear hlong
    go_enter Try.func4, Try.ntmps4
    go_wp2_with fail
    refine (f6bigO_any W v zs HZ.out).mono ?_
    rw [HL.out]
    rintro e w1 ⟨rfl, rfl⟩
    go_wp2_with fail
    refine (drawSize_any W v zs HZ.out).mono ?_
    rintro e w1 ⟨n, hn, rfl, hB1⟩
    have HB1 := ShQ.mk hB1
    clear hB1
    obtain ⟨o, ho⟩ : ∃ o, standOut n = o := ⟨_, rfl⟩
    obtain ⟨q, hq⟩ : ∃ q, emptyOut n = q := ⟨_, rfl⟩
    have HO := ShQ.mk ho
    have HQ := ShQ.mk hq
    clear ho hq
    go_wp2_with fail
    refine (implStandardBoard_any n _).mono ?_
    rw [HO.out]
    rintro e w2 ⟨rfl, hb2⟩
    have HB2 := ShQ.mk ((HB1.out.trans (hb2.mono HB1.out.size)).alloc (by have := HB1.out.size; have := hb2.size; omega) (.cells #[.int .i64 o.1.1, .string o.1.2.1, .string o.1.2.2] 25))
    have R4 := ShQ.mk (Blk.made w2 25 #[.int .i64 o.1.1, .string o.1.2.1, .string o.1.2.2])
    clear hb2
    go_wp2_with fail
    refine (specStandardBoard_any n _).mono ?_
    rw [HO.out]
    rintro e w3 ⟨rfl, hb3⟩
    have HB3 := ShQ.mk ((HB2.out.trans (hb3.mono HB2.out.size)).alloc (by have := HB2.out.size; have := hb3.size; omega) (.cells #[.int .i64 o.1.1, .string o.1.2.1, .string o.1.2.2] 25))
    have S4 := ShQ.mk ((R4.out.kept hb3 R4.out.lt).alloc (.cells #[.int .i64 o.1.1, .string o.1.2.1, .string o.1.2.2] 25))
    have R6 := ShQ.mk (Blk.made w3 25 #[.int .i64 o.1.1, .string o.1.2.1, .string o.1.2.2])
    clear hb3 R4
    go_wp2_with fail
    refine (implEmptyBoard_any n _).mono ?_
    rw [HQ.out]
    rintro e w5 ⟨rfl, hb5⟩
    have HB5 := ShQ.mk ((HB3.out.trans (hb5.mono HB3.out.size)).alloc (by have := HB3.out.size; have := hb5.size; omega) (.cells #[.int .i64 q.1.1, .string q.1.2.1, .string q.1.2.2] 25))
    have T4 := ShQ.mk ((S4.out.kept hb5 S4.out.lt).alloc (.cells #[.int .i64 q.1.1, .string q.1.2.1, .string q.1.2.2] 25))
    have T6 := ShQ.mk ((R6.out.kept hb5 R6.out.lt).alloc (.cells #[.int .i64 q.1.1, .string q.1.2.1, .string q.1.2.2] 25))
    have R8 := ShQ.mk (Blk.made w5 25 #[.int .i64 q.1.1, .string q.1.2.1, .string q.1.2.2])
    clear hb5 S4 R6
    go_wp2_with fail
    refine (specEmptyBoard_any n _).mono ?_
    rw [HQ.out]
    rintro e w7 ⟨rfl, hb7⟩
    have HB7 := ShQ.mk ((HB5.out.trans (hb7.mono HB5.out.size)).alloc (by have := HB5.out.size; have := hb7.size; omega) (.cells #[.int .i64 q.1.1, .string q.1.2.1, .string q.1.2.2] 25))
    have U4 := ShQ.mk ((T4.out.kept hb7 T4.out.lt).alloc (.cells #[.int .i64 q.1.1, .string q.1.2.1, .string q.1.2.2] 25))
    have U6 := ShQ.mk ((T6.out.kept hb7 T6.out.lt).alloc (.cells #[.int .i64 q.1.1, .string q.1.2.1, .string q.1.2.2] 25))
    have U8 := ShQ.mk ((R8.out.kept hb7 R8.out.lt).alloc (.cells #[.int .i64 q.1.1, .string q.1.2.1, .string q.1.2.2] 25))
    clear hb7 T4 T6 R8
    have c4 := U4.out.cells
    have c6 := U6.out.cells
    have c8 := U8.out.cells
    have e1 := same_strQ o.1.2.1
    have e2 := same_strQ o.1.2.2
    have e3 := same_strQ q.1.2.1
    have e4 := same_strQ q.1.2.2
    by_cases hsz : sizB n = true
    · obtain ⟨N, rfl, h5, h15⟩ := nat_of_siz hsz
      have ho := HO.out
      have hq := HQ.out
      rw [standOut_yes hsz] at ho
      rw [emptyOut_yes hsz] at hq
      subst ho hq
      have HZ4 := ShQ.mk (show zs.length ≤ 4096 by have := HN.out; omega)
      have H5 := ShQ.mk h5
      have H15 := ShQ.mk h15
      obtain ⟨wA, hwA⟩ : ∃ wA, w7.alloc (.cells #[.int .i64 (N : Int), .string (dotsS (N * N)), .string (dotsS (N * N))] 25) = wA := ⟨_, rfl⟩
      have c10 := (Blk.made w7 25 #[.int .i64 (N : Int), .string (dotsS (N * N)), .string (dotsS (N * N))]).cells
      simp only [hwA] at HB7 U4 U6 U8 c4 c6 c8 c10
      have HZA := ShQ.mk (HZ.out.below HB7.out)
      have hN200 : (N : Int) ≤ 200 := by omega
      have hN1 : (1 : Int) ≤ (N : Int) := by omega
      have hw1 : IntKind.i64.wrap ((N : Int) - 1) = (N : Int) - 1 := IntWalk.i64_in _ (by omega)
      clear hsz HL
      go_wp2_with fail
      refine (f6roll_any wA v zs 1101 HZA.out HZ4.out).mono ?_
      rintro e w8 ⟨s0, rfl, hD8⟩
      have D8 := ShQ.mk hD8
      clear hD8 c4 c6 c8 c10 hwA
      go_wp2
      go_loopw [13, 14, 15, 16] (fun i _ _ _ wr => ∃ (j p : Nat) (s : Int), j ≤ 10 ∧ i = .int .i64 j ∧ p ≤ zs.length ∧ ShQ (DiceIs wA wr wA.heap.size v zs p s)) (fun i _ _ _ _ => 10 - (intOf i).toNat)
      case atStart => exact ⟨0, 0, s0, by omega, rfl, Nat.zero_le _, D8⟩
      case round =>
        obtain ⟨j, p, s, hj, rfl, hp, D⟩ := hrel
        by_cases hlt : j < 10
        · have hj10 : (j : Int) < 10 := by omega
          go_wp2_with fail
          refine (diceBelow_any wA wr wA.heap.size v zs p s (N : Int) D.out HZ4.out hp hN1 hN200).mono ?_
          rintro e w10 ⟨x, p1, s1, hx, rfl, hp1, hD1, -⟩
          have D1 := ShQ.mk hD1
          have HX := ShQ.mk hx
          clear hD1 hx
          go_wp2_with fail
          refine (diceBelow_any wA w10 wA.heap.size v zs p1 s1 (N : Int) D1.out HZ4.out hp1 hN1 hN200).mono ?_
          rintro e w11 ⟨y, p2, s2, hy, rfl, hp2, hD2, -⟩
          have D11 := ShQ.mk hD2
          have HY := ShQ.mk hy
          have hw2 : IntKind.i64.wrap ((N : Int) - 1 - x) = (N : Int) - 1 - x := IntWalk.i64_in _ (by have := HX.out; omega)
          have hw3 : IntKind.i64.wrap ((N : Int) - 1 - y) = (N : Int) - 1 - y := IntWalk.i64_in _ (by have := HY.out; omega)
          obtain ⟨U, hU⟩ : ∃ U, stdI N x y = U := ⟨_, rfl⟩
          have P1 := ShQ.mk ((prem_std H5.out H15.out HX.out HY.out).trans hU)
          have P2 := ShQ.mk ((prem_std H5.out H15.out HY.out HX.out).trans ((stdI_turn _ _ _).trans hU))
          have P3 := ShQ.mk ((prem_std (x := (N : Int) - 1 - x) H5.out H15.out (by have := HX.out; omega) HY.out).trans ((stdI_back _ _ _).trans hU))
          have P4 := ShQ.mk ((prem_std (y := (N : Int) - 1 - y) H5.out H15.out HX.out (by have := HY.out; omega)).trans ((stdI_side _ _ _).trans hU))
          have P5 := ShQ.mk (cell_std H5.out H15.out HX.out HY.out)
          have huu : (U != U) = false := by simp
          clear hD2 hy hU
          have c12 := (U4.out.kept D11.out.below U4.out.lt).cells
          go_wp2_with fail
          refine (premAtO P1.out _).mono ?_
          rintro e w12 ⟨rfl, hb12⟩
          have D12 := ShQ.mk (D11.out.later hb12)
          clear c12 hb12
          have c13 := (U4.out.kept D12.out.below U4.out.lt).cells
          go_wp2_with fail
          refine (premAtO P2.out _).mono ?_
          rintro e w13 ⟨rfl, hb13⟩
          have D13 := ShQ.mk (D12.out.later hb13)
          clear c13 hb13
          have c14 := (U4.out.kept D13.out.below U4.out.lt).cells
          go_wp2_with fail
          refine (premAtO P3.out _).mono ?_
          rintro e w14 ⟨rfl, hb14⟩
          have D14 := ShQ.mk (D13.out.later hb14)
          clear c14 hb14
          have c15 := (U4.out.kept D14.out.below U4.out.lt).cells
          go_wp2_with fail
          refine (premAtO P4.out _).mono ?_
          rintro e w15 ⟨rfl, hb15⟩
          have D15 := ShQ.mk (D14.out.later hb15)
          clear c15 hb15
          have c16 := (U4.out.kept D15.out.below U4.out.lt).cells
          go_wp2_with fail
          refine (cellAtO P5.out _).mono ?_
          rintro e w16 ⟨rfl, hb16⟩
          have D16 := ShQ.mk (D15.out.later hb16)
          clear c16 hb16
          go_wp2
          go_roundw
          case rel => exact ⟨j + 1, p2, s2, by omega, by go_num, hp2, D16⟩
          case measure => simp [intOf]; omega
        · obtain rfl : j = 10 := by omega
          have Q1 := ShQ.mk (show blankOut (N : Int) (stdS N) (dotsS (N * N)) = true by rw [blank_yes (std_ok H5.out H15.out), dots_none]; rfl)
          have Q2 := ShQ.mk (show blankOut (N : Int) (dotsS (N * N)) (dotsS (N * N)) = true by rw [blank_yes (empty_ok H5.out H15.out), dots_none]; rfl)
          have Q3 := ShQ.mk ((prem_std (x := 0) (y := 0) H5.out H15.out (by have := H5.out; omega) (by have := H5.out; omega)).trans (stdI_corner N (by have := H5.out; omega)))
          have c12 := (U4.out.kept D.out.below U4.out.lt).cells
          have c13 := (U8.out.kept D.out.below U8.out.lt).cells
          go_wp2_with fail
          refine (isBlankO Q1.out _).mono ?_
          rintro e w12 ⟨rfl, hb12⟩
          have D12 := ShQ.mk (D.out.later hb12)
          clear c12 c13 hb12
          have c13 := (U8.out.kept D12.out.below U8.out.lt).cells
          go_wp2_with fail
          refine (isBlankO Q2.out _).mono ?_
          rintro e w13 ⟨rfl, hb13⟩
          have D13 := ShQ.mk (D12.out.later hb13)
          clear c13 hb13
          have c14 := (U4.out.kept D13.out.below U4.out.lt).cells
          go_wp2_with fail
          refine (premAtO Q3.out _).mono ?_
          rintro e w14 ⟨rfl, hb14⟩
          have D14 := ShQ.mk (D13.out.later hb14)
          clear c14 hb14
          go_wp2
          go_ret
          exact ⟨rfl, HB7.out.trans (D14.out.below.mono HB7.out.size)⟩
    · have hs := Bool.eq_false_iff.2 hsz
      have ho := HO.out
      have hq := HQ.out
      rw [standOut_no hs] at ho
      rw [emptyOut_no hs] at hq
      subst ho hq
      clear hs hsz
      go_wp2
      go_ret
      exact ⟨rfl, HB7.out⟩
set_option maxRecDepth 100000 in
theorem FnStandardBoards_lifted (os : Os) (started : os.Started) (H : Type) (enc : TypeId × Value → H) :
    ReturnsInHanded {} Try.checked os 4 .any (Rows.fnStandardBoardsSpec.pre6 enc Try.prog Try.f4 Rows.fnStandardBoardsRow.domain false) (Rows.fnStandardBoardsSpec.post enc Try.prog Try.f4 false true false false) := by
  refine returnsInHanded_of_change (C := Try.checked) prog_own started (by kernel_rfl) Try.func4
    (ChangeSpec.witness6 (enc := enc) (C := Try.checked) false ⟨#[], #[.slice none 0 0], []⟩ 8 (by kernel_rfl) (by kernel_rfl) (by kernel_rfl) (by kernel_rfl)) ?_
  intro W base args ds gs before hval0 hW hcnd _
  have hval : ∀ (j : Nat) t v, Try.f4.params[j]? = some t → args[j]? = some v → Value.okWide Try.prog W .any base t v := hval0
  have hW' := hW
  obtain ⟨p, q, hA0, hV, rfl, hfz, hnd⟩ := hW
  have hA : DataW.TrodAll enc Try.prog W 0 (fun _ => true) true Try.f4.params.toList args.toList ds p := hA0
  rw [Try.params4] at hA hval
  obtain ⟨v0, vs0, d0, ds0, p0, q0, hargs, rfl, rfl, h0, r0⟩ := trodAll_cons hA
  obtain ⟨rfl, rfl, rfl⟩ := trodAll_nil r0
  obtain rfl : args = #[v0] := by cases args; simp_all
  obtain ⟨rfl, rfl⟩ := trodVars_none hV
  have k0 := h0
  have lt0 : ∀ x ∈ p0, x.block < W.heap.size := by obtain ⟨m, hm⟩ := k0; exact DataW.trod_lt m _ _ _ hm
  obtain ⟨fu0, hf0⟩ := h0
  obtain ⟨A0, len0, cap0, rfl⟩ := okWide_slice Try.underlying22 (hval 0 22 v0 rfl rfl)
  obtain ⟨z0, i0⟩ := bytes_cell Try.underlying22 Try.underlying5 (by kernel_rfl) hf0
  clear hA0 hval0
  refine (FnStandardBoards_walk W _ z0 i0).mono fun e W' ⟨he, bel⟩ => ?_
  subst he
  exact ⟨_, rfl, _, _, _, [], _, [], hW', trodAll_mk1 (shut_bool Try.underlying4 _), (trodAll_cons_mk (Below.trod prog_laid (by kernel_rfl) (of_decide_eq_true (by kernel_rfl)) k0 bel lt0) trodAll_mk0), rfl, bel.frame _, fun h => by cases h⟩

set_option maxHeartbeats 8000000 in
theorem FnStandardBoards_facts : joinedFacts Try.pinned.checked.prog 4 Try.f4 Rows.fnStandardBoardsSpec Rows.fnStandardBoardsRow = true := by
  unfold joinedFacts
  rw [prog_enter, prog_lifts, prog_made]
  kernel_rfl
theorem FnStandardBoards_holds : Rows.FnStandardBoardsSaid :=
  OpenClaim.holds_of_wide 4 Try.f4 rfl rfl rfl rfl rfl rfl rfl ⟨rfl, rfl, rfl, rfl, rfl⟩ rfl rfl rfl rfl rfl (by kernel_rfl) Try.func4 FnStandardBoards_facts
    (of_decide_eq_true (by kernel_rfl)) (by unfold Func.isWrapper; rw [if_neg (of_decide_eq_false (by kernel_rfl))]; exact ⟨rfl, rfl⟩)
    (fun os started H enc _ => FnStandardBoards_lifted os started H enc)
end Go.Proofs.Ytpeobloofofnlaa
