/-
  The premiums of a standard board: StandardBoard of both sides.
-/
import Derived.Test.YtpeobloofofnlaaBE
namespace Go.Proofs.Ytpeobloofofnlaa
open Go.RowKit

theorem minO {a b x : Int} (h : min a b = x) (w : World) : Calls Try.prog 172 #[.int .i64 a, .int .i64 b] w fun e w' => e = .returned (.int .i64 x) ∧ w = w' := by
  by_cases h1 : a < b
  · obtain rfl : a = x := by omega
    clear h
    go_enter Try.func172, Try.ntmps172
    go_wp2
    go_ret
    exact ⟨rfl, rfl⟩
  · obtain rfl : b = x := by omega
    clear h
    go_enter Try.func172, Try.ntmps172
    go_wp2
    go_ret
    exact ⟨rfl, rfl⟩
theorem maxO {a b x : Int} (h : max a b = x) (w : World) : Calls Try.prog 173 #[.int .i64 a, .int .i64 b] w fun e w' => e = .returned (.int .i64 x) ∧ w = w' := by
  by_cases h1 : b < a
  · obtain rfl : a = x := by omega
    clear h
    go_enter Try.func173, Try.ntmps173
    go_wp2
    go_ret
    exact ⟨rfl, rfl⟩
  · obtain rfl : b = x := by omega
    clear h
    go_enter Try.func173, Try.ntmps173
    go_wp2
    go_ret
    exact ⟨rfl, rfl⟩

/-- The numbers that a square's premium is told from. -/
structure StdF (n r c x y a b : Int) : Prop where
  hx : min r (n - 1 - r) = x
  hy : min c (n - 1 - c) = y
  ha : min x y = a
  hb : max x y = b
  is : stdI n r c = stdP n a b
  a0 : 0 ≤ a
  b0 : 0 ≤ b
  a1 : a ≤ 15
  b1 : b ≤ 15
theorem stdF_of {n r c : Int} (h15 : n ≤ 15) (hr : 0 ≤ r ∧ r < n) (hc : 0 ≤ c ∧ c < n) : ∃ x y a b, StdF n r c x y a b := by
  refine ⟨_, _, _, _, rfl, rfl, rfl, rfl, rfl, ?_, ?_, ?_, ?_⟩
  all_goals omega
theorem ret_uO {a b : Int} (h : a = b) : Ending.returned (.int .u8 a) = .returned (.int .u8 b) := by rw [h]
set_option maxRecDepth 100000 in
set_option maxHeartbeats 4000000 in
theorem standardPremium_any (n r c : Int) (W : World) (h5 : 5 ≤ n) (h15 : n ≤ 15) (hr : 0 ≤ r ∧ r < n) (hc : 0 ≤ c ∧ c < n) :
    Calls Try.prog 91 #[.int .i64 n, .int .i64 r, .int .i64 c] W fun e w' => e = .returned (.int .u8 (stdI n r c)) ∧ W = w' := by
  obtain ⟨x, y, a, b, hx, hy, ha, hb, his, a0, b0, a1, b1⟩ := stdF_of h15 hr hc
  have HIS := ShO.mk his
  have w1 : IntKind.i64.wrap (n - 1) = n - 1 := IntWalk.i64_in _ (by omega)
  have w2 : IntKind.i64.wrap (n - 1 - r) = n - 1 - r := IntWalk.i64_in _ (by omega)
  have w3 : IntKind.i64.wrap (n - 1 - c) = n - 1 - c := IntWalk.i64_in _ (by omega)
  have w4 : IntKind.i64.wrap (a + b) = a + b := IntWalk.i64_in _ (by omega)
  have w5 : IntKind.i64.wrap ((n - 1).tdiv 2) = (n - 1).tdiv 2 := by
    rw [Int.tdiv_eq_ediv_of_nonneg (by omega)]; exact IntWalk.i64_in _ (by omega)
  have w6 : IntKind.i64.wrap ((a + b).tmod 6) = (a + b).tmod 6 := by
    rw [Int.tmod_eq_emod_of_nonneg (by omega)]; exact IntWalk.i64_in _ (by omega)
  have w7 : IntKind.i64.wrap ((a + b).tmod 4) = (a + b).tmod 4 := by
    rw [Int.tmod_eq_emod_of_nonneg (by omega)]; exact IntWalk.i64_in _ (by omega)
  obtain ⟨H, hH⟩ : ∃ H, (n - 1).tdiv 2 = H := ⟨_, rfl⟩
  obtain ⟨S, hS⟩ : ∃ S, a + b = S := ⟨_, rfl⟩
  obtain ⟨T6, hT6⟩ : ∃ T, S.tmod 6 = T := ⟨_, rfl⟩
  obtain ⟨T4, hT4⟩ : ∃ T, S.tmod 4 = T := ⟨_, rfl⟩
  rw [hH] at w5
  rw [hS] at w4 w6 w7
  rw [hT6] at w6
  rw [hT4] at w7
  unfold stdP at HIS
  rw [hH, hS, hT6, hT4] at HIS
  by_cases q1 : a = 0 ∧ (b = 0 ∨ b = H)
  · rw [if_pos q1] at HIS
    obtain ⟨q0, q1⟩ := q1
    have e0 : (a == 0) = true := beq_iff_eq.2 q0
    by_cases q2 : b = 0
    · have e1 : (b == 0) = true := beq_iff_eq.2 q2
      clear q0 q1 q2 a0 b0 a1 b1 his hr hc
      go_enter Try.func91, Try.ntmps91
      go_wp2
      go_ret
      exact ⟨ret_uO HIS.out.symm, rfl⟩
    · have e1 : (b == 0) = false := beq_eq_false_iff_ne.2 q2
      have e2 : (b == H) = true := beq_iff_eq.2 (q1.resolve_left q2)
      clear q0 q1 q2 a0 b0 a1 b1 his hr hc
      go_enter Try.func91, Try.ntmps91
      go_wp2
      go_ret
      exact ⟨ret_uO HIS.out.symm, rfl⟩
  · rw [if_neg q1] at HIS
    have key : ∃ u v t : Bool, (a == 0) = u ∧ (b == 0) = v ∧ (b == H) = t ∧ (u && (v || t)) = false := by
      refine ⟨_, _, _, rfl, rfl, rfl, ?_⟩
      rw [Bool.eq_false_iff, ne_eq, Bool.and_eq_true, Bool.or_eq_true, beq_iff_eq, beq_iff_eq, beq_iff_eq]
      exact q1
    obtain ⟨u, v, t, e0, e1, e2, huvt⟩ := key
    have go : ∀ (d3 d4 d5 : Bool), (a == b) = d3 → (T6 == 4) = d4 → (T4 == 3) = d5 → stdI n r c = (if d3 then 100 else if d4 then 51 else if d5 then 50 else 46) →
        Calls Try.prog 91 #[.int .i64 n, .int .i64 r, .int .i64 c] W fun e w' => e = .returned (.int .u8 (stdI n r c)) ∧ W = w' := by
      intro d3 d4 d5 e3 e4 e5 hi
      have HI := ShO.mk hi
      clear q1 a0 b0 a1 b1 his hr hc HIS hi
      cases u
      · clear huvt e1 e2
        cases d3
        · cases d4
          · cases d5
            · go_enter Try.func91, Try.ntmps91
              go_wp2
              go_ret
              exact ⟨ret_uO HI.out.symm, rfl⟩
            · go_enter Try.func91, Try.ntmps91
              go_wp2
              go_ret
              exact ⟨ret_uO HI.out.symm, rfl⟩
          · clear e5
            go_enter Try.func91, Try.ntmps91
            go_wp2
            go_ret
            exact ⟨ret_uO HI.out.symm, rfl⟩
        · clear e4 e5
          go_enter Try.func91, Try.ntmps91
          go_wp2
          go_ret
          exact ⟨ret_uO HI.out.symm, rfl⟩
      · cases v
        · cases t
          · clear huvt
            cases d3
            · cases d4
              · cases d5
                · go_enter Try.func91, Try.ntmps91
                  go_wp2
                  go_ret
                  exact ⟨ret_uO HI.out.symm, rfl⟩
                · go_enter Try.func91, Try.ntmps91
                  go_wp2
                  go_ret
                  exact ⟨ret_uO HI.out.symm, rfl⟩
              · clear e5
                go_enter Try.func91, Try.ntmps91
                go_wp2
                go_ret
                exact ⟨ret_uO HI.out.symm, rfl⟩
            · clear e4 e5
              go_enter Try.func91, Try.ntmps91
              go_wp2
              go_ret
              exact ⟨ret_uO HI.out.symm, rfl⟩
          · cases huvt
        · cases huvt
    refine go _ _ _ rfl rfl rfl ?_
    rw [HIS.out]
    simp only [beq_iff_eq]
set_option maxRecDepth 100000 in
set_option maxHeartbeats 4000000 in
theorem l11Standard_any (n r c : Int) (W : World) (h5 : 5 ≤ n) (h15 : n ≤ 15) (hr : 0 ≤ r ∧ r < n) (hc : 0 ≤ c ∧ c < n) :
    Calls Try.prog 94 #[.int .i64 n, .int .i64 r, .int .i64 c] W fun e w' => e = .returned (.int .u8 (stdI n r c)) ∧ W = w' := by
  obtain ⟨x, y, a, b, hx, hy, ha, hb, his, a0, b0, a1, b1⟩ := stdF_of h15 hr hc
  have HIS := ShO.mk his
  have w1 : IntKind.i64.wrap (n - 1) = n - 1 := IntWalk.i64_in _ (by omega)
  have w2 : IntKind.i64.wrap (n - 1 - r) = n - 1 - r := IntWalk.i64_in _ (by omega)
  have w3 : IntKind.i64.wrap (n - 1 - c) = n - 1 - c := IntWalk.i64_in _ (by omega)
  have w4 : IntKind.i64.wrap (a + b) = a + b := IntWalk.i64_in _ (by omega)
  have w5 : IntKind.i64.wrap ((n - 1).tdiv 2) = (n - 1).tdiv 2 := by
    rw [Int.tdiv_eq_ediv_of_nonneg (by omega)]; exact IntWalk.i64_in _ (by omega)
  have w6 : IntKind.i64.wrap ((a + b).tmod 6) = (a + b).tmod 6 := by
    rw [Int.tmod_eq_emod_of_nonneg (by omega)]; exact IntWalk.i64_in _ (by omega)
  have w7 : IntKind.i64.wrap ((a + b).tmod 4) = (a + b).tmod 4 := by
    rw [Int.tmod_eq_emod_of_nonneg (by omega)]; exact IntWalk.i64_in _ (by omega)
  obtain ⟨H, hH⟩ : ∃ H, (n - 1).tdiv 2 = H := ⟨_, rfl⟩
  obtain ⟨S, hS⟩ : ∃ S, a + b = S := ⟨_, rfl⟩
  obtain ⟨T6, hT6⟩ : ∃ T, S.tmod 6 = T := ⟨_, rfl⟩
  obtain ⟨T4, hT4⟩ : ∃ T, S.tmod 4 = T := ⟨_, rfl⟩
  rw [hH] at w5
  rw [hS] at w4 w6 w7
  rw [hT6] at w6
  rw [hT4] at w7
  unfold stdP at HIS
  rw [hH, hS, hT6, hT4] at HIS
  have MX := ShO.mk hx
  have MY := ShO.mk hy
  have MA := ShO.mk ha
  have MB := ShO.mk hb
  clear hx hy ha hb
  by_cases q1 : a = 0 ∧ (b = 0 ∨ b = H)
  · rw [if_pos q1] at HIS
    obtain ⟨q0, q1⟩ := q1
    have e0 : (a == 0) = true := beq_iff_eq.2 q0
    by_cases q2 : b = 0
    · have e1 : (b == 0) = true := beq_iff_eq.2 q2
      clear q0 q1 q2 a0 b0 a1 b1 his hr hc
      go_enter Try.func94, Try.ntmps94
      go_wp2_with fail
      refine (minO MX.out _).mono ?_
      rintro e w' ⟨rfl, rfl⟩
      go_wp2_with fail
      refine (minO MY.out _).mono ?_
      rintro e w' ⟨rfl, rfl⟩
      go_wp2_with fail
      refine (minO MA.out _).mono ?_
      rintro e w' ⟨rfl, rfl⟩
      go_wp2_with fail
      refine (maxO MB.out _).mono ?_
      rintro e w' ⟨rfl, rfl⟩
      go_wp2
      go_ret
      exact ⟨ret_uO HIS.out.symm, rfl⟩
    · have e1 : (b == 0) = false := beq_eq_false_iff_ne.2 q2
      have e2 : (b == H) = true := beq_iff_eq.2 (q1.resolve_left q2)
      clear q0 q1 q2 a0 b0 a1 b1 his hr hc
      go_enter Try.func94, Try.ntmps94
      go_wp2_with fail
      refine (minO MX.out _).mono ?_
      rintro e w' ⟨rfl, rfl⟩
      go_wp2_with fail
      refine (minO MY.out _).mono ?_
      rintro e w' ⟨rfl, rfl⟩
      go_wp2_with fail
      refine (minO MA.out _).mono ?_
      rintro e w' ⟨rfl, rfl⟩
      go_wp2_with fail
      refine (maxO MB.out _).mono ?_
      rintro e w' ⟨rfl, rfl⟩
      go_wp2
      go_ret
      exact ⟨ret_uO HIS.out.symm, rfl⟩
  · rw [if_neg q1] at HIS
    have key : ∃ u v t : Bool, (a == 0) = u ∧ (b == 0) = v ∧ (b == H) = t ∧ (u && (v || t)) = false := by
      refine ⟨_, _, _, rfl, rfl, rfl, ?_⟩
      rw [Bool.eq_false_iff, ne_eq, Bool.and_eq_true, Bool.or_eq_true, beq_iff_eq, beq_iff_eq, beq_iff_eq]
      exact q1
    obtain ⟨u, v, t, e0, e1, e2, huvt⟩ := key
    have go : ∀ (d3 d4 d5 : Bool), (a == b) = d3 → (T6 == 4) = d4 → (T4 == 3) = d5 → stdI n r c = (if d3 then 100 else if d4 then 51 else if d5 then 50 else 46) →
        Calls Try.prog 94 #[.int .i64 n, .int .i64 r, .int .i64 c] W fun e w' => e = .returned (.int .u8 (stdI n r c)) ∧ W = w' := by
      intro d3 d4 d5 e3 e4 e5 hi
      have HI := ShO.mk hi
      clear q1 a0 b0 a1 b1 his hr hc HIS hi
      cases u
      · clear huvt e1 e2
        cases d3
        · cases d4
          · cases d5
            · go_enter Try.func94, Try.ntmps94
              go_wp2_with fail
              refine (minO MX.out _).mono ?_
              rintro e w' ⟨rfl, rfl⟩
              go_wp2_with fail
              refine (minO MY.out _).mono ?_
              rintro e w' ⟨rfl, rfl⟩
              go_wp2_with fail
              refine (minO MA.out _).mono ?_
              rintro e w' ⟨rfl, rfl⟩
              go_wp2_with fail
              refine (maxO MB.out _).mono ?_
              rintro e w' ⟨rfl, rfl⟩
              go_wp2
              go_ret
              exact ⟨ret_uO HI.out.symm, rfl⟩
            · go_enter Try.func94, Try.ntmps94
              go_wp2_with fail
              refine (minO MX.out _).mono ?_
              rintro e w' ⟨rfl, rfl⟩
              go_wp2_with fail
              refine (minO MY.out _).mono ?_
              rintro e w' ⟨rfl, rfl⟩
              go_wp2_with fail
              refine (minO MA.out _).mono ?_
              rintro e w' ⟨rfl, rfl⟩
              go_wp2_with fail
              refine (maxO MB.out _).mono ?_
              rintro e w' ⟨rfl, rfl⟩
              go_wp2
              go_ret
              exact ⟨ret_uO HI.out.symm, rfl⟩
          · clear e5
            go_enter Try.func94, Try.ntmps94
            go_wp2_with fail
            refine (minO MX.out _).mono ?_
            rintro e w' ⟨rfl, rfl⟩
            go_wp2_with fail
            refine (minO MY.out _).mono ?_
            rintro e w' ⟨rfl, rfl⟩
            go_wp2_with fail
            refine (minO MA.out _).mono ?_
            rintro e w' ⟨rfl, rfl⟩
            go_wp2_with fail
            refine (maxO MB.out _).mono ?_
            rintro e w' ⟨rfl, rfl⟩
            go_wp2
            go_ret
            exact ⟨ret_uO HI.out.symm, rfl⟩
        · clear e4 e5
          go_enter Try.func94, Try.ntmps94
          go_wp2_with fail
          refine (minO MX.out _).mono ?_
          rintro e w' ⟨rfl, rfl⟩
          go_wp2_with fail
          refine (minO MY.out _).mono ?_
          rintro e w' ⟨rfl, rfl⟩
          go_wp2_with fail
          refine (minO MA.out _).mono ?_
          rintro e w' ⟨rfl, rfl⟩
          go_wp2_with fail
          refine (maxO MB.out _).mono ?_
          rintro e w' ⟨rfl, rfl⟩
          go_wp2
          go_ret
          exact ⟨ret_uO HI.out.symm, rfl⟩
      · cases v
        · cases t
          · clear huvt
            cases d3
            · cases d4
              · cases d5
                · go_enter Try.func94, Try.ntmps94
                  go_wp2_with fail
                  refine (minO MX.out _).mono ?_
                  rintro e w' ⟨rfl, rfl⟩
                  go_wp2_with fail
                  refine (minO MY.out _).mono ?_
                  rintro e w' ⟨rfl, rfl⟩
                  go_wp2_with fail
                  refine (minO MA.out _).mono ?_
                  rintro e w' ⟨rfl, rfl⟩
                  go_wp2_with fail
                  refine (maxO MB.out _).mono ?_
                  rintro e w' ⟨rfl, rfl⟩
                  go_wp2
                  go_ret
                  exact ⟨ret_uO HI.out.symm, rfl⟩
                · go_enter Try.func94, Try.ntmps94
                  go_wp2_with fail
                  refine (minO MX.out _).mono ?_
                  rintro e w' ⟨rfl, rfl⟩
                  go_wp2_with fail
                  refine (minO MY.out _).mono ?_
                  rintro e w' ⟨rfl, rfl⟩
                  go_wp2_with fail
                  refine (minO MA.out _).mono ?_
                  rintro e w' ⟨rfl, rfl⟩
                  go_wp2_with fail
                  refine (maxO MB.out _).mono ?_
                  rintro e w' ⟨rfl, rfl⟩
                  go_wp2
                  go_ret
                  exact ⟨ret_uO HI.out.symm, rfl⟩
              · clear e5
                go_enter Try.func94, Try.ntmps94
                go_wp2_with fail
                refine (minO MX.out _).mono ?_
                rintro e w' ⟨rfl, rfl⟩
                go_wp2_with fail
                refine (minO MY.out _).mono ?_
                rintro e w' ⟨rfl, rfl⟩
                go_wp2_with fail
                refine (minO MA.out _).mono ?_
                rintro e w' ⟨rfl, rfl⟩
                go_wp2_with fail
                refine (maxO MB.out _).mono ?_
                rintro e w' ⟨rfl, rfl⟩
                go_wp2
                go_ret
                exact ⟨ret_uO HI.out.symm, rfl⟩
            · clear e4 e5
              go_enter Try.func94, Try.ntmps94
              go_wp2_with fail
              refine (minO MX.out _).mono ?_
              rintro e w' ⟨rfl, rfl⟩
              go_wp2_with fail
              refine (minO MY.out _).mono ?_
              rintro e w' ⟨rfl, rfl⟩
              go_wp2_with fail
              refine (minO MA.out _).mono ?_
              rintro e w' ⟨rfl, rfl⟩
              go_wp2_with fail
              refine (maxO MB.out _).mono ?_
              rintro e w' ⟨rfl, rfl⟩
              go_wp2
              go_ret
              exact ⟨ret_uO HI.out.symm, rfl⟩
          · cases huvt
        · cases huvt
    refine go _ _ _ rfl rfl rfl ?_
    rw [HIS.out]
    simp only [beq_iff_eq]

theorem standU {N : Nat} {r c : Nat} (h5 : 5 ≤ N) (h15 : N ≤ 15) (hr : r < N) (hc : c < N) (W : World) :
    Calls Try.prog 91 #[.int .i64 (N : Int), .int .i64 (r : Int), .int .i64 (c : Int)] W fun e w' => e = .returned (.int .u8 ((stdU N r c).toNat : Int)) ∧ W = w' := by
  rw [stdU_is]
  exact standardPremium_any _ _ _ W (by omega) (by omega) ⟨by omega, by omega⟩ ⟨by omega, by omega⟩
theorem standM {N : Nat} {r c : Nat} (h5 : 5 ≤ N) (h15 : N ≤ 15) (hr : r < N) (hc : c < N) (W : World) :
    Calls Try.prog 94 #[.int .i64 (N : Int), .int .i64 (r : Int), .int .i64 (c : Int)] W fun e w' => e = .returned (.int .u8 ((stdU N r c).toNat : Int)) ∧ W = w' := by
  rw [stdU_is]
  exact l11Standard_any _ _ _ W (by omega) (by omega) ⟨by omega, by omega⟩ ⟨by omega, by omega⟩
set_option maxHeartbeats 2000000 in
set_option maxRecDepth 100000 in
theorem writeByte_any (B b : Nat) (l : List UInt8) (c : UInt8) (w : World) (h : IsB B b l w) (hlen : l.length ≤ 1000000) (hBw : B ≤ w.heap.size) :
    Calls Try.prog 90 #[.pointer (some ⟨b, 0, none⟩), .int .u8 (c.toNat : Int)] w fun e w' => e = .returned .nilIface ∧ IsB B b (l ++ [c]) w' ∧ Below B w w' := by
  obtain ⟨i0, hi, hz0, hz1, hz2⟩ := info_parts info8Q
  have hll := Lib.byteCells_length l
  go_enter Try.func90, Try.ntmps90
  go_wp2_with (go_at_call 171; refine (copyCheck_any B b l _ h).mono ?_)
  rintro e w1 ⟨rfl, h1, hb1⟩
  obtain ⟨hB, v, hbk, hown, hne⟩ := h1
  have c0 : w1.cell? ⟨b, 0, none⟩ = some (.pointer (some ⟨b, 0, none⟩)) := by rw [Lib.cell_of_heap hbk]; rfl
  have c1 : w1.cell? ⟨b, 1, none⟩ = some v := by rw [Lib.cell_of_heap hbk]; rfl
  have hlt : b < w1.heap.size := (Array.getElem?_eq_some_iff.1 hbk).1
  go_wp2_with (at_builtin; refine wpList_append_own _ rfl _ _ 22 rfl B 5 i0 (.int .u8 0) 1 1 Try.underlying22 hi hz0 hz1 hz2 rfl (by decide) _ _ _ rfl (World.ownsRow.alloc hown _) ⟨w1.heap.size, 0, none⟩ 1 1 [.int .u8 (c.toNat : Int)] rfl rfl ?c1 ?c2 ?c3 ?c4 ?c5 ?_)
  case c1 => exact cell_one_new _ _ _
  case c2 => intro u hu; simp at hu; subst hu; rfl
  case c3 => rw [hll]; simp [maxLen]; omega
  case c4 => rw [hll]; omega
  case c5 => have := hb1.size; simp; omega
  intro v' w2 hown' hgrow _
  have hb2 : w2.heap[b]? = some (.cells #[.pointer (some ⟨b, 0, none⟩), v] 87 (0, 0)) := by
    rw [hgrow.block b (by simp; omega) (fun e => hne e.symm), ← hbk]
    exact Below.heap_alloc w1 _ b hlt
  have d0 : w2.cell? ⟨b, 0, none⟩ = some (.pointer (some ⟨b, 0, none⟩)) := by rw [Lib.cell_of_heap hb2]; rfl
  have d1 : w2.cell? ⟨b, 1, none⟩ = some v := by rw [Lib.cell_of_heap hb2]; rfl
  have f1 : w2.frozen? ⟨b, 1, none⟩ = false := Lib.frozen_of_heap hb2 1
  have hown2 : w2.ownsRow B 5 1 v' (Lib.byteCells (l ++ [c])).length (Lib.byteCells (l ++ [c])) := by
    rw [Lib.byteCells_length, ← byte_cells_snoc, List.length_append]
    exact hown'
  have HOWN := ShO.mk hown2
  have HBB := ShO.mk ((hb1.alloc (by have := hb1.size; omega) (.cells #[.int .u8 (c.toNat : Int)] 5)).grown hgrow (by have := hb1.size; simp; omega) (fun k hk => (hown.lt k hk).1))
  obtain ⟨ao, n', cap, rfl⟩ : ∃ ao n' cap, v' = .slice ao n' cap := by
    rcases hown'.2 with ⟨hv, _⟩ | ⟨g, cap, cur, hv, _⟩
    · exact ⟨_, _, _, hv⟩
    · exact ⟨_, _, _, hv⟩
  clear hown2 hgrow hown' hown
  go_wp2
  go_ret
  refine ⟨rfl, Or.inr ?_, ?_⟩
  · exact Lib.BuilderAt.put hB hb2 HOWN.out (by decide)
  · exact HBB.out.setCell (p := ⟨b, 1, none⟩) hB _

theorem standOut_no {n : Int} (h : sizB n = false) : standOut n = (noBd, 2) := by unfold standOut; rw [if_neg]; rw [h]; intro e; cases e
theorem standOut_yes {N : Nat} (h : sizB (N : Int) = true) : standOut (N : Int) = (((N : Int), stdS N, dotsS (N * N)), 0) := by unfold standOut; rw [if_pos h]; rfl
theorem grid_small (f : Nat → Nat → UInt8) {N r c : Nat} (h15 : N ≤ 15) (hr : r < N) (hc : c ≤ N) : (gridL f N (r * N + c)).length ≤ 225 := by
  rw [gridL_len]
  have h1 : (r + 1) * N ≤ 15 * 15 := Nat.mul_le_mul (by omega) h15
  rw [Nat.succ_mul] at h1
  omega
set_option maxRecDepth 100000 in
set_option maxHeartbeats 4000000 in
theorem specStandardBoard_any (n : Int) (W : World) :
    Calls Try.prog 29 #[.int .i64 n] W fun e w' => e = .returned (bdRes (standOut n)) ∧ Below W.heap.size W w' := by
  have hB0 : Below W.heap.size W (W.alloc (.cells #[.int .i64 0, .string ⟨#[]⟩, .string ⟨#[]⟩] 25)) := (Below.refl _ _).alloc (Nat.le_refl _) _
  cases hz : sizB n
  · have HZ := ShO.mk hz
    have HR := ShO.mk (standOut_no hz)
    clear hz
    go_enter Try.func29, Try.ntmps29
    go_wp2_with fail
    refine (sizeO HZ.out _).mono ?_
    rintro e w1 ⟨rfl, rfl⟩
    go_wp2
    have c0 := (Blk.made W 25 #[.int .i64 0, .string ⟨#[]⟩, .string ⟨#[]⟩]).cells
    refine bodyPost_ret (v := .tuple #[.agg #[.int .i64 0, .string ⟨#[]⟩, .string ⟨#[]⟩], .int .i64 2]) (by simp [results, Try.results29, go_sem, c0]) rfl ?_
    rw [HR.out]
    exact ⟨rfl, hB0⟩
  · obtain ⟨N, rfl, h5, h15⟩ := nat_of_siz hz
    have HZ := ShO.mk hz
    have HR := ShO.mk (standOut_yes hz)
    have HSQ := ShO.mk (sq_facts h15)
    have HG := ShO.mk (Blk.made W 25 #[.int .i64 0, .string ⟨#[]⟩, .string ⟨#[]⟩])
    clear hz
    go_enter Try.func29, Try.ntmps29
    go_wp2_with fail
    refine (sizeO HZ.out _).mono ?_
    rintro e w1 ⟨rfl, rfl⟩
    go_wp2
    go_loopw [4, 5, 6] (fun v i _ wr => ∃ r : Nat, r ≤ N ∧ i = .int .i64 r ∧ ShO (OwnB (W.heap.size + 1) wr v (gridL (stdU N) N (r * N))) ∧ ShO (Below (W.heap.size + 1) (W.alloc (.cells #[.int .i64 0, .string ⟨#[]⟩, .string ⟨#[]⟩] 25)) wr)) (fun _ i _ _ => N - (intOf i).toNat)
    case atStart => exact ⟨0, Nat.zero_le _, rfl, ⟨by
      rw [Nat.zero_mul]
      have h := World.ownsRow_lit (e := 5) (size := 1) (base := W.heap.size + 1) (W.alloc (.cells #[.int .i64 0, .string ⟨#[]⟩, .string ⟨#[]⟩] 25)) #[] 0 (by simp) (by unfold maxLen; omega) rfl
      rw [World.size_alloc] at h
      exact h⟩, ⟨(Below.refl _ _).alloc (by simp) _⟩⟩
    case round =>
      obtain ⟨r, hr, rfl, ho, hB⟩ := hrel
      by_cases hlt : r < N
      · go_wp2
        obtain ⟨w1, hw1⟩ : ∃ w1, w1 = wr := ⟨_, rfl⟩
        subst hw1
        go_loopw [4, 6] (fun v i wr => ∃ c : Nat, c ≤ N ∧ i = .int .i64 c ∧ ShO (OwnB (W.heap.size + 1) wr v (gridL (stdU N) N (r * N + c))) ∧ ShO (Below (W.heap.size + 1) (W.alloc (.cells #[.int .i64 0, .string ⟨#[]⟩, .string ⟨#[]⟩] 25)) wr)) (fun _ i _ => N - (intOf i).toNat)
        case atStart => exact ⟨0, Nat.zero_le _, rfl, ho, hB⟩
        case round =>
          obtain ⟨c, hc, rfl, ho2, hB2⟩ := hrel
          by_cases hlt2 : c < N
          · have HS := ShO.mk (gridL_step (stdU N) (n := N) (r := r) hlt2)
            have HL := ShO.mk (grid_small (stdU N) h15 hlt (Nat.le_of_lt hlt2))
            go_wp2_with fail
            refine (standM h5 h15 hlt hlt2 _).mono ?_
            rintro e w2 ⟨rfl, rfl⟩
            go_wp2_with (refine append_byteO rfl _ _ rfl _ (gridL (stdU N) N (r * N + c)) (stdU N r c) rfl rfl ho2.out (by have := HL.out; omega) (by have := hB2.out.size; simpa using this) ?_; intro v' w2 ho1 hb1)
            have HO1 := ShO.mk ho1
            have HB1 := ShO.mk (hb1 _ hB2.out)
            clear ho1 hb1
            go_wp2
            go_roundw
            case rel => exact ⟨c + 1, by omega, by go_num, ⟨by rw [HS.out]; exact HO1.out⟩, HB1⟩
            case measure => simp [intOf]; omega
          · obtain rfl : c = N := by omega
            have HS := ShO.mk (gridL_row (stdU c) c r)
            go_wp2
            go_roundw
            case rel => exact ⟨r + 1, by omega, by go_num, ⟨by rw [← HS.out]; exact ho2.out⟩, hB2⟩
            case measure => simp [intOf]; omega
      · obtain rfl : r = N := by omega
        have hcv := conv_rowQ (W := wr.drew) ho.out
        have HG1 := ShO.mk (HG.out.kept hB.out (by simp)).drew
        obtain ⟨hm, hw⟩ := HSQ.out
        obtain ⟨M, hM⟩ : ∃ M, r * r = M := ⟨_, rfl⟩
        rw [hM] at hm hw HR
        have HST := ShO.mk (show (⟨(gridL (stdU r) r M).toArray⟩ : ByteArray) = stdS r by rw [← hM]; rfl)
        rw [hM] at ho hcv
        rw [HST.out] at hcv
        have HBW := ShO.mk (hB0.trans (hB.out.mono (by simp))).drew
        have HO : ShO (OwnB (W.heap.size + 1) wr.drew u4 (gridL (stdU r) r M)) := ⟨ho.out⟩
        clear hM HSQ ho hB
        go_wp2
        go_region_with (go_at_call 95; refine (l02Repeat_any M _ hm).mono ?_; rintro e w2 ⟨rfl, hb2⟩; have hcv2 := conv_rowQ (own_keptQ HO.out hb2); rw [HST.out] at hcv2; have HB2 := ShO.mk (HBW.out.trans (hb2.mono HBW.out.size)); have HG2 := ShO.mk (HG1.out.kept hb2 HG1.out.lt); have c0 := HG2.out.cells; have f0 := HG2.out.marks; clear hb2)
        all_goals
          try go_wp2
          refine bodyPost_ret (v := .tuple #[.agg #[.int .i64 r, .string (stdS r), .string (dotsS M)], .int .i64 0]) (by simp [results, Try.results29, go_sem, c0]) rfl ?_
          rw [HR.out]
          exact ⟨rfl, below_threeO HB2.out (Nat.le_refl _) _ _ _⟩
set_option maxRecDepth 100000 in
set_option maxHeartbeats 4000000 in
theorem implStandardBoard_any (n : Int) (W : World) :
    Calls Try.prog 28 #[.int .i64 n] W fun e w' => e = .returned (bdRes (standOut n)) ∧ Below W.heap.size W w' := by
  have hB0 : Below W.heap.size W (W.alloc (.cells #[.int .i64 0, .string ⟨#[]⟩, .string ⟨#[]⟩] 25)) := (Below.refl _ _).alloc (Nat.le_refl _) _
  have HG := ShO.mk (Blk.made W 25 #[.int .i64 0, .string ⟨#[]⟩, .string ⟨#[]⟩])
  cases hz : sizB n
  · have HZ := ShO.mk hz
    have HR := ShO.mk (standOut_no hz)
    have HE := ShO.mk (show emptyOut n = ((0, ⟨#[]⟩, ⟨#[]⟩), 2) from emptyOut_no hz)
    clear hz
    go_enter Try.func28, Try.ntmps28
    go_wp2_with fail
    refine (implEmptyBoard_any _ _).mono ?_
    rw [HE.out]
    rintro e w1 ⟨rfl, hb1⟩
    have HB1 := ShO.mk (hB0.trans (hb1.mono hB0.size))
    have HG1 := ShO.mk (HG.out.kept hb1 HG.out.lt)
    clear hb1
    have c0 := (HG1.out.alloc (.cells #[.int .i64 0, .string ⟨#[]⟩, .string ⟨#[]⟩] 25)).cells
    have f0 := (HG1.out.alloc (.cells #[.int .i64 0, .string ⟨#[]⟩, .string ⟨#[]⟩] 25)).marks
    go_wp2
    refine bodyPost_ret (v := .tuple #[.agg #[.int .i64 0, .string ⟨#[]⟩, .string ⟨#[]⟩], .int .i64 2]) (by simp [results, Try.results28, go_sem, c0]) rfl ?_
    rw [HR.out]
    exact ⟨rfl, below_threeO (HB1.out.alloc (by have := HB1.out.size; omega) _) (Nat.le_refl _) _ _ _⟩
  · obtain ⟨N, rfl, h5, h15⟩ := nat_of_siz hz
    have HZ := ShO.mk hz
    have HR := ShO.mk (standOut_yes hz)
    have HE := ShO.mk (emptyOut_yes hz)
    clear hz
    go_enter Try.func28, Try.ntmps28
    go_wp2_with fail
    refine (implEmptyBoard_any _ _).mono ?_
    rw [HE.out]
    rintro e w1 ⟨rfl, hb1⟩
    have HB1 := ShO.mk (hB0.trans (hb1.mono hB0.size))
    have HG1 := ShO.mk (HG.out.kept hb1 HG.out.lt)
    obtain ⟨D, hD⟩ : ∃ D, dotsS (N * N) = D := ⟨_, rfl⟩
    rw [hD] at HR
    rw [hD]
    clear hb1
    have HA1 := ShO.mk (HB1.out.alloc HB1.out.size (.cells #[.int .i64 N, .string D, .string D] 25))
    have HK1 := ShO.mk (HG1.out.alloc (.cells #[.int .i64 N, .string D, .string D] 25))
    have HM1 := ShO.mk (Blk.made w1 25 #[.int .i64 N, .string D, .string D])
    have hne : W.heap.size ≠ w1.heap.size := by have := HG1.out.lt; omega
    have hfr := fresh_builder (w1.alloc (.cells #[.int .i64 N, .string D, .string D] 25))
    rw [World.size_alloc] at hfr
    have HFR := ShO.mk hfr
    have HWB := ShO.mk (show Below (w1.heap.size + 1) (w1.alloc (.cells #[.int .i64 N, .string D, .string D] 25)) ((w1.alloc (.cells #[.int .i64 N, .string D, .string D] 25)).alloc (.cells #[.pointer none, .slice none 0 0] 87)) from (Below.refl _ _).alloc (by simp) _)
    clear hfr
    go_wp2
    go_loopw [7, 8, 19, 23] (fun _ _ i _ wr => ∃ r : Nat, r ≤ N ∧ i = .int .i64 r ∧ ShO (IsB (w1.heap.size + 1) (w1.heap.size + 1) (gridL (stdU N) N (r * N)) wr) ∧ ShO (Below (w1.heap.size + 1) (w1.alloc (.cells #[.int .i64 N, .string D, .string D] 25)) wr)) (fun _ _ i _ _ => N - (intOf i).toNat)
    case atStart => exact ⟨0, Nat.zero_le _, rfl, ⟨by rw [Nat.zero_mul]; exact HFR.out⟩, HWB⟩
    case round =>
      obtain ⟨r, hr, rfl, ho, hB⟩ := hrel
      by_cases hlt : r < N
      · go_wp2
        obtain ⟨w2, hw2⟩ : ∃ w2, w2 = wr := ⟨_, rfl⟩
        subst hw2
        go_loopw [8, 23] (fun _ i wr => ∃ c : Nat, c ≤ N ∧ i = .int .i64 c ∧ ShO (IsB (w1.heap.size + 1) (w1.heap.size + 1) (gridL (stdU N) N (r * N + c)) wr) ∧ ShO (Below (w1.heap.size + 1) (w1.alloc (.cells #[.int .i64 N, .string D, .string D] 25)) wr)) (fun _ i _ => N - (intOf i).toNat)
        case atStart => exact ⟨0, Nat.zero_le _, rfl, ho, hB⟩
        case round =>
          obtain ⟨c, hc, rfl, ho2, hB2⟩ := hrel
          by_cases hlt2 : c < N
          · have HS := ShO.mk (gridL_step (stdU N) (n := N) (r := r) hlt2)
            have HL := ShO.mk (grid_small (stdU N) h15 hlt (Nat.le_of_lt hlt2))
            go_wp2_with fail
            refine (standU h5 h15 hlt hlt2 _).mono ?_
            rintro e w3 ⟨rfl, rfl⟩
            go_wp2_with fail
            refine (writeByte_any (w1.heap.size + 1) (w1.heap.size + 1) _ (stdU N r c) _ ho2.out (by have := HL.out; omega) (by have := hB2.out.size; simpa using this)).mono ?_
            rintro e w4 ⟨rfl, ho3, hb3⟩
            have HO3 := ShO.mk ho3
            have HB3 := ShO.mk (hB2.out.trans hb3)
            clear ho3 hb3
            go_wp2
            go_roundw
            case rel => exact ⟨c + 1, by omega, by go_num, ⟨by rw [HS.out]; exact HO3.out⟩, HB3⟩
            case measure => simp [intOf]; omega
          · obtain rfl : c = N := by omega
            have HS := ShO.mk (gridL_row (stdU c) c r)
            go_wp2
            go_roundw
            case rel => exact ⟨r + 1, by omega, by go_num, ⟨by rw [← HS.out]; exact ho2.out⟩, hB2⟩
            case measure => simp [intOf]; omega
      · obtain rfl : r = N := by omega
        have HBD := ho
        go_wp2_with fail
        refine (Try.Builder_String_any (w1.heap.size + 1) (w1.heap.size + 1) _ _ HBD.out (by have := hB.out.size; simpa using this)).mono ?_
        rintro e w5 ⟨rfl, hb5⟩
        have HB5 := ShO.mk (hB.out.trans hb5)
        have HG5 := ShO.mk (HK1.out.kept HB5.out (by have := HG1.out.lt; omega))
        have HM5 := ShO.mk (HM1.out.kept HB5.out (by omega))
        have HW5 := ShO.mk (HA1.out.trans (HB5.out.mono (by have := HB1.out.size; omega)))
        clear hb5
        have c0 := HG5.out.cells
        have f0 := HG5.out.marks
        have c1 := HM5.out.cells
        have f1 := HM5.out.marks
        have HST := ShO.mk (show (⟨(gridL (stdU r) r (r * r)).toArray⟩ : ByteArray) = stdS r from rfl)
        rw [HST.out]
        obtain ⟨P, hP⟩ : ∃ P, stdS r = P := ⟨_, rfl⟩
        rw [hP] at HR
        rw [hP]
        go_wp2
        refine bodyPost_ret (v := .tuple #[.agg #[.int .i64 r, .string P, .string D], .int .i64 0]) (by simp [results, Try.results28, go_sem, c0]) rfl ?_
        rw [HR.out]
        exact ⟨rfl, below_threeO (HW5.out.setCell (p := ⟨w1.heap.size, 1, none⟩) (by have := HB1.out.size; show W.heap.size ≤ w1.heap.size; omega) _) (Nat.le_refl _) _ _ _⟩
end Go.Proofs.Ytpeobloofofnlaa
