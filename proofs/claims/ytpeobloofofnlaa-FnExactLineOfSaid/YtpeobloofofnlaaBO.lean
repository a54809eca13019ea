/-
  LineOf: the program's.
-/
import Derived.Test.YtpeobloofofnlaaBN
import Derived.Test.YtpeobloofofnlaaBL
namespace Go.Proofs.Ytpeobloofofnlaa
open Go.RowKit

theorem same_strO (s : ByteArray) : (s.toList == s.toList) = true := by simp
set_option maxRecDepth 100000 in
set_option maxHeartbeats 4000000 in
theorem implLineOf_any (n : Int) (p c : ByteArray) (k : Int) (d : Bool) (W : World) :
    Calls Try.prog 73 #[.agg #[.int .i64 n, .string p, .string c], .int .i64 k, .bool d] W fun e w' => e = .returned (.tuple #[.string (lineOutB n p c k d).1, .int .i64 (lineOutB n p c k d).2]) ∧ Below W.heap.size W w' := by
  have hB0 : Below W.heap.size W (W.alloc (.cells #[.int .i64 n, .string p, .string c] 25)) := (Below.refl _ _).alloc (Nat.le_refl _) _
  have HG := ShO.mk (Blk.made W 25 #[.int .i64 n, .string p, .string c])
  cases hok : okBd n p c
  · have HK := ShO.mk hok
    have HR := ShO.mk (lineO_no (k := k) (d := d) hok)
    clear hok
    go_enter Try.func73, Try.ntmps73
    go_wp2_with fail
    refine (validO HK.out _).mono ?_
    rintro e w1 ⟨rfl, hb1⟩
    go_wp2
    go_ret2
    rw [HR.out]
    exact ⟨rfl, hB0.trans (hb1.mono hB0.size)⟩
  · have HK := ShO.mk hok
    by_cases hin : 0 ≤ k ∧ k < n
    · obtain ⟨N, rfl, h5, h15, hps, hcs⟩ := okBd_nat hok
      obtain ⟨K, rfl⟩ := Int.eq_ofNat_of_zero_le hin.1
      have hkn : K < N := by omega
      have HL := ShO.mk (show (decide ((0 : Int) ≤ (K : Int)) && decide ((K : Int) < (N : Int))) = true by simp; omega)
      have HCS := ShO.mk hcs
      have HFE := ShO.mk (rfl : fieldA N (sqF c N) = fieldA N (sqF c N))
      obtain ⟨FA, hFA⟩ : ∃ FA, FA = fieldA N (sqF c N) := ⟨_, rfl⟩
      have HFA := ShO.mk hFA
      have HF := ShO.mk (fun w => hFA ▸ fieldOf_any N c w h15 hcs)
      cases d
      · have HR := ShO.mk (lineO_row hok hkn)
        clear hok hin hps hcs hFA HFE
        go_enter Try.func73, Try.ntmps73
        go_wp2_with fail
        refine (validO HK.out _).mono ?_
        rintro e w1 ⟨rfl, hb1⟩
        have HB1 := ShO.mk (hB0.trans (hb1.mono hB0.size))
        have HG1 := ShO.mk (HG.out.kept hb1 HG.out.lt)
        have c1 := HG1.out.cells
        clear hb1
        go_wp2_with fail
        refine (hasLineO HL.out _).mono ?_
        rintro e w2 ⟨rfl, hb2⟩
        have HB2 := ShO.mk (HB1.out.trans (hb2.mono HB1.out.size))
        have HG2 := ShO.mk (HG1.out.kept hb2 HG1.out.lt)
        have e0 : w2.cell? ⟨W.heap.size, 0, none⟩ = some (.int .i64 N) := HG2.out.cells 0
        have e2 : w2.cell? ⟨W.heap.size, 2, none⟩ = some (.string c) := HG2.out.cells 2
        clear c1 hb2
        go_wp2_with fail
        refine (HF.out _).mono ?_
        rintro e w3 ⟨rfl, hb3⟩
        have HB3 := ShO.mk (HB2.out.trans (hb3.mono HB2.out.size))
        clear hb3 e0 e2
        go_wp2_with fail
        refine (row_any _ HFA h15 hkn).mono ?_
        rintro e w4 ⟨rfl, hb4⟩
        have HB4 := ShO.mk (HB3.out.trans (hb4.mono HB3.out.size))
        clear hb4
        go_wp2
        go_ret2
        rw [HR.out]
        exact ⟨rfl, HB4.out⟩
      · have HR := ShO.mk (lineO_col hok hkn)
        clear hok hin hps hcs hFA HFE
        go_enter Try.func73, Try.ntmps73
        go_wp2_with fail
        refine (validO HK.out _).mono ?_
        rintro e w1 ⟨rfl, hb1⟩
        have HB1 := ShO.mk (hB0.trans (hb1.mono hB0.size))
        have HG1 := ShO.mk (HG.out.kept hb1 HG.out.lt)
        have c1 := HG1.out.cells
        clear hb1
        go_wp2_with fail
        refine (hasLineO HL.out _).mono ?_
        rintro e w2 ⟨rfl, hb2⟩
        have HB2 := ShO.mk (HB1.out.trans (hb2.mono HB1.out.size))
        have HG2 := ShO.mk (HG1.out.kept hb2 HG1.out.lt)
        have e0 : w2.cell? ⟨W.heap.size, 0, none⟩ = some (.int .i64 N) := HG2.out.cells 0
        have e2 : w2.cell? ⟨W.heap.size, 2, none⟩ = some (.string c) := HG2.out.cells 2
        clear c1 hb2
        go_wp2_with fail
        refine (HF.out _).mono ?_
        rintro e w3 ⟨rfl, hb3⟩
        have HB3 := ShO.mk (HB2.out.trans (hb3.mono HB2.out.size))
        clear hb3 e0 e2
        go_wp2_with fail
        refine (column_any _ HFA h15 hkn).mono ?_
        rintro e w4 ⟨rfl, hb4⟩
        have HB4 := ShO.mk (HB3.out.trans (hb4.mono HB3.out.size))
        clear hb4
        go_wp2
        go_ret2
        rw [HR.out]
        exact ⟨rfl, HB4.out⟩
    · have HL := ShO.mk (show (decide (0 ≤ k) && decide (k < n)) = false by
        rw [Bool.eq_false_iff]; intro e; rw [Bool.and_eq_true, decide_eq_true_eq, decide_eq_true_eq] at e; exact hin e)
      have HR := ShO.mk (lineO_out (d := d) hok hin)
      clear hok hin
      go_enter Try.func73, Try.ntmps73
      go_wp2_with fail
      refine (validO HK.out _).mono ?_
      rintro e w1 ⟨rfl, hb1⟩
      have HB1 := ShO.mk (hB0.trans (hb1.mono hB0.size))
      have HG1 := ShO.mk (HG.out.kept hb1 HG.out.lt)
      have c1 := HG1.out.cells
      clear hb1
      go_wp2_with fail
      refine (hasLineO HL.out _).mono ?_
      rintro e w2 ⟨rfl, hb2⟩
      have HB2 := ShO.mk (HB1.out.trans (hb2.mono HB1.out.size))
      clear c1 hb2
      go_wp2
      go_ret2
      rw [HR.out]
      exact ⟨rfl, HB2.out⟩
/-! ### The model's LineOf -/
set_option maxRecDepth 100000 in
set_option maxHeartbeats 4000000 in
theorem specLineOf_any (n : Int) (p c : ByteArray) (k : Int) (d : Bool) (W : World) :
    Calls Try.prog 72 #[.agg #[.int .i64 n, .string p, .string c], .int .i64 k, .bool d] W fun e w' => e = .returned (.tuple #[.string (lineOutB n p c k d).1, .int .i64 (lineOutB n p c k d).2]) ∧ Below W.heap.size W w' := by
  have HB0 := ShO.mk (show Below W.heap.size W (W.alloc (.cells #[.int .i64 n, .string p, .string c] 25)) from (Below.refl _ _).alloc (Nat.le_refl _) _)
  have HG := ShO.mk (Blk.made W 25 #[.int .i64 n, .string p, .string c])
  cases hok : okBd n p c
  · have HK := ShO.mk hok
    have HR := ShO.mk (lineO_no (k := k) (d := d) hok)
    clear hok
    go_enter Try.func72, Try.ntmps72
    go_wp2_with fail
    refine (l11OkO HK.out HG.out).mono ?_
    rintro e w1 ⟨rfl, m, rfl⟩
    go_wp2
    go_ret2
    rw [HR.out]
    exact ⟨rfl, below_drewO HB0.out m⟩
  · have HK := ShO.mk hok
    have hsz := sizB_iff.1 (okBd_siz hok)
    have hw1 : IntKind.i64.wrap (n - 1) = n - 1 := IntWalk.i64_in _ (by omega)
    by_cases hin : 0 ≤ k ∧ k < n
    · have HI := ShO.mk (show inB k 0 (n - 1) = true from inB_iff.2 ⟨hin.1, by omega⟩)
      obtain ⟨N, rfl, h5, h15, hps, hcs⟩ := okBd_nat hok
      obtain ⟨K, rfl⟩ := Int.eq_ofNat_of_zero_le hin.1
      have hkn : K < N := by omega
      have HCS := ShO.mk hcs
      have HPS := ShO.mk hps
      cases d
      · have HR := ShO.mk (lineO_row hok hkn)
        clear hok hin hps hcs hsz
        go_enter Try.func72, Try.ntmps72
        go_wp2_with fail
        refine (l11OkO HK.out HG.out).mono ?_
        rintro e w1 ⟨rfl, m, rfl⟩
        have hg1 := HG.out.drewN m
        have e0 := hg1.cells 0
        clear hg1
        go_wp2_with fail
        refine (inO HI.out _).mono ?_
        rintro e w2 ⟨rfl, rfl⟩
        go_wp2_with fail
        refine (l11Line_any _ h15 hkn HCS.out (HG.out.drewN m)).mono ?_
        rintro e w3 ⟨rfl, m2, rfl⟩
        go_wp2
        go_ret2
        rw [HR.out]
        exact ⟨rfl, below_drewO HB0.out _⟩
      · have HR := ShO.mk (lineO_col hok hkn)
        have HT := ShO.mk (rowL_turn (s := c) hkn)
        have HTS := ShO.mk (turnS_size N c)
        clear hok hin hps hcs hsz
        obtain ⟨P, hP⟩ : ∃ P, turnS N p = P := ⟨_, rfl⟩
        obtain ⟨C, hC⟩ : ∃ C, turnS N c = C := ⟨_, rfl⟩
        have HP := ShO.mk hP
        have HC := ShO.mk hC
        rw [hC] at HT HTS
        clear hP hC
        go_enter Try.func72, Try.ntmps72
        go_wp2_with fail
        refine (l11OkO HK.out HG.out).mono ?_
        rintro e w1 ⟨rfl, m, rfl⟩
        have hg1 := HG.out.drewN m
        have e0 := hg1.cells 0
        clear hg1
        go_wp2_with fail
        refine (inO HI.out _).mono ?_
        rintro e w2 ⟨rfl, rfl⟩
        have HBm := ShO.mk (below_drewO HB0.out m)
        go_wp2_with fail
        refine (l11Transpose_any _ h15 HPS.out HCS.out (HG.out.drewN m)).mono ?_
        rw [HP.out, HC.out]
        rintro e w3 ⟨rfl, hb3⟩
        have HB3 := ShO.mk (HBm.out.trans (hb3.mono HBm.out.size))
        have HG3 := ShO.mk ((HG.out.drewN m).kept hb3 (HG.out.drewN m).lt)
        clear hb3 e0
        have c0 := HG3.out.cells
        have f0 := HG3.out.marks
        have s1 := HG3.out.stored 0 (.int .i64 N)
        have s2 := s1.stored 1 (.string P)
        have s3 := ShO.mk (s2.stored 2 (.string C))
        have HB4 := ShO.mk (below_threeO HB3.out (Nat.le_refl _) (.int .i64 N) (.string P) (.string C))
        clear s1 s2
        go_wp2_with fail
        refine (l11Line_any _ h15 hkn HTS.out s3.out).mono ?_
        rintro e w5 ⟨rfl, m2, rfl⟩
        go_wp2
        go_ret2
        rw [HR.out, ← HT.out]
        exact ⟨rfl, below_drewO HB4.out m2⟩
    · have HI := ShO.mk (show inB k 0 (n - 1) = false from inB_no (fun h => hin ⟨h.1, by omega⟩))
      have HR := ShO.mk (lineO_out (d := d) hok hin)
      clear hok hin hsz
      go_enter Try.func72, Try.ntmps72
      go_wp2_with fail
      refine (l11OkO HK.out HG.out).mono ?_
      rintro e w1 ⟨rfl, m, rfl⟩
      have hg1 := HG.out.drewN m
      have e0 := hg1.cells 0
      clear hg1
      go_wp2_with fail
      refine (inO HI.out _).mono ?_
      rintro e w2 ⟨rfl, rfl⟩
      go_wp2
      go_ret2
      rw [HR.out]
      exact ⟨rfl, below_drewO HB0.out m⟩
end Go.Proofs.Ytpeobloofofnlaa
