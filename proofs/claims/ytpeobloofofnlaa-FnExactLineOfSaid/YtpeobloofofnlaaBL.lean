/-
  Rows and columns: the model's TransposeBoard and LineOf, whole.
-/
import Derived.Test.YtpeobloofofnlaaBK
namespace Go.Proofs.Ytpeobloofofnlaa
open Go.RowKit

theorem turnOut_no {n : Int} {p c : ByteArray} (h : okBd n p c = false) : turnOut n p c = (noBd, 1) := by unfold turnOut; rw [h]; rfl
theorem turnOut_yes {N : Nat} {p c : ByteArray} (h : okBd (N : Int) p c = true) : turnOut (N : Int) p c = (((N : Int), turnS N p, turnS N c), 0) := by unfold turnOut; rw [h]; rfl
theorem lineO_no {n : Int} {p c : ByteArray} {k : Int} {d : Bool} (h : okBd n p c = false) : lineOutB n p c k d = (⟨#[]⟩, 1) := by unfold lineOutB; rw [h]; rfl
theorem lineO_out {n : Int} {p c : ByteArray} {k : Int} {d : Bool} (h : okBd n p c = true) (hk : ¬ (0 ≤ k ∧ k < n)) : lineOutB n p c k d = (⟨#[]⟩, 2) := by unfold lineOutB; rw [if_pos h, if_neg hk]
theorem lineO_row {N K : Nat} {p c : ByteArray} (h : okBd (N : Int) p c = true) (hk : K < N) : lineOutB (N : Int) p c (K : Int) false = (⟨(rowL N c K).toArray⟩, 0) := by
  unfold lineOutB; rw [if_pos h, if_pos ⟨by omega, by omega⟩]; rfl
theorem lineO_col {N K : Nat} {p c : ByteArray} (h : okBd (N : Int) p c = true) (hk : K < N) : lineOutB (N : Int) p c (K : Int) true = (⟨(colL N c K).toArray⟩, 0) := by
  unfold lineOutB; rw [if_pos h, if_pos ⟨by omega, by omega⟩]; rfl
theorem turnS_at {N r c : Nat} {s : ByteArray} (hr : r < N) (hc : c < N) : atB (turnS N s) (r * N + c) = atB s (c * N + r) := by
  have h := row_lt hr hc
  unfold atB turnS
  show ((turnL N s).toArray.toList).getD (r * N + c) 0 = _
  rw [List.toList_toArray, List.getD_eq_getElem?_getD, List.getElem?_eq_getElem (by rw [turnL_len]; exact h)]
  unfold turnL
  rw [gridL_get _ _ _ _ h, div_row hc, mod_row hc]
  rfl
theorem rowL_turn {N K : Nat} {s : ByteArray} (hk : K < N) : rowL N (turnS N s) K = colL N s K := by
  unfold rowL colL
  exact List.map_congr_left fun c hc => turnS_at hk (List.mem_range.1 hc)
theorem okBd_nat {n : Int} {p c : ByteArray} (h : okBd n p c = true) : ∃ N : Nat, n = (N : Int) ∧ 5 ≤ N ∧ N ≤ 15 ∧ p.size = N * N ∧ c.size = N * N := (okBd_iff.1 h).nat
set_option maxRecDepth 100000 in
set_option maxHeartbeats 2000000 in
theorem specTransposeBoard_any (n : Int) (p c : ByteArray) (W : World) :
    Calls Try.prog 70 #[.agg #[.int .i64 n, .string p, .string c]] W fun e w' => e = .returned (bdRes (turnOut n p c)) ∧ Below W.heap.size W w' := by
  have hA : Below W.heap.size W (W.alloc (.cells #[.int .i64 n, .string p, .string c] 25)) := (Below.refl _ _).alloc (Nat.le_refl _) _
  have HBa := ShO.mk (hA.alloc (by simp) (.cells #[.int .i64 0, .string ⟨#[]⟩, .string ⟨#[]⟩] 25))
  have HG := ShO.mk ((Blk.made W 25 #[.int .i64 n, .string p, .string c]).alloc (.cells #[.int .i64 0, .string ⟨#[]⟩, .string ⟨#[]⟩] 25))
  have hr0 := Blk.made (W.alloc (.cells #[.int .i64 n, .string p, .string c] 25)) 25 #[.int .i64 0, .string ⟨#[]⟩, .string ⟨#[]⟩]
  rw [World.size_alloc] at hr0
  have HRB := ShO.mk hr0
  clear hA hr0
  cases hok : okBd n p c
  · have HK := ShO.mk hok
    have HR := ShO.mk (turnOut_no hok)
    clear hok
    go_enter Try.func70, Try.ntmps70
    go_wp2_with fail
    refine (l11OkO HK.out HG.out).mono ?_
    rintro e w1 ⟨rfl, m, rfl⟩
    have c0 := (HRB.out.drewN m).cells
    have f0 := (HRB.out.drewN m).marks
    go_wp2
    refine bodyPost_ret (v := .tuple #[.agg #[.int .i64 0, .string ⟨#[]⟩, .string ⟨#[]⟩], .int .i64 1]) (by simp [results, Try.results70, go_sem, c0]) rfl ?_
    rw [HR.out]
    exact ⟨rfl, below_threeO (below_drewO HBa.out m) (Nat.le_succ _) _ _ _⟩
  · obtain ⟨N, rfl, h5, h15, hps, hcs⟩ := okBd_nat hok
    have HK := ShO.mk hok
    have HR := ShO.mk (turnOut_yes hok)
    have HPS := ShO.mk hps
    have HCS := ShO.mk hcs
    obtain ⟨P, hP⟩ : ∃ P, turnS N p = P := ⟨_, rfl⟩
    obtain ⟨C, hC⟩ : ∃ C, turnS N c = C := ⟨_, rfl⟩
    have HP := ShO.mk hP
    have HC := ShO.mk hC
    rw [hP, hC] at HR
    clear hok hps hcs hP hC
    go_enter Try.func70, Try.ntmps70
    go_wp2_with fail
    refine (l11OkO HK.out HG.out).mono ?_
    rintro e w1 ⟨rfl, m, rfl⟩
    have HBm := ShO.mk (below_drewO HBa.out m)
    go_wp2_with fail
    refine (l11Transpose_any _ h15 HPS.out HCS.out (HG.out.drewN m)).mono ?_
    rw [HP.out, HC.out]
    rintro e w2 ⟨rfl, hb2⟩
    have HB2 := ShO.mk (HBm.out.trans (hb2.mono HBm.out.size))
    have HR2 := ShO.mk ((HRB.out.drewN m).kept hb2 (HRB.out.drewN m).lt)
    clear hb2
    have c0 := HR2.out.cells
    have f0 := HR2.out.marks
    go_wp2
    refine bodyPost_ret (v := .tuple #[.agg #[.int .i64 N, .string P, .string C], .int .i64 0]) (by simp [results, Try.results70, go_sem, c0]) rfl ?_
    rw [HR.out]
    exact ⟨rfl, below_threeO HB2.out (Nat.le_succ _) _ _ _⟩

/-! ### LineOf -/
set_option maxRecDepth 100000 in
set_option maxHeartbeats 2000000 in
theorem l11Line_any {g N K : Nat} {p c : ByteArray} (W : World) (h15 : N ≤ 15) (hk : K < N) (hc : c.size = N * N) (hg : Blk W g 25 #[.int .i64 N, .string p, .string c]) :
    Calls Try.prog 157 #[.pointer (some ⟨g, 0, none⟩), .int .i64 (K : Int)] W fun e w' => e = .returned (.string ⟨(rowL N c K).toArray⟩) ∧ ∃ m, w' = W.drewN m := by
  have c0 : W.cell? ⟨g, 0, none⟩ = some (.int .i64 N) := hg.cells 0
  have c2 : W.cell? ⟨g, 2, none⟩ = some (.string c) := hg.cells 2
  have HR := ShO.mk (show c.extract (K * N) ((K + 1) * N) = ⟨(rowL N c K).toArray⟩ by
    apply Go.WideShapes.bytes_inj
    rw [rowL_cut hc hk])
  have hN2 : N * N ≤ 15 * 15 := Nat.mul_le_mul h15 h15
  have hle : (K + 1) * N ≤ N * N := Nat.mul_le_mul_right N hk
  have hle0 : K * N ≤ (K + 1) * N := Nat.mul_le_mul_right N (Nat.le_succ K)
  have hw1 : IntKind.i64.wrap ((K : Int) * (N : Int)) = ((K * N : Nat) : Int) := by rw [← Int.natCast_mul]; exact IntWalk.i64_in _ (by omega)
  have hw2 : IntKind.i64.wrap ((K : Int) + 1) = ((K + 1 : Nat) : Int) := (IntWalk.i64_in _ (by omega)).trans (by omega)
  have hw3 : IntKind.i64.wrap (((K + 1 : Nat) : Int) * (N : Int)) = (((K + 1) * N : Nat) : Int) := by rw [← Int.natCast_mul]; exact IntWalk.i64_in _ (by omega)
  obtain ⟨A, hA⟩ : ∃ A, K * N = A := ⟨_, rfl⟩
  obtain ⟨K1, hK1⟩ : ∃ K1, K + 1 = K1 := ⟨_, rfl⟩
  rw [hK1] at hw2 hw3 HR hle hle0
  obtain ⟨B, hB⟩ : ∃ B, K1 * N = B := ⟨_, rfl⟩
  rw [hA] at hw1 HR hle0
  rw [hB] at hw3 HR hle hle0
  have hBc : B ≤ c.size := by omega
  have hd1 : decide ((0 : Int) ≤ (A : Int)) = true := decide_eq_true (by omega)
  have hd2 : decide ((A : Int) ≤ (B : Int)) = true := decide_eq_true (by omega)
  have hd3 : decide ((B : Int) ≤ (c.size : Int)) = true := decide_eq_true (by omega)
  have hd4 : decide (A ≤ B) = true := decide_eq_true (by omega)
  have hd5 : decide (B ≤ c.size) = true := decide_eq_true (by omega)
  clear hA hK1 hB hN2 hle hg
  go_enter Try.func157, Try.ntmps157
  go_wp2
  go_quiet (fail)
  go_wp2
  go_ret
  exact ⟨by rw [HR.out]; rfl, _, rfl⟩
end Go.Proofs.Ytpeobloofofnlaa
