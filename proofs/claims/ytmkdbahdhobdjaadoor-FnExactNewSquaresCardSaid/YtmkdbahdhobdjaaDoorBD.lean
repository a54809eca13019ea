/-
  Squares of boards: CellAt and PremiumAt of both sides.
-/
import Derived.Test.YtmkdbahdhobdjaaDoorBC
namespace Go.Proofs.YtmkdbahdhobdjaaDoor
open Go.RowKit

theorem inBd_iff {n r k : Int} : inBd n r k = true ↔ (0 ≤ r ∧ r < n) ∧ (0 ≤ k ∧ k < n) := by
  unfold inBd; simp only [Bool.and_eq_true, decide_eq_true_eq]
theorem at_facts {n r k : Int} (hz : sizB n = true) (h : inBd n r k = true) :
    ∃ I : Nat, IntKind.i64.wrap (r * n) = r * n ∧ IntKind.i64.wrap (r * n + k) = (I : Int) ∧ r * n + k = (I : Int) ∧ (I : Int) < n * n ∧ n * n ≤ 225 ∧ IntKind.i64.wrap (n - 1) = n - 1 := by
  obtain ⟨⟨h0, h1⟩, h2, h3⟩ := inBd_iff.1 h
  obtain ⟨-, -, h5⟩ := mul_small hz
  have h6 := sizB_iff.1 hz
  have h7 : 0 ≤ r * n := Int.mul_nonneg h0 (by omega)
  have h8 : r * n ≤ (n - 1) * n := Int.mul_le_mul_of_nonneg_right (by omega) (by omega)
  have h9 : (n - 1) * n = n * n - n := by rw [Int.sub_mul, Int.one_mul]
  obtain ⟨I, hI⟩ := Int.eq_ofNat_of_zero_le (show 0 ≤ r * n + k by omega)
  refine ⟨I, IntWalk.i64_in _ (by omega), (IntWalk.i64_in _ (by omega)).trans hI, hI, by omega, h5, IntWalk.i64_in _ (by omega)⟩

theorem inO {n l h : Int} {v : Bool} (e : inB n l h = v) (w : World) : Calls Tryd.prog 113 #[.int .i64 n, .int .i64 l, .int .i64 h] w fun e w' => e = .returned (.bool v) ∧ w = w' := by rw [← e]; exact l00In_any n l h w
theorem l11In_any {g : Nat} {n : Int} {p c : ByteArray} (r k : Int) (W : World) (hz : sizB n = true) (hg : Blk W g 27 #[.int .i64 n, .string p, .string c]) :
    Calls Tryd.prog 149 #[.pointer (some ⟨g, 0, none⟩), .int .i64 r, .int .i64 k] W fun e w' => e = .returned (.bool (inBd n r k)) ∧ W = w' := by
  have c0 : W.cell? ⟨g, 0, none⟩ = some (.int .i64 n) := hg.cells 0
  have h6 := sizB_iff.1 hz
  have hw : IntKind.i64.wrap (n - 1) = n - 1 := IntWalk.i64_in _ (by omega)
  cases hb : inB r 0 (n - 1)
  · have HB := ShO.mk hb
    have HR := ShO.mk (show inBd n r k = false by
      rw [Bool.eq_false_iff]; intro e; obtain ⟨⟨h0, h1⟩, -⟩ := inBd_iff.1 e
      rw [inB_iff.2 ⟨h0, by omega⟩] at hb; cases hb)
    clear hb hg hz h6
    go_enter Tryd.func149, Tryd.ntmps149
    go_wp2_with (go_at_call 113; refine (inO HB.out _).mono ?_; rintro e w3 ⟨rfl, rfl⟩)
    go_ret
    exact ⟨ret_bool HR.out.symm, rfl⟩
  · have HB := ShO.mk hb
    have hb' := inB_iff.1 hb
    have HR := ShO.mk (show inBd n r k = inB k 0 (n - 1) by
      cases h2 : inB k 0 (n - 1)
      · rw [Bool.eq_false_iff]; intro e; obtain ⟨-, h0, h1⟩ := inBd_iff.1 e
        rw [inB_iff.2 ⟨h0, by omega⟩] at h2; cases h2
      · have h2' := inB_iff.1 h2
        exact inBd_iff.2 ⟨⟨hb'.1, by omega⟩, h2'.1, by omega⟩)
    clear hb hb' hg hz h6
    go_enter Tryd.func149, Tryd.ntmps149
    go_wp2_with fail
    refine (inO HB.out _).mono ?_
    rintro e w3 ⟨rfl, rfl⟩
    go_wp2_with fail
    refine (l00In_any _ _ _ _).mono ?_
    rintro e w3 ⟨rfl, rfl⟩
    go_wp2
    go_ret
    exact ⟨ret_bool HR.out.symm, rfl⟩
theorem insO {g : Nat} {n r k : Int} {p c : ByteArray} {v : Bool} {W : World} (e : inBd n r k = v) (hz : sizB n = true) (hg : Blk W g 27 #[.int .i64 n, .string p, .string c]) :
    Calls Tryd.prog 149 #[.pointer (some ⟨g, 0, none⟩), .int .i64 r, .int .i64 k] W fun e w' => e = .returned (.bool v) ∧ W = w' := by rw [← e]; exact l11In_any r k W hz hg
set_option maxHeartbeats 1000000 in
theorem l11At_any {g : Nat} {n : Int} {p c : ByteArray} {r k : Int} (W : World) (hz : sizB n = true) (hi : inBd n r k = true) (hc : (c.size : Int) = n * n) (hg : Blk W g 27 #[.int .i64 n, .string p, .string c]) :
    Calls Tryd.prog 126 #[.pointer (some ⟨g, 0, none⟩), .int .i64 r, .int .i64 k] W fun e w' => e = .returned (.int .u8 ((atB c (r * n + k).toNat).toNat : Int)) ∧ ∃ m, w' = W.drewN m := by
  have c0 : W.cell? ⟨g, 0, none⟩ = some (.int .i64 n) := hg.cells 0
  have c2 : W.cell? ⟨g, 2, none⟩ = some (.string c) := hg.cells 2
  obtain ⟨I, h1, h2, h3, h4, h5, -⟩ := at_facts hz hi
  have hlt : I < c.size := by omega
  have HR := ShO.mk (show ((atB c (r * n + k).toNat).toNat : Int) = (c[I].toNat : Int) by rw [h3, Int.toNat_natCast, atB_get hlt])
  obtain ⟨Q, hQ⟩ : ∃ Q, r * n = Q := ⟨_, rfl⟩
  rw [hQ] at h1 h2
  clear hg hc h3 h4 h5 hz hi
  obtain ⟨x, hx⟩ : ∃ x, (c[I].toNat : Int) = x := ⟨_, rfl⟩
  go_enter Tryd.func126, Tryd.ntmps126
  go_wp2
  go_quiet (fail)
  go_wp2
  go_ret
  exact ⟨by rw [HR.out]; simp_all, _, rfl⟩

theorem atOut_no1 {s : ByteArray} {n : Int} {p c : ByteArray} {r k : Int} (h : okBd n p c = false) : atOut s n p c r k = 0 := by unfold atOut; rw [if_neg]; rw [h]; rintro ⟨h1, -⟩; cases h1
theorem atOut_no2 {s : ByteArray} {n : Int} {p c : ByteArray} {r k : Int} (h : inBd n r k = false) : atOut s n p c r k = 0 := by unfold atOut; rw [if_neg]; rw [h]; rintro ⟨-, h1⟩; cases h1
theorem atOut_yes {s : ByteArray} {n : Int} {p c : ByteArray} {r k : Int} (h : okBd n p c = true) (h2 : inBd n r k = true) : atOut s n p c r k = ((atB s (r * n + k).toNat).toNat : Int) := by unfold atOut; rw [if_pos ⟨h, h2⟩]
theorem okBd_siz {n : Int} {p c : ByteArray} (h : okBd n p c = true) : sizB n = true := by
  have := okBd_iff.1 h
  exact sizB_iff.2 ⟨this.low, this.high⟩
theorem ret_u8 {a b : Int} (h : a = b) : Ending.returned (.int .u8 a) = .returned (.int .u8 b) := by rw [h]
theorem l11OkO {g : Nat} {n : Int} {p c : ByteArray} {v : Bool} {W : World} (e : okBd n p c = v) (hg : Blk W g 27 #[.int .i64 n, .string p, .string c]) :
    Calls Tryd.prog 44 #[.pointer (some ⟨g, 0, none⟩)] W fun e w' => e = .returned (.bool v) ∧ ∃ k, w' = W.drewN k := by rw [← e]; exact l11Ok_any W hg

/-! ### The program's -/
theorem hasLine_any (n : Int) (p c : ByteArray) (k : Int) (W : World) :
    Calls Tryd.prog 193 #[.agg #[.int .i64 n, .string p, .string c], .int .i64 k] W fun e w' => e = .returned (.bool (decide (0 ≤ k) && decide (k < n))) ∧ Below W.heap.size W w' := by
  by_cases h : 0 ≤ k
  · have HR := ShO.mk (show (decide (0 ≤ k) && decide (k < n)) = decide (k < n) by rw [decide_eq_true h]; rfl)
    go_enter Tryd.func193, Tryd.ntmps193
    go_wp2
    go_ret
    exact ⟨ret_bool HR.out.symm, (Below.refl _ _).alloc (Nat.le_refl _) _⟩
  · have HR := ShO.mk (show (decide (0 ≤ k) && decide (k < n)) = false by rw [decide_eq_false h]; rfl)
    go_enter Tryd.func193, Tryd.ntmps193
    go_wp2
    go_ret
    exact ⟨ret_bool HR.out.symm, (Below.refl _ _).alloc (Nat.le_refl _) _⟩
theorem hasLineO {n k : Int} {p c : ByteArray} {v : Bool} (e : (decide (0 ≤ k) && decide (k < n)) = v) (W : World) :
    Calls Tryd.prog 193 #[.agg #[.int .i64 n, .string p, .string c], .int .i64 k] W fun e w' => e = .returned (.bool v) ∧ Below W.heap.size W w' := by rw [← e]; exact hasLine_any n p c k W
theorem hasSquare_any (n : Int) (p c : ByteArray) (r k : Int) (W : World) :
    Calls Tryd.prog 175 #[.agg #[.int .i64 n, .string p, .string c], .int .i64 r, .int .i64 k] W fun e w' => e = .returned (.bool (inBd n r k)) ∧ Below W.heap.size W w' := by
  have hB0 : Below W.heap.size W (W.alloc (.cells #[.int .i64 n, .string p, .string c] 27)) := (Below.refl _ _).alloc (Nat.le_refl _) _
  have HG := ShO.mk (Blk.made W 27 #[.int .i64 n, .string p, .string c])
  cases hb : (decide (0 ≤ r) && decide (r < n))
  · have HB := ShO.mk hb
    have HR := ShO.mk (show inBd n r k = false by unfold inBd; rw [hb]; rfl)
    clear hb
    go_enter Tryd.func175, Tryd.ntmps175
    go_wp2_with fail
    refine (hasLineO HB.out _).mono ?_
    rintro e w1 ⟨rfl, hb1⟩
    go_wp2
    go_ret
    exact ⟨ret_bool HR.out.symm, hB0.trans (hb1.mono hB0.size)⟩
  · have HB := ShO.mk hb
    have HR := ShO.mk (show inBd n r k = (decide (0 ≤ k) && decide (k < n)) by unfold inBd; rw [hb]; rfl)
    clear hb
    go_enter Tryd.func175, Tryd.ntmps175
    go_wp2_with fail
    refine (hasLineO HB.out _).mono ?_
    rintro e w1 ⟨rfl, hb1⟩
    have HB1 := ShO.mk (hB0.trans (hb1.mono hB0.size))
    have hg1 := HG.out.kept hb1 HG.out.lt
    have c1 := hg1.cells
    clear hg1 hb1
    go_wp2_with fail
    refine (hasLine_any n p c k _).mono ?_
    rintro e w2 ⟨rfl, hb2⟩
    have HB2 := ShO.mk (HB1.out.trans (hb2.mono HB1.out.size))
    clear hb2 c1
    go_wp2
    go_ret
    exact ⟨ret_bool HR.out.symm, HB2.out⟩
theorem hasSquareO {n r k : Int} {p c : ByteArray} {v : Bool} (e : inBd n r k = v) (W : World) :
    Calls Tryd.prog 175 #[.agg #[.int .i64 n, .string p, .string c], .int .i64 r, .int .i64 k] W fun e w' => e = .returned (.bool v) ∧ Below W.heap.size W w' := by rw [← e]; exact hasSquare_any n p c r k W
theorem validO {n : Int} {p c : ByteArray} {v : Bool} (e : okBd n p c = v) (W : World) :
    Calls Tryd.prog 47 #[.agg #[.int .i64 n, .string p, .string c]] W fun e w' => e = .returned (.bool v) ∧ Below W.heap.size W w' := by rw [← e]; exact implValidBoard_any n p c W
/-- What is on a square, 0 where there is none. -/
def seeC (s : ByteArray) (n r k : Int) : Int := if inBd n r k = true then ((atB s (r * n + k).toNat).toNat : Int) else 0
theorem seeC_no {s : ByteArray} {n r k : Int} (h : inBd n r k = false) : seeC s n r k = 0 := by unfold seeC; rw [h]; rfl
theorem seeC_yes {s : ByteArray} {n r k : Int} (h : inBd n r k = true) : seeC s n r k = ((atB s (r * n + k).toNat).toNat : Int) := by unfold seeC; rw [h]; rfl
theorem atOut_see {s : ByteArray} {n : Int} {p c : ByteArray} {r k : Int} (h : okBd n p c = true) : atOut s n p c r k = seeC s n r k := by
  cases hi : inBd n r k
  · rw [atOut_no2 hi, seeC_no hi]
  · rw [atOut_yes h hi, seeC_yes hi]
set_option maxHeartbeats 1000000 in
theorem at_any (s : ByteArray) (n : Int) (p c : ByteArray) (r k : Int) (W : World) (hz : sizB n = true) (hs : (s.size : Int) = n * n) :
    Calls Tryd.prog 152 #[.agg #[.int .i64 n, .string p, .string c], .string s, .int .i64 r, .int .i64 k] W fun e w' => e = .returned (.int .u8 (seeC s n r k)) ∧ Below W.heap.size W w' := by
  have hB0 : Below W.heap.size W (W.alloc (.cells #[.int .i64 n, .string p, .string c] 27)) := (Below.refl _ _).alloc (Nat.le_refl _) _
  have HG := ShO.mk (Blk.made W 27 #[.int .i64 n, .string p, .string c])
  cases hi : inBd n r k
  · have HI := ShO.mk hi
    have HR := ShO.mk (seeC_no (s := s) hi)
    clear hi hs hz
    go_enter Tryd.func152, Tryd.ntmps152
    go_wp2_with fail
    refine (hasSquareO HI.out _).mono ?_
    rintro e w2 ⟨rfl, hb2⟩
    have HB2 := ShO.mk (hB0.trans (hb2.mono hB0.size))
    clear hb2
    go_wp2
    go_ret
    exact ⟨ret_u8 HR.out.symm, HB2.out⟩
  · have HI := ShO.mk hi
    obtain ⟨I, h1, h2, h3, h4, h5, -⟩ := at_facts hz hi
    have hlt : I < s.size := by omega
    have HR := ShO.mk ((seeC_yes (s := s) hi).trans (show ((atB s (r * n + k).toNat).toNat : Int) = (s[I].toNat : Int) by rw [h3, Int.toNat_natCast, atB_get hlt]))
    obtain ⟨Q, hQ⟩ : ∃ Q, r * n = Q := ⟨_, rfl⟩
    rw [hQ] at h1 h2
    clear hi h3 h4 h5 hs hz
    obtain ⟨x, hx⟩ : ∃ x, (s[I].toNat : Int) = x := ⟨_, rfl⟩
    have HR2 := ShO.mk (HR.out.trans hx)
    clear HR
    go_enter Tryd.func152, Tryd.ntmps152
    go_wp2_with fail
    refine (hasSquareO HI.out _).mono ?_
    rintro e w2 ⟨rfl, hb2⟩
    have HB2 := ShO.mk (hB0.trans (hb2.mono hB0.size))
    have hg2 := HG.out.kept hb2 HG.out.lt
    have d0 : w2.cell? ⟨W.heap.size, 0, none⟩ = some (.int .i64 n) := hg2.cells 0
    clear hb2 hg2
    go_wp2
    go_ret
    exact ⟨ret_u8 HR2.out.symm, HB2.out⟩
end Go.Proofs.YtmkdbahdhobdjaaDoor
