/-
  Valid boards: ValidBoard of both sides. The laws' sizes, copies and comparisons of boards.
-/
import Derived.Test.YtmkdbahdhobdjaaDoorBB
import Derived.Deep.RegionHeld3
import Derived.Deep.QuietTactic
import Derived.BigQuiet
namespace Go.Proofs.YtmkdbahdhobdjaaDoor
open Go.RowKit

theorem quietO {P : Program} {f : FuncId} {args : Array Value} {w : World} {n : Nat} {v : Value} (h : Calls P f args (w.drewN n) fun e w' => e = .returned v ∧ w.drewN n = w') : Calls P f args (w.drewN n) fun e w'' => e = .returned v ∧ ∃ m, w'' = w.drewN m :=
  h.mono fun _ _ ⟨he, hm⟩ => ⟨he, n, hm.symm⟩
theorem sizeO {n : Int} {v : Bool} (h : sizB n = v) (w : World) : Calls Tryd.prog 68 #[.int .i64 n] w fun e w' => e = .returned (.bool v) ∧ w = w' := by rw [← h]; exact l11Size_any n w
theorem cellO {n : Int} {v : Bool} (h : cellI n = v) (w : World) : Calls Tryd.prog 83 #[.int .u8 n] w fun e w' => e = .returned (.bool v) ∧ w = w' := by rw [← h]; exact l11Cell_any n w
theorem premO {n : Int} {v : Bool} (h : premI n = v) (w : World) : Calls Tryd.prog 84 #[.int .u8 n] w fun e w' => e = .returned (.bool v) ∧ w = w' := by rw [← h]; exact l11Premium_any n w
theorem mul_small {n : Int} (h : sizB n = true) : IntKind.i64.wrap (n * n) = n * n ∧ 0 ≤ n * n ∧ n * n ≤ 225 := by
  obtain ⟨h5, h15⟩ := sizB_iff.1 h
  have h1 : n * n ≤ 15 * 15 := Int.mul_le_mul h15 h15 (by omega) (by omega)
  have h2 : 0 ≤ n * n := Int.mul_nonneg (by omega) (by omega)
  exact ⟨IntWalk.i64_in _ (by omega), h2, by omega⟩
/-- The first k squares are good. -/
def sqTo (p c : ByteArray) (k : Nat) : Bool := allC cellI (c.data.toList.take k) && allC premI (p.data.toList.take k)
theorem sqTo_succ {p c : ByteArray} {k : Nat} (hc : k < c.size) (hp : k < p.size) : sqTo p c (k + 1) = (sqTo p c k && (cellI (c[k].toNat : Int) && premI (p[k].toNat : Int))) := by
  unfold sqTo
  rw [allC_grows cellI c k hc, allC_grows premI p k hp]
  cases allC cellI (c.data.toList.take k) <;> cases allC premI (p.data.toList.take k) <;> cases cellI (c[k].toNat : Int) <;> cases premI (p[k].toNat : Int) <;> rfl
theorem okBd_small {n : Int} {p c : ByteArray} (h : sizB n = false) : okBd n p c = false := by unfold okBd; rw [h]; rfl
theorem okBd_ps {n : Int} {p c : ByteArray} (h : (p.size : Int) ≠ n * n) : okBd n p c = false := by unfold okBd; rw [decide_eq_false h]; cases sizB n <;> rfl
theorem okBd_cs {n : Int} {p c : ByteArray} (h : (c.size : Int) ≠ n * n) : okBd n p c = false := by
  unfold okBd; rw [decide_eq_false h]; cases sizB n <;> cases decide ((p.size : Int) = n * n) <;> cases allC premI p.data.toList <;> rfl
theorem okBd_cell {n : Int} {p c : ByteArray} {k : Nat} (h : k < c.size) (hb : cellI (c[k].toNat : Int) = false) : okBd n p c = false := by
  refine okBd_no fun h' => ?_
  have := allC_not cellI c k h hb
  rw [h'.cell] at this
  cases this
theorem okBd_prem {n : Int} {p c : ByteArray} {k : Nat} (h : k < p.size) (hb : premI (p[k].toNat : Int) = false) : okBd n p c = false := by
  refine okBd_no fun h' => ?_
  have := allC_not premI p k h hb
  rw [h'.prem] at this
  cases this
theorem okBd_all {n : Int} {p c : ByteArray} (h : sizB n = true) (hp : (p.size : Int) = n * n) (hc : (c.size : Int) = n * n) (ha : sqTo p c c.size = true) : okBd n p c = true := by
  have e : p.size = c.size := by omega
  unfold sqTo at ha
  rw [take_all, ← e, take_all, Bool.and_eq_true] at ha
  obtain ⟨h5, h15⟩ := sizB_iff.1 h
  exact okBd_iff.2 ⟨h5, h15, hp, hc, ha.2, ha.1⟩

set_option maxRecDepth 100000 in
set_option maxHeartbeats 4000000 in
theorem l11Ok_any {g : Nat} {n : Int} {p c : ByteArray} (W : World) (hg : Blk W g 27 #[.int .i64 n, .string p, .string c]) :
    Calls Tryd.prog 44 #[.pointer (some ⟨g, 0, none⟩)] W fun e w' => e = .returned (.bool (okBd n p c)) ∧ ∃ k, w' = W.drewN k := by
  have c0 : W.cell? ⟨g, 0, none⟩ = some (.int .i64 n) := hg.cells 0
  have c1 : W.cell? ⟨g, 1, none⟩ = some (.string p) := hg.cells 1
  have c2 : W.cell? ⟨g, 2, none⟩ = some (.string c) := hg.cells 2
  cases hz : sizB n
  · have HZ := ShO.mk hz
    have HR := ShO.mk (okBd_small (p := p) (c := c) hz)
    clear hz hg
    go_enter Tryd.func44, Tryd.ntmps44
    go_wp2
    go_quiet (first | (go_at_call 68; exact quietO (sizeO HZ.out _)))
    go_wp2
    go_ret
    exact ⟨ret_bool HR.out.symm, _, rfl⟩
  · have HZ := ShO.mk hz
    obtain ⟨hm, hm0, hm1⟩ := mul_small hz
    have HPS := fun h => ShO.mk (okBd_ps (n := n) (p := p) (c := c) h)
    have HCS := fun h => ShO.mk (okBd_cs (n := n) (p := p) (c := c) h)
    have HAL := fun hp hc ha => ShO.mk (okBd_all (n := n) (p := p) (c := c) hz hp hc ha)
    obtain ⟨M, hM⟩ : ∃ M, n * n = M := ⟨_, rfl⟩
    rw [hM] at hm hm0 hm1 HPS HCS HAL
    clear hz
    by_cases hp : (p.size : Int) = M
    · by_cases hc : (c.size : Int) = M
      · have HAL' := ShO.mk (HAL hp hc)
        have e1 : ((p.size : Int) != M) = false := by simp [hp]
        have e2 : ((c.size : Int) != M) = false := by simp [hc]
        have HE := ShO.mk (show p.size = c.size by omega)
        have hcM : c.size ≤ 225 := by omega
        clear HPS HCS HAL hp hc hg
        go_enter Tryd.func44, Tryd.ntmps44
        go_wp2
        go_quiet (first | (go_at_call 68; exact quietO (sizeO HZ.out _)))
        go_wp2
        go_loop [3] (fun i => ∃ k : Nat, k ≤ c.size ∧ i = .int .i64 k ∧ ShO (sqTo p c k = true)) (fun i => c.size - (intOf i).toNat)
        case atStart => exact ⟨0, Nat.zero_le _, rfl, ⟨rfl⟩⟩
        case round =>
          obtain ⟨k, hk, rfl, ha⟩ := hrel
          by_cases hlt : k < c.size
          · have hltp : k < p.size := by have := HE.out; omega
            have HS := ShO.mk (sqTo_succ hlt hltp)
            have hcb := okBd_cell (n := n) (p := p) hlt
            have hpb := okBd_prem (n := n) (c := c) hltp
            cases hb : cellI (c[k].toNat : Int)
            · have HB := ShO.mk hb
              have HR := ShO.mk (hcb hb)
              clear hcb hpb hb
              go_wp2_with (first | (go_at_call 83; refine (cellO HB.out _).mono ?_; rintro e w' ⟨rfl, rfl⟩))
              go_ret
              exact ⟨ret_bool HR.out.symm, _, rfl⟩
            · have HB := ShO.mk hb
              cases hb2 : premI (p[k].toNat : Int)
              · have HB2 := ShO.mk hb2
                have HR := ShO.mk (hpb hb2)
                clear hcb hpb hb hb2
                go_wp2_with (first | (go_at_call 83; refine (cellO HB.out _).mono ?_; rintro e w' ⟨rfl, rfl⟩) | (go_at_call 84; refine (premO HB2.out _).mono ?_; rintro e w' ⟨rfl, rfl⟩))
                go_ret
                exact ⟨ret_bool HR.out.symm, _, rfl⟩
              · have HB2 := ShO.mk hb2
                clear hcb hpb hb hb2
                go_wp2_with (first | (go_at_call 83; refine (cellO HB.out _).mono ?_; rintro e w' ⟨rfl, rfl⟩) | (go_at_call 84; refine (premO HB2.out _).mono ?_; rintro e w' ⟨rfl, rfl⟩))
                go_round
                case rel => exact ⟨k + 1, by omega, by go_num, ⟨by rw [HS.out, ha.out, HB.out, HB2.out]; rfl⟩⟩
                case measure => simp [intOf]; omega
          · obtain rfl : k = c.size := by omega
            have HR := ShO.mk (HAL'.out ha.out).out
            go_wp2
            go_ret
            exact ⟨ret_bool HR.out.symm, _, rfl⟩
      · have HR := HCS hc
        have e1 : ((p.size : Int) != M) = false := by simp [hp]
        have e2 : ((c.size : Int) != M) = true := by simp [hc]
        clear HPS HCS HAL hg hp hc
        go_enter Tryd.func44, Tryd.ntmps44
        go_wp2
        go_quiet (first | (go_at_call 68; exact quietO (sizeO HZ.out _)))
        go_wp2
        go_ret
        exact ⟨ret_bool HR.out.symm, _, rfl⟩
    · have HR := HPS hp
      have e1 : ((p.size : Int) != M) = true := by simp [hp]
      clear HPS HCS HAL hg hp
      go_enter Tryd.func44, Tryd.ntmps44
      go_wp2
      go_quiet (first | (go_at_call 68; exact quietO (sizeO HZ.out _)))
      go_wp2
      go_ret
      exact ⟨ret_bool HR.out.symm, _, rfl⟩

/-! ### ValidBoard -/
theorem below_drewO {B : Nat} {a w : World} (h : Below B a w) (n : Nat) : Below B a (w.drewN n) := ⟨h.os, h.tape, h.output, h.size, h.block⟩
theorem okBd_are {n : Int} {p c : ByteArray} (h : sizB n = true) : okBd n p c = (areB premI p n && areB cellI c n) := by
  unfold okBd areB
  rw [h]
  rfl
set_option maxHeartbeats 1000000 in
theorem implValidBoard_any (n : Int) (p c : ByteArray) (W : World) :
    Calls Tryd.prog 47 #[.agg #[.int .i64 n, .string p, .string c]] W fun e w' => e = .returned (.bool (okBd n p c)) ∧ Below W.heap.size W w' := by
  have hB0 : Below W.heap.size W (W.alloc (.cells #[.int .i64 n, .string p, .string c] 27)) := (Below.refl _ _).alloc (Nat.le_refl _) _
  have hg := Blk.made W 27 #[.int .i64 n, .string p, .string c]
  have c0 : (W.alloc (.cells #[.int .i64 n, .string p, .string c] 27)).cell? ⟨W.heap.size, 0, none⟩ = some (.int .i64 n) := hg.cells 0
  have c1 : (W.alloc (.cells #[.int .i64 n, .string p, .string c] 27)).cell? ⟨W.heap.size, 1, none⟩ = some (.string p) := hg.cells 1
  have c2 : (W.alloc (.cells #[.int .i64 n, .string p, .string c] 27)).cell? ⟨W.heap.size, 2, none⟩ = some (.string c) := hg.cells 2
  cases hz : sizB n
  · have HZ := ShO.mk hz
    have HR := ShO.mk (okBd_small (p := p) (c := c) hz)
    clear hz hg
    go_enter Tryd.func47, Tryd.ntmps47
    go_wp2_with fail
    refine (isSize_any _ _).mono ?_
    rw [HZ.out]
    rintro e w1 ⟨rfl, rfl⟩
    go_wp2
    go_ret
    exact ⟨ret_bool HR.out.symm, hB0⟩
  · have HZ := ShO.mk hz
    have HR := ShO.mk (okBd_are (p := p) (c := c) hz)
    have HG := ShO.mk hg
    clear hz hg
    cases hb : areB premI p n
    · have HB := ShO.mk hb
      clear hb
      go_enter Tryd.func47, Tryd.ntmps47
      go_wp2_with fail
      refine (isSize_any _ _).mono ?_
      rw [HZ.out]
      rintro e w1 ⟨rfl, rfl⟩
      go_wp2_with fail
      refine (areSquares_any p n _ HZ.out isPremium_enters (fun c w => isPremium_any c w) premI_high).mono ?_
      rw [HB.out]
      rintro e w1 ⟨rfl, hb1⟩
      go_wp2
      go_ret
      exact ⟨ret_bool (by rw [HR.out, HB.out]; rfl), hB0.trans (hb1.mono hB0.size)⟩
    · have HB := ShO.mk hb
      clear hb
      go_enter Tryd.func47, Tryd.ntmps47
      go_wp2_with fail
      refine (isSize_any _ _).mono ?_
      rw [HZ.out]
      rintro e w1 ⟨rfl, rfl⟩
      go_wp2_with fail
      refine (areSquares_any p n _ HZ.out isPremium_enters (fun c w => isPremium_any c w) premI_high).mono ?_
      rw [HB.out]
      rintro e w1 ⟨rfl, hb1⟩
      have hg1 := HG.out.kept hb1 HG.out.lt
      have d0 : w1.cell? ⟨W.heap.size, 0, none⟩ = some (.int .i64 n) := hg1.cells 0
      have d2 : w1.cell? ⟨W.heap.size, 2, none⟩ = some (.string c) := hg1.cells 2
      have HB1 := ShO.mk (hB0.trans (hb1.mono hB0.size))
      clear hb1 hg1 c0 c1 c2
      go_wp2_with fail
      refine (areSquares_any c n _ HZ.out isCell_enters (fun c w => isCell_any c w) cellI_high).mono ?_
      rintro e w2 ⟨rfl, hb2⟩
      go_wp2
      go_ret
      exact ⟨ret_bool (by rw [HR.out, HB.out]; rfl), HB1.out.trans (hb2.mono HB1.out.size)⟩

/-! ### The laws' helpers -/
def szO (n : Nat) : Int := if (1048576 : Int) < n then -1 else 1048576 - n
theorem szBoard_big {left : Int} (n : Int) (p c : ByteArray) (W : World) (hp : p.size ≤ maxLen) (hc : c.size ≤ maxLen) (h1 : left ≤ 1048576) (h2 : 0 ≤ left) (h : left < ((p.size + c.size : Nat) : Int)) :
    Calls Tryd.prog 13 #[.agg #[.int .i64 n, .string p, .string c], .int .i64 left] W fun e w' => e = .returned (.int .i64 (-1)) ∧ Below W.heap.size W w' := by
  unfold maxLen at hp hc
  by_cases hA : left - (p.size : Int) < 0
  · clear h
    go_enter Tryd.func13, Tryd.ntmps13
    go_wp2
    go_ret
    exact ⟨rfl, (Below.refl _ _).alloc (Nat.le_refl _) _⟩
  · have hB : left - (p.size : Int) - c.size < 0 := by omega
    clear h
    go_enter Tryd.func13, Tryd.ntmps13
    go_wp2
    go_ret
    exact ⟨rfl, (Below.refl _ _).alloc (Nat.le_refl _) _⟩
theorem szBoard_fits {left : Int} (n : Int) (p c : ByteArray) (W : World) (h1 : left ≤ 1048576) (h2 : 0 ≤ left) (h : ¬ left < ((p.size + c.size : Nat) : Int)) :
    Calls Tryd.prog 13 #[.agg #[.int .i64 n, .string p, .string c], .int .i64 left] W fun e w' => e = .returned (.int .i64 (left - p.size - c.size)) ∧ Below W.heap.size W w' := by
  have hA : ¬ left - (p.size : Int) < 0 := by omega
  have hB : ¬ left - (p.size : Int) - c.size < 0 := by omega
  have hp : (p.size : Int) ≤ 1048576 := by omega
  have hc : (c.size : Int) ≤ 1048576 := by omega
  clear h
  go_enter Tryd.func13, Tryd.ntmps13
  go_wp2
  go_ret
  exact ⟨rfl, (Below.refl _ _).alloc (Nat.le_refl _) _⟩
set_option maxHeartbeats 1000000 in
theorem toBoard_any (n : Int) (p c : ByteArray) (W : World) :
    Calls Tryd.prog 15 #[.agg #[.int .i64 n, .string p, .string c]] W fun e w' => e = .returned (.agg #[.int .i64 n, .string p, .string c]) ∧ Below W.heap.size W w' := by
  go_enter Tryd.func15, Tryd.ntmps15
  go_wp2
  have p1 := (Blk.made (W.alloc (.cells #[.int .i64 n, .string p, .string c] 23)) 27 #[.int .i64 n, .string p, .string c]).alloc (.cells #[.int .i64 n, .string p, .string c] 27)
  simp only [World.size_alloc] at p1
  have c1 := p1.cells
  refine bodyPost_ret (v := .agg #[.int .i64 n, .string p, .string c]) (by simp [results, Tryd.results15, go_sem, c1]) rfl ?_
  exact ⟨rfl, (((Below.refl _ _).alloc (Nat.le_refl _) _).alloc (by simp) _).alloc (by simp; omega) _⟩
set_option maxHeartbeats 1000000 in
theorem eqBoard_same (n : Int) (p c : ByteArray) (W : World) :
    Calls Tryd.prog 26 #[.agg #[.int .i64 n, .string p, .string c], .agg #[.int .i64 n, .string p, .string c]] W fun e w' => e = .returned (.bool true) ∧ Below W.heap.size W w' := by
  go_enter Tryd.func26, Tryd.ntmps26
  go_wp2
  go_ret
  exact ⟨rfl, ((Below.refl _ _).alloc (Nat.le_refl _) _).alloc (by simp) _⟩
end Go.Proofs.YtmkdbahdhobdjaaDoor
