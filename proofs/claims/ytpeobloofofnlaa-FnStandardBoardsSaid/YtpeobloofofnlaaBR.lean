/-
  Standard boards from all four sides, plain; the size that the law draws.
-/
import Derived.Test.YtpeobloofofnlaaBG
import Derived.Test.YtpeobloofofnlaaBQ
namespace Go.Proofs.Ytpeobloofofnlaa
open Go.RowKit

theorem same_strQ (s : ByteArray) : (s.toList == s.toList) = true := by simp
theorem stdI_turn (n r c : Int) : stdI n r c = stdI n c r := by
  unfold stdI
  rw [show min (nearI n r) (nearI n c) = min (nearI n c) (nearI n r) by omega, show max (nearI n r) (nearI n c) = max (nearI n c) (nearI n r) by omega]
theorem near_back (n r : Int) : nearI n (n - 1 - r) = nearI n r := by unfold nearI; omega
theorem stdI_back (n r c : Int) : stdI n (n - 1 - r) c = stdI n r c := by unfold stdI; rw [near_back]
theorem stdI_side (n r c : Int) : stdI n r (n - 1 - c) = stdI n r c := by unfold stdI; rw [near_back]
theorem stdP_prem (n a b : Int) : premI (stdP n a b) = true := by
  unfold stdP
  repeat' split
  all_goals rfl
theorem stdI_corner (n : Int) (h : 5 ≤ n) : stdI n 0 0 = 116 := by
  unfold stdI stdP
  have e : nearI n 0 = 0 := by unfold nearI; omega
  rw [e, if_pos (by omega)]
theorem allC_dots (q : Int → Bool) (m : Nat) (h : q 46 = true) : allC q (dotsS m).data.toList = true := by
  unfold allC dotsS
  rw [List.toList_toArray, List.all_eq_true]
  intro x hx
  rw [(List.mem_replicate.1 hx).2]
  exact h
theorem dotsS_size (m : Nat) : (dotsS m).size = m := by
  show (List.replicate m 46).toArray.size = m
  rw [List.size_toArray, List.length_replicate]
theorem stdS_size (N : Nat) : (stdS N).size = N * N := by
  show (stdL N).toArray.size = _
  rw [List.size_toArray]
  exact gridL_len _ _ _
theorem stdS_prem (N : Nat) : allC premI (stdS N).data.toList = true := by
  unfold allC stdS stdL gridL
  rw [List.toList_toArray, List.all_eq_true]
  intro x hx
  obtain ⟨k, -, rfl⟩ := List.mem_map.1 hx
  rw [stdU_is]
  exact stdP_prem _ _ _
theorem std_ok {N : Nat} (h5 : 5 ≤ N) (h15 : N ≤ 15) : okBd (N : Int) (stdS N) (dotsS (N * N)) = true :=
  okBd_iff.2 ⟨by omega, by omega, by rw [stdS_size, Int.natCast_mul], by rw [dotsS_size, Int.natCast_mul], stdS_prem N, allC_dots _ _ rfl⟩
theorem empty_ok {N : Nat} (h5 : 5 ≤ N) (h15 : N ≤ 15) : okBd (N : Int) (dotsS (N * N)) (dotsS (N * N)) = true :=
  okBd_iff.2 ⟨by omega, by omega, by rw [dotsS_size, Int.natCast_mul], by rw [dotsS_size, Int.natCast_mul], allC_dots _ _ rfl, allC_dots _ _ rfl⟩
theorem dots_none (m : Nat) : anyLet (dotsS m) = false := by
  unfold anyLet dotsS
  rw [List.toList_toArray, Bool.eq_false_iff]
  intro h
  obtain ⟨x, hx, h2⟩ := List.any_eq_true.1 h
  rw [(List.mem_replicate.1 hx).2] at h2
  cases h2
theorem stdS_at {N r c : Nat} (hr : r < N) (hc : c < N) : atB (stdS N) (r * N + c) = stdU N r c := by
  have h := row_lt hr hc
  unfold atB stdS
  rw [List.toList_toArray, List.getD_eq_getElem?_getD, List.getElem?_eq_getElem (by unfold stdL; rw [gridL_len]; exact h)]
  unfold stdL
  rw [gridL_get _ _ _ _ h, div_row hc, mod_row hc]
  rfl
theorem dots_at {m k : Nat} (h : k < m) : atB (dotsS m) k = 46 := by
  unfold atB dotsS
  rw [List.toList_toArray, List.getD_eq_getElem?_getD, List.getElem?_replicate_of_lt h]
  rfl
theorem prem_std {N : Nat} (h5 : 5 ≤ N) (h15 : N ≤ 15) {x y : Int} (hx : 0 ≤ x ∧ x < (N : Int)) (hy : 0 ≤ y ∧ y < (N : Int)) : atOut (stdS N) (N : Int) (stdS N) (dotsS (N * N)) x y = stdI N x y := by
  obtain ⟨r, rfl⟩ := Int.eq_ofNat_of_zero_le hx.1
  obtain ⟨c, rfl⟩ := Int.eq_ofNat_of_zero_le hy.1
  rw [atOut_yes (std_ok h5 h15) (inBd_iff.2 ⟨hx, hy⟩)]
  rw [show ((r : Int) * (N : Int) + (c : Int)).toNat = r * N + c by rw [← Int.natCast_mul]; omega]
  rw [stdS_at (by omega) (by omega), stdU_is]
theorem cell_std {N : Nat} (h5 : 5 ≤ N) (h15 : N ≤ 15) {x y : Int} (hx : 0 ≤ x ∧ x < (N : Int)) (hy : 0 ≤ y ∧ y < (N : Int)) : atOut (dotsS (N * N)) (N : Int) (stdS N) (dotsS (N * N)) x y = 46 := by
  obtain ⟨r, rfl⟩ := Int.eq_ofNat_of_zero_le hx.1
  obtain ⟨c, rfl⟩ := Int.eq_ofNat_of_zero_le hy.1
  rw [atOut_yes (std_ok h5 h15) (inBd_iff.2 ⟨hx, hy⟩)]
  rw [show ((r : Int) * (N : Int) + (c : Int)).toNat = r * N + c by rw [← Int.natCast_mul]; omega]
  rw [dots_at (row_lt (by omega) (by omega))]
  rfl
theorem premAtO {n : Int} {p c : ByteArray} {r k U : Int} (h : atOut p n p c r k = U) (W : World) :
    Calls Try.prog 25 #[.agg #[.int .i64 n, .string p, .string c], .int .i64 r, .int .i64 k] W fun e w' => e = .returned (.int .u8 U) ∧ Below W.heap.size W w' := by
  rw [← h]; exact implPremiumAt_any n p c r k W
theorem cellAtO {n : Int} {p c : ByteArray} {r k U : Int} (h : atOut c n p c r k = U) (W : World) :
    Calls Try.prog 23 #[.agg #[.int .i64 n, .string p, .string c], .int .i64 r, .int .i64 k] W fun e w' => e = .returned (.int .u8 U) ∧ Below W.heap.size W w' := by rw [← h]; exact implCellAt_any n p c r k W
theorem isBlankO {n : Int} {p c : ByteArray} {v : Bool} (h : blankOut n p c = v) (W : World) :
    Calls Try.prog 34 #[.agg #[.int .i64 n, .string p, .string c]] W fun e w' => e = .returned (.bool v) ∧ Below W.heap.size W w' := by rw [← h]; exact implIsBlank_any n p c W

theorem DiceIs.later {w0 w w' : World} {g : Nat} {v : Value} {zs : List Int} {p : Nat} {s : Int} (h : DiceIs w0 w g v zs p s) (hb : Below w.heap.size w w') : DiceIs w0 w' g v zs p s :=
  ⟨h.below.trans (hb.mono h.below.size), h.place, h.blk.kept hb h.blk.lt, h.code⟩
set_option maxHeartbeats 1000000 in
theorem drawSize_any (W : World) (v : Value) (zs : List Int) (hz : Ints .u8 W v zs) :
    Calls Try.prog 27 #[v] W fun e w' => ∃ n : Int, (4 ≤ n ∧ n ≤ 16) ∧ e = .returned (.int .i64 n) ∧ Below W.heap.size W w' := by
  have HZ := ShQ.mk hz
  obtain ⟨a, cap, rfl, -⟩ := hz
  have HS := ShQ.mk (src_made HZ.out)
  have hD : ∀ w, SrcIs W w W.heap.size (.slice a zs.length cap) zs 0 0 → Calls Try.prog 89 #[.pointer (some ⟨W.heap.size, 0, none⟩)] w fun e w' => ∃ n : Int, (4 ≤ n ∧ n ≤ 16) ∧ e = .returned (.int .i64 n) ∧ Below W.heap.size W w' := by
    intro w hs
    have HSS := ShQ.mk hs
    clear hs
    go_enter Try.func89, Try.ntmps89
    go_wp2_with fail
    refine (pick_any W w W.heap.size _ zs 0 0 13 HSS.out (by omega) (by omega) (by omega)).mono ?_
    rintro e w1 ⟨x, p', s', hx, rfl, -, hs', -⟩
    have HB := ShQ.mk hs'.below
    have hw : IntKind.i64.wrap (4 + x) = 4 + x := IntWalk.i64_in _ (by omega)
    clear hs'
    go_wp2
    go_ret
    exact ⟨4 + x, by omega, rfl, HB.out⟩
  go_enter Try.func27, Try.ntmps27
  go_wp2_with fail
  refine (l00From_any W _ zs HZ.out).mono ?_
  rintro e w1 ⟨rfl, rfl⟩
  go_wp2_with fail
  refine (hD _ HS.out).mono ?_
  rintro e w2 ⟨n, hn, rfl, hb⟩
  go_wp2
  go_ret
  exact ⟨n, hn, rfl, hb⟩
end Go.Proofs.Ytpeobloofofnlaa
