/-
  The premiums of a standard board: StandardBoard of both sides.
-/
import Derived.Test.YtmkdbahdhobdjaaDoorBE
namespace Go.Proofs.YtmkdbahdhobdjaaDoor
open Go.RowKit


/-- The numbers that a square's premium is told from. -/
structure StdF (n r c x y a b : Int) : Prop where
  hx : min r (n - 1 - r) = x
  hy : min c (n - 1 - c) = y
  ha : min x y = a
  hb : max x y = b
  is : stdI n r c = stdP n a b
  a0 : 0 ≤ a
  b0 : 0 ≤ b
  a1 : a ≤ 15
  b1 : b ≤ 15
theorem stdF_of {n r c : Int} (h15 : n ≤ 15) (hr : 0 ≤ r ∧ r < n) (hc : 0 ≤ c ∧ c < n) : ∃ x y a b, StdF n r c x y a b := by
  refine ⟨_, _, _, _, rfl, rfl, rfl, rfl, rfl, ?_, ?_, ?_, ?_⟩
  all_goals omega
theorem ret_uO {a b : Int} (h : a = b) : Ending.returned (.int .u8 a) = .returned (.int .u8 b) := by rw [h]

set_option maxHeartbeats 2000000 in
set_option maxRecDepth 100000 in
theorem writeByte_any (B b : Nat) (l : List UInt8) (c : UInt8) (w : World) (h : IsB B b l w) (hlen : l.length ≤ 1000000) (hBw : B ≤ w.heap.size) :
    Calls Tryd.prog 99 #[.pointer (some ⟨b, 0, none⟩), .int .u8 (c.toNat : Int)] w fun e w' => e = .returned .nilIface ∧ IsB B b (l ++ [c]) w' ∧ Below B w w' := by
  obtain ⟨i0, hi, hz0, hz1, hz2⟩ := info_parts info8Q
  have hll := Lib.byteCells_length l
  go_enter Tryd.func99, Tryd.ntmps99
  go_wp2_with (go_at_call 109; refine (copyCheck_any B b l _ h).mono ?_)
  rintro e w1 ⟨rfl, h1, hb1⟩
  obtain ⟨hB, v, hbk, hown, hne⟩ := h1
  have c0 : w1.cell? ⟨b, 0, none⟩ = some (.pointer (some ⟨b, 0, none⟩)) := by rw [Lib.cell_of_heap hbk]; rfl
  have c1 : w1.cell? ⟨b, 1, none⟩ = some v := by rw [Lib.cell_of_heap hbk]; rfl
  have hlt : b < w1.heap.size := (Array.getElem?_eq_some_iff.1 hbk).1
  go_wp2_with (at_builtin; refine wpList_append_own _ rfl _ _ 79 rfl B 5 i0 (.int .u8 0) 1 1 Tryd.underlying79 hi hz0 hz1 hz2 rfl (by decide) _ _ _ rfl (World.ownsRow.alloc hown _) ⟨w1.heap.size, 0, none⟩ 1 1 [.int .u8 (c.toNat : Int)] rfl rfl ?c1 ?c2 ?c3 ?c4 ?c5 ?_)
  case c1 => exact cell_one_new _ _ _
  case c2 => intro u hu; simp at hu; subst hu; rfl
  case c3 => rw [hll]; simp [maxLen]; omega
  case c4 => rw [hll]; omega
  case c5 => have := hb1.size; simp; omega
  intro v' w2 hown' hgrow _
  have hb2 : w2.heap[b]? = some (.cells #[.pointer (some ⟨b, 0, none⟩), v] 81 (0, 0)) := by
    rw [hgrow.block b (by simp; omega) (fun e => hne e.symm), ← hbk]
    exact Below.heap_alloc w1 _ b hlt
  have d0 : w2.cell? ⟨b, 0, none⟩ = some (.pointer (some ⟨b, 0, none⟩)) := by rw [Lib.cell_of_heap hb2]; rfl
  have d1 : w2.cell? ⟨b, 1, none⟩ = some v := by rw [Lib.cell_of_heap hb2]; rfl
  have f1 : w2.frozen? ⟨b, 1, none⟩ = false := Lib.frozen_of_heap hb2 1
  have hown2 : w2.ownsRow B 5 1 v' (Lib.byteCells (l ++ [c])).length (Lib.byteCells (l ++ [c])) := by
    rw [Lib.byteCells_length, ← byte_cells_snoc, List.length_append]
    exact hown'
  have HOWN := ShO.mk hown2
  have HBB := ShO.mk ((hb1.alloc (by have := hb1.size; omega) (.cells #[.int .u8 (c.toNat : Int)] 5)).grown hgrow (by have := hb1.size; simp; omega) (fun k hk => (hown.lt k hk).1))
  obtain ⟨ao, n', cap, rfl⟩ : ∃ ao n' cap, v' = .slice ao n' cap := by
    rcases hown'.2 with ⟨hv, _⟩ | ⟨g, cap, cur, hv, _⟩
    · exact ⟨_, _, _, hv⟩
    · exact ⟨_, _, _, hv⟩
  clear hown2 hgrow hown' hown
  go_wp2
  go_ret
  refine ⟨rfl, Or.inr ?_, ?_⟩
  · exact Lib.BuilderAt.put hB hb2 HOWN.out (by decide)
  · exact HBB.out.setCell (p := ⟨b, 1, none⟩) hB _

theorem standOut_no {n : Int} (h : sizB n = false) : standOut n = (noBd, 2) := by unfold standOut; rw [if_neg]; rw [h]; intro e; cases e
theorem standOut_yes {N : Nat} (h : sizB (N : Int) = true) : standOut (N : Int) = (((N : Int), stdS N, dotsS (N * N)), 0) := by unfold standOut; rw [if_pos h]; rfl
theorem grid_small (f : Nat → Nat → UInt8) {N r c : Nat} (h15 : N ≤ 15) (hr : r < N) (hc : c ≤ N) : (gridL f N (r * N + c)).length ≤ 225 := by
  rw [gridL_len]
  have h1 : (r + 1) * N ≤ 15 * 15 := Nat.mul_le_mul (by omega) h15
  rw [Nat.succ_mul] at h1
  omega
end Go.Proofs.YtmkdbahdhobdjaaDoor
