/-
  What the law of sub-racks leans on: a drawn rack, and what is true of its sub-racks.
-/
import Derived.Test.YtilagppmljpclaaJD
import Derived.Test.YtilagppmljpclaaG2
namespace Go.Proofs.Ytilagppmljpclaa
open Go.RowKit

theorem prodT_pos (F : Nat → Nat) : ∀ m, 1 ≤ prodT F m
  | 0 => Nat.le_refl _
  | m + 1 => by
    rw [prodT]
    have := prodT_pos F m
    exact Nat.le_trans this (Nat.le_mul_of_pos_left _ (by omega))
theorem prodT_none : prodT (cnt []) 27 = 1 := by decide
def hasJ (us : List ByteArray) (s : ByteArray) : Nat → Bool
  | 0 => false
  | k + 1 => hasJ us s k || decide (strAt us k = s)
theorem hasJ_iff {us : List ByteArray} {s : ByteArray} : ∀ {k : Nat}, k ≤ us.length → (hasJ us s k = true ↔ s ∈ us.take k)
  | 0, _ => by simp [hasJ]
  | k + 1, h => by
    rw [hasJ, Bool.or_eq_true, hasJ_iff (by omega), decide_eq_true_eq, List.take_succ_eq_append_getElem (by omega), List.mem_append, List.mem_singleton, strAt_eq (by omega)]
    exact or_congr_right eq_comm
theorem hasJ_mem {us : List ByteArray} {s : ByteArray} (h : s ∈ us) : hasJ us s us.length = true := by
  rw [hasJ_iff (Nat.le_refl _), List.take_length]
  exact h
/-- What is true of a drawn rack. -/
structure RackOf (s : ByteArray) (M : List ByteArray) (T : Nat) : Prop where
  out : SubOut s (M, 0)
  num : M.length = T
  total : prodT (cnt s.data.toList) 27 = T
  few : T ≤ 64
  size : s.size ≤ 6
  tiles : allTiles s.data.toList = true
  asc : Asc s.data.toList
  sub : ∀ x ∈ M, x.size ≤ 6
  rest : ∀ x ∈ M, ∃ r, r ∈ M ∧ takeOut s.data.toList x.data.toList = (r.data.toList, 0)
  rise : ∀ i j, i < j → j < M.length → ltS (strAt M i) (strAt M j) = true
theorem rack_of {x : List UInt8} (h : pileB x = true) (hl : x.length ≤ 6) : ∃ M T, RackOf (txt x) M T := by
  have hr : rackB (txt x) = true := by
    unfold rackB
    rw [txt_list, h, txt_size, decide_eq_true (by omega)]
    rfl
  obtain ⟨M, h1, h2⟩ := ex_subs hr
  obtain ⟨ht, ha, -⟩ := pileB_iff.1 h
  have hs := (h1.subs hr).1
  refine ⟨M, M.length, h1, rfl, h2.symm, ?_, by rw [txt_size]; exact hl, by rw [txt_list]; exact ht, by rw [txt_list]; exact ha, fun y hy => ?_, fun y hy => ?_, fun i j hij hj => ?_⟩
  · rw [h2, txt_list]
    exact Nat.le_trans (prod_few ht) (Nat.le_trans (Nat.pow_le_pow_right (n := 2) (j := 6) (by decide) hl) (by decide))
  · have := ((hs.mem y).1 hy).length_le
    rw [txt_list, len_list] at this
    omega
  · have hy2 := (hs.mem y).1 hy
    rw [txt_list] at hy2
    obtain ⟨e1, e2⟩ := rest_sub h hy2
    refine ⟨txt (lessL x y.data.toList), (hs.mem _).2 (by rw [txt_list, txt_list]; exact e2), by rw [txt_list, txt_list]; exact e1⟩
  · have hi : i < M.length := Nat.lt_trans hij hj
    have := List.pairwise_iff_getElem.1 hs.ord i j hi hj hij
    rw [strAt_eq hi, strAt_eq hj]
    exact this
set_option maxHeartbeats 1000000 in
theorem a2Rack_any (w : World) (v : Value) (zs : List Int) (hz : Ints .u8 w v zs) : Calls Try.prog 11 #[v] w fun e w' => ∃ s M T, RackOf s M T ∧ e = .returned (.string s) ∧ Below w.heap.size w w' := by
  have HZ := Shh.mk hz
  obtain ⟨va, vc, rfl, -⟩ := hz
  go_enter Try.func11, Try.ntmps11
  go_wp2_with fail
  refine (l00From_any w _ zs HZ.out).mono ?_
  rintro e w1 ⟨rfl, hw1⟩
  have HS := Shh.mk (src_made HZ.out)
  rw [← hw1] at HS
  clear hw1
  go_wp2_with fail
  refine (l03Draw_any w w1 w.heap.size _ zs 0 0 6 HS.out (by omega) (by omega)).mono ?_
  rintro e w2 ⟨x, p', s', hx, hxl, rfl, hp', hs', hg⟩
  have HB := Shh.mk hs'.below
  obtain ⟨M, T, hR⟩ := rack_of hx hxl
  have HR := Shh.mk hR
  clear hs' hg hR hx hxl
  go_wp2
  go_ret
  exact ⟨_, M, T, HR.out, rfl, HB.out⟩
theorem nil_ints (w : World) : Ints .u8 w (.slice none 0 0) [] := ⟨none, 0, rfl, Nat.le_refl _, Nat.zero_le _, fun h => absurd h (by simp), fun _ h => by cases h⟩
end Go.Proofs.Ytilagppmljpclaa
