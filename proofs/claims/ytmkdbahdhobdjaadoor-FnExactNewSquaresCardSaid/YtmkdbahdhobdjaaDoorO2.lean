/-
  The model's sorting of tiles.
-/
import Derived.Test.YtmkdbahdhobdjaaDoorO1
namespace Go.Proofs.YtmkdbahdhobdjaaDoor
open Go.RowKit

theorem own_store {B g n cap : Nat} {w : World} {l : List UInt8} (h : OwnB B w (.slice (some ⟨g, 0, none⟩) n cap) l) (hn : n = l.length) (j : Nat) (c : UInt8) :
    OwnB B (w.setCell ⟨g, j, none⟩ (.int .u8 (c.toNat : Int))) (.slice (some ⟨g, 0, none⟩) n cap) (l.set j c) := by
  subst hn
  unfold OwnB at h ⊢
  have := (World.ownsRow.stored h j (.int .u8 (c.toNat : Int))).1
  rw [byte_cells_set] at this
  rw [List.length_set]
  exact this
theorem own_cell {B g n cap : Nat} {w : World} {l : List UInt8} (h : OwnB B w (.slice (some ⟨g, 0, none⟩) n cap) l) (hn : n = l.length) {j : Nat} {c : UInt8} (hj : l[j]? = some c) : w.cell? ⟨g, j, none⟩ = some (.int .u8 (c.toNat : Int)) := by
  subst hn
  unfold OwnB at h
  have hlt : j < l.length := by
    rcases Nat.lt_or_ge j l.length with h | h
    · exact h
    · rw [List.getElem?_eq_none h] at hj; cases hj
  rw [World.ownsRow.cellAt h j (by omega)]
  exact byte_cell_at hj
theorem own_mark {B g n cap : Nat} {w : World} {l : List UInt8} (h : OwnB B w (.slice (some ⟨g, 0, none⟩) n cap) l) (hn : n = l.length) (j : Nat) : w.frozen? ⟨g, j, none⟩ = false := by
  subst hn
  unfold OwnB at h
  exact World.ownsRow.frozenAt h j
/-- The form of a row that is not empty. -/
theorem own_is {B : Nat} {w : World} {v : Value} {l : List UInt8} (h : OwnB B w v l) (hl : 0 < l.length) : ∃ g cap, v = .slice (some ⟨g, 0, none⟩) l.length cap ∧ l.length ≤ cap ∧ cap ≤ maxLen ∧ B ≤ g ∧ g < w.heap.size := by
  obtain ⟨a, cap, rfl, h1, h2, h3⟩ := own_formQ h
  obtain ⟨g, rfl, h4, h5⟩ := h3 hl
  exact ⟨g, cap, rfl, h1, h2, h4, h5⟩

set_option maxRecDepth 100000 in
set_option maxHeartbeats 4000000 in
theorem l03Sort_any (s : ByteArray) (w : World) (hs : s.size ≤ 1048576) (ht : allTiles s.data.toList = true) :
    Calls Tryd.prog 86 #[.string s] w fun e w' => e = .returned (.string ⟨(sortL s.data.toList).toArray⟩) ∧ Below w.heap.size w w' := by
  have HT := hid ht
  clear ht
  go_enter Tryd.func86, Tryd.ntmps86
  go_wp2
  go_loopw [3, 4] (fun v i wr => ∃ (j : Nat) (O : List UInt8), j ≤ s.size ∧ i = .int .i64 j ∧ Hid (OwnB w.heap.size wr v O) ∧ Hid (SRT s j O) ∧ Below w.heap.size w wr) (fun _ i _ => s.size - (intOf i).toNat)
  case atStart => exact ⟨0, [], Nat.zero_le _, rfl, World.ownsRow_lit w _ 0 (Nat.le_refl _) (by unfold maxLen; omega) rfl, srt_start s, (Below.refl _ _).alloc (Nat.le_refl _) _⟩
  case round =>
    obtain ⟨j, O, hj, rfl, hown, hsrt, hB⟩ := hrel
    have HOL := hid (srt_len hsrt.out hj)
    by_cases hlt : j < s.size
    · obtain ⟨av, cv, rfl, hcv1, hcv2, -⟩ := own_formQ hown.out
      unfold maxLen at hcv2
      have hol : O.length ≤ 1048576 := by have := HOL.out; omega
      go_wp2_with (refine append_byteO rfl _ _ rfl _ O (s[j]'hlt) rfl rfl hown.out (by omega) hB.size ?_; intro v' w1 ho1 hb1)
      obtain ⟨g, cap, rfl, hg1, hg2, hg3, hg4⟩ := own_is ho1 (by simp)
      unfold maxLen at hg2
      have HB1 := hid (hb1 _ hB)
      rw [List.length_append, List.length_singleton] at hg1
      have HL : (O ++ [s[j]'hlt]).length = O.length + 1 := by rw [List.length_append]; rfl
      obtain ⟨M, hM⟩ : ∃ M, (O ++ [s[j]'hlt]).length = M := ⟨_, rfl⟩
      rw [hM] at ho1 HL ⊢
      have HO1 := hid ho1
      have HM := hid HL
      have hm1 : O.length < M := by omega
      clear ho1 hb1 hM HL
      go_wp2
      go_loopw [5] (fun kk wq => ∃ (k : Nat) (R : List UInt8), k ≤ O.length ∧ kk = .int .i64 k ∧ Hid (OwnB w.heap.size wq (.slice (some ⟨g, 0, none⟩) M cap) R) ∧ Hid (WAY O k (s[j]'hlt) R) ∧ Below w.heap.size w wq) (fun kk _ => (intOf kk).toNat)
      case atStart => exact ⟨O.length, _, Nat.le_refl _, rfl, HO1.out, way_start O _, HB1.out⟩
      case round =>
        obtain ⟨k, R, hk, rfl, hR, hway, hBq⟩ := hrel
        have HRL := hid (show M = R.length by rw [way_len hway.out]; exact HM.out)
        by_cases hk0 : 0 < k
        · obtain ⟨m, rfl⟩ : ∃ m, k = m + 1 := ⟨k - 1, by omega⟩
          obtain ⟨z, hz⟩ : ∃ z, R[m]? = some z := ⟨R[m]'(by have := HRL.out; omega), List.getElem?_eq_getElem _⟩
          obtain ⟨z2, hz2⟩ : ∃ z, R[m + 1]? = some z := ⟨R[m + 1]'(by have := HRL.out; omega), List.getElem?_eq_getElem _⟩
          have hcell := own_cell hR.out HRL.out hz
          have hcell2 := own_cell hR.out HRL.out hz2
          clear hz2
          have hfr := own_mark hR.out HRL.out (m + 1)
          have hwx : IntKind.i64.wrap (((m + 1 : Nat) : Int) - 1) = (m : Int) := by rw [IntWalk.i64_in _ (by omega)]; omega
          have hd0 : decide ((0 : Int) < ((m + 1 : Nat) : Int)) = true := decide_eq_true (by omega)
          by_cases hc : (s[j]'hlt).toNat < z.toNat
          · have hd1 : decide ((s[j]'hlt).toNat < z.toNat) = true := decide_eq_true hc
            have HW := hid (way_step hway.out hz hc)
            have HS := hid (own_store (w := wr) hR.out HRL.out (m + 1) z)
            clear hc hz hway
            go_wp2
            go_quiet (fail)
            go_wp2
            go_roundw
            case rel => exact ⟨m, _, by omega, rfl, HS.out, HW.out, belowU (hBq.setCell (p := ⟨g, m + 1, none⟩) hg3 _) _⟩
            case measure => simp [intOf]
          · have hd1 : decide ((s[j]'hlt).toNat < z.toNat) = false := decide_eq_false hc
            have HW := hid (srt_step hlt hsrt.out hway.out (.inr ⟨m, z, rfl, hz, hc⟩))
            have HS := hid (own_store (w := wr) hR.out HRL.out (m + 1) (s[j]'hlt))
            clear hc hz hway
            go_wp2
            go_quiet (fail)
            go_wp2
            go_roundw
            case rel => exact ⟨j + 1, _, by omega, by go_num, HS.out, HW.out, belowU (hBq.setCell (p := ⟨g, m + 1, none⟩) hg3 _) _⟩
            case measure => simp [intOf]; omega
        · obtain rfl : k = 0 := by omega
          obtain ⟨z2, hz2⟩ : ∃ z, R[0]? = some z := ⟨R[0]'(by have := HRL.out; omega), List.getElem?_eq_getElem _⟩
          have hcell2 := own_cell hR.out HRL.out hz2
          have hfr := own_mark hR.out HRL.out 0
          have hd0 : decide ((0 : Int) < ((0 : Nat) : Int)) = false := decide_eq_false (by omega)
          have hd1 : decide ((0 : Int) < 0) = false := decide_eq_false (by omega)
          have HW := hid (srt_step hlt hsrt.out hway.out (.inl rfl))
          have HS := hid (own_store (w := wr) hR.out HRL.out 0 (s[j]'hlt))
          clear hz2 hway
          go_wp2
          go_quiet (fail)
          go_wp2
          go_roundw
          case rel => exact ⟨j + 1, _, by omega, by go_num, HS.out, HW.out, belowU (hBq.setCell (p := ⟨g, 0, none⟩) hg3 _) _⟩
          case measure => simp [intOf]; omega
    · obtain rfl : j = s.size := by omega
      have hcv := conv_rowQ hown.out
      have HE := hid (srt_end HT.out hsrt.out)
      clear hsrt HOL
      go_wp2
      go_ret
      exact ⟨by rw [← HE.out]; rfl, hB⟩
end Go.Proofs.YtmkdbahdhobdjaaDoor
