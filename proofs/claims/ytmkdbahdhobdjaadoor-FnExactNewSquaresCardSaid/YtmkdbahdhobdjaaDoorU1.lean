/-
  The model's tiles, piles and racks.
-/
import Derived.Test.YtmkdbahdhobdjaaDoorQ1
import Derived.Test.YtmkdbahdhobdjaaDoorC1
import Derived.Deep.QuietTactic
import Derived.BigQuiet
namespace Go.Proofs.YtmkdbahdhobdjaaDoor
open Go.RowKit

theorem tileB_63 : tileB 63 = true := rfl
theorem tileB_other {c : Int} (h : ¬ c = 63) : tileB c = smallB c := by
  unfold tileB
  rw [decide_eq_false h, Bool.false_or]

/-- What stands in order ahead of a place. -/
theorem asc_grows (s : ByteArray) (k : Nat) (h : k < s.size) (ha : Asc (s.data.toList.take k)) (hc : k = 0 ∨ ∃ (m : Nat) (hm : m < s.size), k = m + 1 ∧ s[m]'hm ≤ s[k]'h) : Asc (s.data.toList.take (k + 1)) := by
  rw [take_grows s k h]
  rcases hc with rfl | ⟨m, hm, rfl, hle⟩
  · simpa using asc_one _
  · rw [take_grows s m hm] at ha ⊢
    refine asc_snoc ha fun x hx => ?_
    exact UInt8.le_trans (asc_last ha x hx) hle
theorem asc_not (s : ByteArray) (m : Nat) (h : m + 1 < s.size) (hc : s[m + 1]'h < s[m]'(by omega)) : ¬ Asc s.data.toList := by
  intro ha
  have h1 := asc_sub (List.take_sublist (m + 2) _) ha
  rw [take_grows s (m + 1) h, take_grows s m (by omega)] at h1
  have := asc_last h1 (s[m]'(by omega)) (by simp)
  rw [UInt8.le_iff_toNat_le] at this
  rw [UInt8.lt_iff_toNat_lt] at hc
  omega
theorem pileB_not1 (s : ByteArray) (k : Nat) (h : k < s.size) (ht : tileB ((s[k]'h).toNat : Int) = false) : pileB s.data.toList = false := by
  cases hp : pileB s.data.toList
  · rfl
  · have := tiles_mem (pileB_iff.1 hp).1 (at_mem s k h)
    rw [ht] at this
    cases this
theorem pileB_not2 (s : ByteArray) (m : Nat) (h : m + 1 < s.size) (hc : s[m + 1]'h < s[m]'(by omega)) : pileB s.data.toList = false := by
  cases hp : pileB s.data.toList
  · rfl
  · exact absurd (pileB_iff.1 hp).2.1 (asc_not s m h hc)
theorem tiles_take (s : ByteArray) (k : Nat) (h : k < s.size) : allTiles (s.data.toList.take (k + 1)) = (allTiles (s.data.toList.take k) && tileB ((s[k]'h).toNat : Int)) := by
  rw [take_grows s k h]
  simp [allTiles]
theorem pile_end {s : ByteArray} (h1 : allTiles s.data.toList = true) (h2 : Asc s.data.toList) : pileB s.data.toList = decide (s.size ≤ 120) := by
  have hl : s.data.toList.length = s.size := by simp
  unfold pileB
  rw [h1, decide_eq_true h2, hl]
  rfl
theorem pileB_less (s : ByteArray) (k : Nat) (h : k < s.size) (hm : k - 1 < s.size) (h0 : 0 < k) (hc : (s[k]'h).toNat < (s[k - 1]'hm).toNat) : pileB s.data.toList = false := by
  obtain ⟨m, rfl⟩ : ∃ m, k = m + 1 := ⟨k - 1, by omega⟩
  exact pileB_not2 s m h (UInt8.lt_iff_toNat_lt.2 hc)
theorem asc_more (s : ByteArray) (k : Nat) (h : k < s.size) (hm : k - 1 < s.size) (ha : Asc (s.data.toList.take k)) (hc : ¬ (s[k]'h).toNat < (s[k - 1]'hm).toNat) : Asc (s.data.toList.take (k + 1)) := by
  rcases Nat.eq_zero_or_pos k with h0 | h0
  · exact asc_grows s k h ha (.inl h0)
  · obtain ⟨m, rfl⟩ : ∃ m, k = m + 1 := ⟨k - 1, by omega⟩
    exact asc_grows s (m + 1) h ha (.inr ⟨m, hm, rfl, UInt8.le_iff_toNat_le.2 (by simpa using hc)⟩)
/-- A byte of a text, at an index told in another way. -/
theorem byte_atU (s : ByteArray) (n : Int) (i : Nat) (h : n = (i : Int)) (hi : i < s.size) (w : World) : (Instr.index 9 (.string s) (.int .i64 n)).run Tryd.prog w = .ok (.int .u8 ((s[i]'hi).toNat : Int)) w := by
  subst h
  rw [run_index_string (h := Tryd.underlying9), dif_pos ⟨by omega, by omega⟩]
  rfl

/-- A contract that leaves the world alone, met inside a region that draws. -/
theorem quietU {P : Program} {f : FuncId} {args : Array Value} {w : World} {n : Nat} {v : Value} (h : Calls P f args (w.drewN n) fun e w' => e = .returned v ∧ w.drewN n = w') : Calls P f args (w.drewN n) fun e w'' => e = .returned v ∧ ∃ m, w'' = w.drewN m :=
  h.mono fun _ _ ⟨he, hm⟩ => ⟨he, n, hm.symm⟩
theorem belowU {B : Nat} {a w : World} (h : Below B a w) (n : Nat) : Below B a (w.drewN n) := ⟨h.os, h.tape, h.output, h.size, h.block⟩
theorem drawnU {w wr : World} (h : ∃ n, wr = w.drewN n) (m : Nat) : ∃ k, wr.drewN m = w.drewN k := by
  obtain ⟨n, rfl⟩ := h
  exact ⟨_, World.drewN_drewN _ _ _⟩


end Go.Proofs.YtmkdbahdhobdjaaDoor
