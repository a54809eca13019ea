/-
  The model's tiles, piles and racks.
-/
import Derived.Test.YtpeobloofofnlaaQ1
import Derived.Test.YtpeobloofofnlaaC1
import Derived.Deep.QuietTactic
import Derived.BigQuiet
namespace Go.Proofs.Ytpeobloofofnlaa
open Go.RowKit

theorem tileB_63 : tileB 63 = true := rfl
theorem tileB_other {c : Int} (h : ¬ c = 63) : tileB c = smallB c := by
  unfold tileB
  rw [decide_eq_false h, Bool.false_or]
set_option maxHeartbeats 400000 in
theorem l03Tile_any (c : Int) (w : World) : Calls Try.prog 230 #[.int .u8 c] w fun e w' => e = .returned (.bool (tileB c)) ∧ w = w' := by
  by_cases h : c = 63
  · subst h
    rw [tileB_63]
    have h1 : ((63 : Int) == 63) = true := rfl
    go_enter Try.func230, Try.ntmps230
    go_wp2
    go_ret
    exact ⟨rfl, rfl⟩
  · rw [tileB_other h]
    have h1 : (c == 63) = false := beq_eq_false_iff_ne.2 h
    go_enter Try.func230, Try.ntmps230
    go_wp2_with (go_at_call 169; refine (l01Small_any _ _).mono ?_; rintro e w' ⟨rfl, rfl⟩)
    go_ret
    exact ⟨rfl, rfl⟩
theorem tile_is {c : Int} {w : World} {b : Bool} (h : tileB c = b) : Calls Try.prog 230 #[.int .u8 c] w fun e w' => e = .returned (.bool b) ∧ w = w' := by
  rw [← h]
  exact l03Tile_any c w

/-- What stands in order ahead of a place. -/
theorem asc_grows (s : ByteArray) (k : Nat) (h : k < s.size) (ha : Asc (s.data.toList.take k)) (hc : k = 0 ∨ ∃ (m : Nat) (hm : m < s.size), k = m + 1 ∧ s[m]'hm ≤ s[k]'h) : Asc (s.data.toList.take (k + 1)) := by
  rw [take_grows s k h]
  rcases hc with rfl | ⟨m, hm, rfl, hle⟩
  · simpa using asc_one _
  · rw [take_grows s m hm] at ha ⊢
    refine asc_snoc ha fun x hx => ?_
    exact UInt8.le_trans (asc_last ha x hx) hle
theorem asc_not (s : ByteArray) (m : Nat) (h : m + 1 < s.size) (hc : s[m + 1]'h < s[m]'(by omega)) : ¬ Asc s.data.toList := by
  intro ha
  have h1 := asc_sub (List.take_sublist (m + 2) _) ha
  rw [take_grows s (m + 1) h, take_grows s m (by omega)] at h1
  have := asc_last h1 (s[m]'(by omega)) (by simp)
  rw [UInt8.le_iff_toNat_le] at this
  rw [UInt8.lt_iff_toNat_lt] at hc
  omega
theorem pileB_not1 (s : ByteArray) (k : Nat) (h : k < s.size) (ht : tileB ((s[k]'h).toNat : Int) = false) : pileB s.data.toList = false := by
  cases hp : pileB s.data.toList
  · rfl
  · have := tiles_mem (pileB_iff.1 hp).1 (at_mem s k h)
    rw [ht] at this
    cases this
theorem pileB_not2 (s : ByteArray) (m : Nat) (h : m + 1 < s.size) (hc : s[m + 1]'h < s[m]'(by omega)) : pileB s.data.toList = false := by
  cases hp : pileB s.data.toList
  · rfl
  · exact absurd (pileB_iff.1 hp).2.1 (asc_not s m h hc)
theorem tiles_take (s : ByteArray) (k : Nat) (h : k < s.size) : allTiles (s.data.toList.take (k + 1)) = (allTiles (s.data.toList.take k) && tileB ((s[k]'h).toNat : Int)) := by
  rw [take_grows s k h]
  simp [allTiles]
theorem pile_end {s : ByteArray} (h1 : allTiles s.data.toList = true) (h2 : Asc s.data.toList) : pileB s.data.toList = decide (s.size ≤ 120) := by
  have hl : s.data.toList.length = s.size := by simp
  unfold pileB
  rw [h1, decide_eq_true h2, hl]
  rfl
theorem pileB_less (s : ByteArray) (k : Nat) (h : k < s.size) (hm : k - 1 < s.size) (h0 : 0 < k) (hc : (s[k]'h).toNat < (s[k - 1]'hm).toNat) : pileB s.data.toList = false := by
  obtain ⟨m, rfl⟩ : ∃ m, k = m + 1 := ⟨k - 1, by omega⟩
  exact pileB_not2 s m h (UInt8.lt_iff_toNat_lt.2 hc)
theorem asc_more (s : ByteArray) (k : Nat) (h : k < s.size) (hm : k - 1 < s.size) (ha : Asc (s.data.toList.take k)) (hc : ¬ (s[k]'h).toNat < (s[k - 1]'hm).toNat) : Asc (s.data.toList.take (k + 1)) := by
  rcases Nat.eq_zero_or_pos k with h0 | h0
  · exact asc_grows s k h ha (.inl h0)
  · obtain ⟨m, rfl⟩ : ∃ m, k = m + 1 := ⟨k - 1, by omega⟩
    exact asc_grows s (m + 1) h ha (.inr ⟨m, hm, rfl, UInt8.le_iff_toNat_le.2 (by simpa using hc)⟩)
/-- A byte of a text, at an index told in another way. -/
theorem byte_atU (s : ByteArray) (n : Int) (i : Nat) (h : n = (i : Int)) (hi : i < s.size) (w : World) : (Instr.index 9 (.string s) (.int .i64 n)).run Try.prog w = .ok (.int .u8 ((s[i]'hi).toNat : Int)) w := by
  subst h
  rw [run_index_string (h := Try.underlying9), dif_pos ⟨by omega, by omega⟩]
  rfl

/-- A contract that leaves the world alone, met inside a region that draws. -/
theorem quietU {P : Program} {f : FuncId} {args : Array Value} {w : World} {n : Nat} {v : Value} (h : Calls P f args (w.drewN n) fun e w' => e = .returned v ∧ w.drewN n = w') : Calls P f args (w.drewN n) fun e w'' => e = .returned v ∧ ∃ m, w'' = w.drewN m :=
  h.mono fun _ _ ⟨he, hm⟩ => ⟨he, n, hm.symm⟩
theorem belowU {B : Nat} {a w : World} (h : Below B a w) (n : Nat) : Below B a (w.drewN n) := ⟨h.os, h.tape, h.output, h.size, h.block⟩
theorem drawnU {w wr : World} (h : ∃ n, wr = w.drewN n) (m : Nat) : ∃ k, wr.drewN m = w.drewN k := by
  obtain ⟨n, rfl⟩ := h
  exact ⟨_, World.drewN_drewN _ _ _⟩

set_option maxRecDepth 100000 in
set_option maxHeartbeats 1000000 in
theorem l03Pile_any (s : ByteArray) (w : World) (hs : s.size ≤ 1048576) :
    Calls Try.prog 207 #[.string s] w fun e w' => e = .returned (.bool (pileB s.data.toList)) ∧ ∃ n, w' = w.drewN n := by
  go_enter Try.func207, Try.ntmps207
  go_wp2
  go_loopw [3] (fun i w' => ∃ k : Nat, k ≤ s.size ∧ i = .int .i64 k ∧ Hid (∃ n, w' = w.drewN n) ∧ Hid (allTiles (s.data.toList.take k) = true) ∧ Hid (Asc (s.data.toList.take k))) (fun i _ => s.size - (intOf i).toNat)
  case atStart => exact ⟨0, Nat.zero_le _, rfl, ⟨0, rfl⟩, rfl, asc_nil⟩
  case round =>
    obtain ⟨k, hk, rfl, hwr, hT, hA⟩ := hrel
    by_cases hlt : k < s.size
    · have hwx : IntKind.i64.wrap ((k : Int) - 1) = (k : Int) - 1 := IntWalk.i64_in _ (by omega)
      cases ht : tileB ((s[k]'hlt).toNat : Int)
      · have HN := hid (pileB_not1 s k hlt ht)
        have HT := hid ht
        clear ht
        go_wp2
        go_quiet ((go_at_call 230; exact quietU (tile_is HT.out)))
        go_wp2
        go_ret
        exact ⟨ret_bool HN.out.symm, drawnU hwr.out _⟩
      · have HT := hid ht
        have hgt := hid (tiles_take s k hlt)
        by_cases hk0 : 0 < k
        · have hkm : k - 1 < s.size := by omega
          have hd0 : decide ((0 : Int) < (k : Int)) = true := decide_eq_true (by omega)
          have hix := byte_atU s ((k : Int) - 1) (k - 1) (by omega) hkm
          by_cases hle : (s[k]'hlt).toNat < (s[k - 1]'hkm).toNat
          · have HN := hid (pileB_less s k hlt hkm hk0 hle)
            have hd1 : decide (((s[k]'hlt).toNat : Int) < ((s[k - 1]'hkm).toNat : Int)) = true := decide_eq_true (by omega)
            have hd2 : decide ((s[k]'hlt).toNat < (s[k - 1]'hkm).toNat) = true := decide_eq_true hle
            clear ht hle
            go_wp2
            go_quiet ((go_at_call 230; exact quietU (tile_is HT.out)))
            go_wp2
            go_ret
            exact ⟨ret_bool HN.out.symm, drawnU hwr.out _⟩
          · have HA := hid (asc_more s k hlt hkm hA.out hle)
            have hd1 : decide (((s[k]'hlt).toNat : Int) < ((s[k - 1]'hkm).toNat : Int)) = false := decide_eq_false (by omega)
            have hd2 : decide ((s[k]'hlt).toNat < (s[k - 1]'hkm).toNat) = false := decide_eq_false hle
            clear ht hle
            go_wp2
            go_quiet ((go_at_call 230; exact quietU (tile_is HT.out)))
            go_wp2
            go_roundw
            case rel => exact ⟨k + 1, by omega, by go_num, drawnU hwr.out _, by rw [Hid, hgt.out, hT.out, HT.out]; rfl, HA.out⟩
            case measure => simp [intOf]; omega
        · have hd0 : decide ((0 : Int) < (k : Int)) = false := decide_eq_false (by omega)
          have hd1 : decide (0 < k) = false := decide_eq_false hk0
          have HA := hid (asc_grows s k hlt hA.out (.inl (by omega)))
          clear ht
          go_wp2
          go_quiet ((go_at_call 230; exact quietU (tile_is HT.out)))
          go_wp2
          go_roundw
          case rel => exact ⟨k + 1, by omega, by go_num, drawnU hwr.out _, by rw [Hid, hgt.out, hT.out, HT.out]; rfl, HA.out⟩
          case measure => simp [intOf]; omega
    · have hkk : k = s.size := by omega
      have HF : Hid (decide (s.size ≤ 120) = pileB s.data.toList) := by
        have h1 := hT.out
        have h2 := hA.out
        rw [hkk, take_all] at h1 h2
        exact (pile_end h1 h2).symm
      clear hkk hT hA
      go_wp2
      go_ret
      refine ⟨ret_bool ?_, hwr.out⟩
      rw [← HF.out, Bool.eq_iff_iff, decide_eq_true_eq, decide_eq_true_eq]
      omega

end Go.Proofs.Ytpeobloofofnlaa
