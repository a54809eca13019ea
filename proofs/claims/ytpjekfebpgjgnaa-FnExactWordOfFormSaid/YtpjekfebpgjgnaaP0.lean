/-
  The model's splitting of a text at a byte.
-/
import Derived.Test.YtpjekfebpgjgnaaS1
import Derived.Test.YtpjekfebpgjgnaaP1
import Derived.WalkSpells
namespace Go.Proofs.Ytpjekfebpgjgnaa
open Go.RowKit

theorem own_block {B n : Nat} {e : TypeId} {w : World} {v : Value} {xs : List Value} (h : w.ownsRow B e 1 v n xs) : ∀ k, v.ownBlock = some k → B ≤ k := by
  intro k hk
  rcases h.2 with ⟨rfl, _⟩ | ⟨g, cap, cur, rfl, hB, _⟩
  · simp [Value.ownBlock] at hk
  · simp [Value.ownBlock] at hk
    omega

def pc (s : ByteArray) (l : List (Nat × Nat)) : List ByteArray := l.map fun x => s.extract x.1 x.2
theorem info_str : (Try.prog.info? 9).map (fun i => (i.zero, i.size, i.bytes)) = some (some (.string ByteArray.empty), 1, 16) := by kernel_rfl
theorem pc_snoc (s : ByteArray) (l : List (Nat × Nat)) (a b : Nat) : pc s (l ++ [(a, b)]) = pc s l ++ [s.extract a b] := by simp [pc]
/-- One string more on a row of strings. -/
theorem own_snoc {B n : Nat} {w : World} {v : Value} {ss : List ByteArray} {x : ByteArray} (h : w.ownsRow B 9 1 v (n + 1) (ss.map Value.string ++ [.string x])) (hn : n = ss.length) : OwnS B w v (ss ++ [x]) := by
  unfold OwnS
  simpa [hn] using h

set_option maxRecDepth 100000 in
set_option maxHeartbeats 4000000 in
theorem l01Split_any (s : ByteArray) (c : Int) (w : World) (hs : s.size ≤ 1048576) :
    Calls Try.prog 163 #[.string s, .int .u8 c] w fun e w' => ∃ v, e = .returned v ∧ OwnS w.heap.size w' v (pc s (cuts s c)) ∧ Below w.heap.size w w' := by
  obtain ⟨i0, hi, hz0, hz1, hz2⟩ := info_parts info_str
  go_enter Try.func163, Try.ntmps163
  go_wp2
  go_loopw [5, 6, 7] (fun v from' i wr => ∃ k : Nat, k ≤ s.size ∧ i = .int .i64 k ∧ from' = .int .i64 ((cutTo s c k).2 : Int) ∧ OwnS w.heap.size wr v (pc s (cutTo s c k).1) ∧ Below w.heap.size w wr) (fun _ _ i _ => s.size - (intOf i).toNat)
  case atStart => exact ⟨0, Nat.zero_le _, rfl, rfl, World.ownsRow_lit w _ 0 (Nat.le_refl _) (by unfold maxLen; omega) rfl, (Below.refl _ _).alloc (Nat.le_refl _) _⟩
  case round =>
    obtain ⟨k, hk, rfl, rfl, ho, hb⟩ := hrel
    obtain ⟨hfl, hll, -⟩ := cut_le s c k
    have hyes := cutTo_yes (s := s) (c := c) (k := k)
    have hno := cutTo_no (s := s) (c := c) (k := k)
    have hcu := hid (show cuts s c = (cutTo s c s.size).1 ++ [((cutTo s c s.size).2, s.size)] from rfl)
    obtain ⟨fr, hfr⟩ : ∃ fr, (cutTo s c k).2 = fr := ⟨_, rfl⟩
    obtain ⟨out, hout⟩ : ∃ out, (cutTo s c k).1 = out := ⟨_, rfl⟩
    rw [hfr] at hfl hyes ⊢
    rw [hout] at hll hyes ho
    have HFR := hid hfr
    have HOUT := hid hout
    have HO := hid ho
    have hlen : (pc s out).length = out.length := by simp [pc]
    have HLEN := hid hlen
    clear hfr hout ho hlen
    by_cases hlt : k < s.size
    · have HBE := hid (byteAt_eq s k hlt)
      by_cases hc : ((s[k]'hlt).toNat : Int) = c
      · have hcb : (((s[k]'hlt).toNat : Int) == c) = true := beq_iff_eq.2 hc
        have HY := hid (hyes (by rw [HBE.out]; exact hc))
        clear hyes hno hc
        go_wp2_with (at_builtin; refine wpList_append_own _ rfl _ _ 24 rfl w.heap.size 9 i0 (.string ByteArray.empty) 1 16 Try.underlying24 hi hz0 hz1 hz2 rfl (by decide) _ _ _ rfl (World.ownsRow.alloc HO.out _) ⟨wr.heap.size, 0, none⟩ 1 1 [.string (s.extract fr k)] rfl rfl ?c1 ?c2 ?c3 ?c4 ?c5 ?_)
        case c1 => exact cell_one_new _ _ _
        case c2 => intro u hu; simp at hu; subst hu; rfl
        case c3 => rw [HLEN.out]; simp [maxLen]; omega
        case c4 => rw [HLEN.out]; omega
        case c5 => have := hb.size; simp; omega
        intro v' w1 hown' hgrow _
        have hsz := hb.size
        have hB1 : Below w.heap.size w w1 := (hb.alloc hb.size _).grown hgrow (by simp; omega) (own_block HO.out)
        have HOW := hid (own_snoc hown' rfl)
        clear hown' hgrow
        go_wp2
        go_roundw
        case rel => exact ⟨k + 1, by omega, by go_num, by rw [HY.out]; go_num, by rw [HY.out, pc_snoc]; exact HOW.out, hB1⟩
        case measure => simp [intOf]; omega
      · have hcb : (((s[k]'hlt).toNat : Int) == c) = false := beq_eq_false_iff_ne.2 hc
        have HN := hid (hno (by rw [HBE.out]; exact hc))
        clear hyes hno hc
        go_wp2
        go_roundw
        case rel => exact ⟨k + 1, by omega, by go_num, by rw [HN.out, HFR.out], by rw [HN.out, HOUT.out]; exact HO.out, hb⟩
        case measure => simp [intOf]; omega
    · have hks : k = s.size := by omega
      have HC : Hid (cuts s c = out ++ [(fr, s.size)]) := by rw [Hid, hcu.out, ← hks, HFR.out, HOUT.out]
      have hfs : fr ≤ s.size := by omega
      clear hyes hno hks
      go_wp2_with (at_builtin; refine wpList_append_own _ rfl _ _ 24 rfl w.heap.size 9 i0 (.string ByteArray.empty) 1 16 Try.underlying24 hi hz0 hz1 hz2 rfl (by decide) _ _ _ rfl (World.ownsRow.alloc HO.out _) ⟨wr.heap.size, 0, none⟩ 1 1 [.string (s.extract fr s.size)] rfl rfl ?c1 ?c2 ?c3 ?c4 ?c5 ?_)
      case c1 => exact cell_one_new _ _ _
      case c2 => intro u hu; simp at hu; subst hu; rfl
      case c3 => rw [HLEN.out]; simp [maxLen]; omega
      case c4 => rw [HLEN.out]; omega
      case c5 => have := hb.size; simp; omega
      intro v' w1 hown' hgrow _
      have hsz := hb.size
      have hB1 : Below w.heap.size w w1 := (hb.alloc hb.size _).grown hgrow (by simp; omega) (own_block HO.out)
      have HOW := hid (own_snoc hown' rfl)
      clear hown' hgrow
      go_wp2
      go_ret
      exact ⟨_, rfl, by rw [HC.out, pc_snoc]; exact HOW.out, hB1⟩

end Go.Proofs.Ytpjekfebpgjgnaa
