/-
  The model's taking of tiles.
-/
import Derived.Test.YtpeobloofofnlaaU1
import Derived.Test.YtpeobloofofnlaaN2
namespace Go.Proofs.Ytpeobloofofnlaa
open Go.RowKit

/-- Another byte at the end of a row of the call's own. -/
theorem append_byteO {ops : Array Oper} {rest : List Oper} {o : Oper} {a : Act} {Q : Exit → Act → World → Prop} {B : Nat} {W : World} (hgd : o.guard = none) (s x : Operand)
    (ho : o.op = .call { callee := .builtin .append, args := #[s, x], argTypes := #[22, 22] })
    (v : Value) (l : List UInt8) (c : UInt8) (hs : a.eval s = v) (hx : a.eval x = .slice (some ⟨W.heap.size, 0, none⟩) 1 1)
    (hown : OwnB B W v l) (hlen : l.length ≤ 2097152) (hB : B ≤ W.heap.size)
    (h : ∀ v' w', OwnB B w' v' (l ++ [c]) → (∀ w0, Below B w0 W → Below B w0 w') → wpList Try.prog ops Q rest (a.put o.dst v') w') :
    wpList Try.prog ops Q (o :: rest) a (W.alloc (.cells #[.int .u8 (c.toNat : Int)] 5)) := by
  obtain ⟨i0, hi, hz0, hz1, hz2⟩ := info_parts info8Q
  refine wpList_append_own _ hgd s x 22 ho B 5 i0 (.int .u8 0) 1 1 Try.underlying22 hi hz0 hz1 hz2 rfl (by decide) v l.length (Lib.byteCells l) hs (World.ownsRow.alloc hown _) ⟨W.heap.size, 0, none⟩ 1 1 [.int .u8 (c.toNat : Int)] hx rfl ?_ ?_ ?_ ?_ ?_ ?_
  · exact cell_one_new _ _ _
  · intro u hu; simp at hu; subst hu; rfl
  · simp [maxLen]; omega
  · omega
  · simp; omega
  · intro v' w' ho' hg _
    refine h v' w' ?_ fun w0 h0 => (h0.alloc hB _).grown hg (by simp; omega) (own_blockQ hown)
    unfold OwnB
    rw [← byte_cells_snoc, List.length_append]
    exact ho'

set_option maxRecDepth 100000 in
set_option maxHeartbeats 2000000 in
theorem l03Take_any (a b : ByteArray) (w : World) (ha : a.size ≤ 1048576) (hb : b.size ≤ 1048576) :
    Calls Try.prog 231 #[.string a, .string b] w fun e w' => e = .returned (.tuple #[.string ⟨(takeL a.data.toList b.data.toList).1.toArray⟩, .bool (takeL a.data.toList b.data.toList).2.isEmpty]) ∧ Below w.heap.size w w' := by
  go_enter Try.func231, Try.ntmps231
  go_wp2
  go_loopw [6, 7, 8] (fun v kk i wr => ∃ (j k : Nat) (O : List UInt8), j ≤ a.size ∧ k ≤ b.size ∧ O.length ≤ j ∧ i = .int .i64 j ∧ kk = .int .i64 k ∧ Hid (OwnB w.heap.size wr v O) ∧ Hid (TK a b j k O) ∧ Below w.heap.size w wr) (fun _ _ i _ => a.size - (intOf i).toNat)
  case atStart => exact ⟨0, 0, [], Nat.zero_le _, Nat.zero_le _, Nat.le_refl _, rfl, rfl, World.ownsRow_lit w _ 0 (Nat.le_refl _) (by unfold maxLen; omega) rfl, tk_start a b, (Below.refl _ _).alloc (Nat.le_refl _) _⟩
  case round =>
    obtain ⟨j, k, O, hj, hk, hO, rfl, rfl, hown, htk, hB⟩ := hrel
    by_cases hlt : j < a.size
    · by_cases hkl : k < b.size
      · have hd0 : decide ((k : Int) < (b.size : Int)) = true := decide_eq_true (by omega)
        have hd3 : decide (k < b.size) = true := decide_eq_true hkl
        by_cases he : ((b[k]'hkl).toNat : Int) = ((a[j]'hlt).toNat : Int)
        · have HT := hid (tk_hit htk.out hlt hkl (eq_of_nat he))
          have hd1 : (((b[k]'hkl).toNat : Int) == ((a[j]'hlt).toNat : Int)) = true := beq_iff_eq.2 he
          clear he htk
          go_wp2
          go_quiet (fail)
          go_wp2
          go_roundw
          case rel => exact ⟨j + 1, k + 1, O, by omega, by omega, by omega, by go_num, by go_num, hown.out, HT.out, belowU hB _⟩
          case measure => simp [intOf]; omega
        · have HT := hid (tk_miss htk.out hlt (fun _ => ne_of_nat he))
          have hd1 : (((b[k]'hkl).toNat : Int) == ((a[j]'hlt).toNat : Int)) = false := beq_eq_false_iff_ne.2 he
          clear he htk
          go_wp2
          go_quiet (fail)
          go_wp2_with (refine append_byteO rfl _ _ rfl _ O (a[j]'hlt) rfl rfl hown.out (by omega) hB.size ?_; intro v' w1 ho1 hb1)
          have HO := hid ho1
          have HB := hb1 _ (belowU hB _)
          clear ho1 hb1
          go_wp2
          go_roundw
          case rel => exact ⟨j + 1, k, _, by omega, by omega, by simp; omega, by go_num, rfl, HO.out, HT.out, HB⟩
          case measure => simp [intOf]; omega
      · have HT := hid (tk_miss htk.out hlt (fun h => absurd h hkl))
        have hd0 : decide ((k : Int) < (b.size : Int)) = false := decide_eq_false (by omega)
        have hd3 : decide (k < b.size) = false := decide_eq_false hkl
        clear htk
        go_wp2
        go_quiet (fail)
        go_wp2_with (refine append_byteO rfl _ _ rfl _ O (a[j]'hlt) rfl rfl hown.out (by omega) hB.size ?_; intro v' w1 ho1 hb1)
        have HO := hid ho1
        have HB := hb1 _ (belowU hB _)
        clear ho1 hb1
        go_wp2
        go_roundw
        case rel => exact ⟨j + 1, k, _, by omega, by omega, by simp; omega, by go_num, rfl, HO.out, HT.out, HB⟩
        case measure => simp [intOf]; omega
    · obtain rfl : j = a.size := by omega
      have hcv := conv_rowQ hown.out
      have HF : Hid (Ending.returned (.tuple #[.string ⟨O.toArray⟩, .bool ((k : Int) == (b.size : Int))]) = .returned (.tuple #[.string ⟨(takeL a.data.toList b.data.toList).1.toArray⟩, .bool (takeL a.data.toList b.data.toList).2.isEmpty])) := by
        rw [Hid, tk_end htk.out, drop_empty b hk]
      clear htk
      go_wp2
      go_ret2
      exact ⟨HF.out, hB⟩
end Go.Proofs.Ytpeobloofofnlaa
