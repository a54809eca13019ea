/-
  The laws' dice: numbers out of a code.
-/
import Derived.Test.YtpeobloofofnlaaG4
namespace Go.Proofs.Ytpeobloofofnlaa
open Go.RowKit

structure ShQ (p : Prop) : Prop where
  out : p
structure DiceIs (w0 w : World) (g : Nat) (v : Value) (zs : List Int) (p : Nat) (s : Int) : Prop where
  below : Below w0.heap.size w0 w
  place : w0.heap.size ≤ g
  blk : Blk w g 96 #[v, .int .i64 (p : Int), .int .u64 s]
  code : Ints .u8 w0 v zs
theorem num_low (m : Int) : 0 ≤ wrap64 (bits .and .u64 (IntKind.u64.wrap m / 8589934592) 16777215) ∧ wrap64 (bits .and .u64 (IntKind.u64.wrap m / 8589934592) 16777215) ≤ 16777215 := by
  have hw : 0 ≤ IntKind.u64.wrap m ∧ IntKind.u64.wrap m < 18446744073709551616 := by rw [IntKind.wrap_u64]; omega
  generalize IntKind.u64.wrap m = y at hw
  obtain ⟨k, hk⟩ := Int.eq_ofNat_of_zero_le (show 0 ≤ y / 8589934592 by omega)
  have hb := bits_and_u64_nat k 16777215 (by omega) (by omega)
  have hle := Nat.and_le_right (n := k) (m := 16777215)
  rw [hk, show (16777215 : Int) = ((16777215 : Nat) : Int) from rfl, hb]
  generalize (k &&& 16777215 : Nat) = z at hle
  have hz : wrap64 (z : Int) = (z : Int) := IntWalk.wrap64_in _ (by omega)
  rw [hz]
  omega
theorem num_in (m x n : Int) (hx : 0 ≤ x ∧ x ≤ 255) (h1 : 1 ≤ n) :
    0 ≤ (wrap64 (wrap64 (bits .and .u64 (IntKind.u64.wrap m / 8589934592) 16777215) + x)).tmod n ∧ (wrap64 (wrap64 (bits .and .u64 (IntKind.u64.wrap m / 8589934592) 16777215) + x)).tmod n < n := by
  have h := num_low m
  generalize wrap64 (bits .and .u64 (IntKind.u64.wrap m / 8589934592) 16777215) = y at h
  have e : wrap64 (y + x) = y + x := IntWalk.wrap64_in _ (by omega)
  rw [e, Int.tmod_eq_emod_of_nonneg (by omega)]
  exact ⟨Int.emod_nonneg _ (by omega), Int.emod_lt_of_pos _ (by omega)⟩
theorem num_out (m n : Int) (h1 : 1 ≤ n) :
    0 ≤ (wrap64 (bits .and .u64 (IntKind.u64.wrap m / 8589934592) 16777215)).tmod n ∧ (wrap64 (bits .and .u64 (IntKind.u64.wrap m / 8589934592) 16777215)).tmod n < n := by
  have h := num_low m
  generalize wrap64 (bits .and .u64 (IntKind.u64.wrap m / 8589934592) 16777215) = y at h
  rw [Int.tmod_eq_emod_of_nonneg (by omega)]
  exact ⟨Int.emod_nonneg _ (by omega), Int.emod_lt_of_pos _ (by omega)⟩
theorem dice_state {w0 w : World} {g : Nat} {v : Value} {zs : List Int} {p : Nat} {s : Int} (h : DiceIs w0 w g v zs p s) (s' : Int) (a : Nat) :
    DiceIs w0 ((w.setCell ⟨g, 2, none⟩ (.int .u64 s')).drewN a) g v zs p s' ∧ w.grownBy ((w.setCell ⟨g, 2, none⟩ (.int .u64 s')).drewN a) (some g) := by
  obtain ⟨hB, hg, hblk, hz⟩ := h
  refine ⟨⟨?_, hg, ?_, hz⟩, grown_drewN (grown_set (grown_self w _) 2 _) a⟩
  · have h2 := hB.setCell (p := ⟨g, 2, none⟩) hg (.int .u64 s')
    exact ⟨h2.os, h2.tape, h2.output, h2.size, h2.block⟩
  · exact hblk.stored 2 (.int .u64 s')
theorem dice_step {w0 w : World} {g : Nat} {v : Value} {zs : List Int} {p : Nat} {s : Int} (h : DiceIs w0 w g v zs p s) (s' : Int) (a : Nat) :
    DiceIs w0 (((w.setCell ⟨g, 2, none⟩ (.int .u64 s')).drewN a).setCell ⟨g, 1, none⟩ (.int .i64 ((p : Int) + 1))) g v zs (p + 1) s' ∧
      w.grownBy (((w.setCell ⟨g, 2, none⟩ (.int .u64 s')).drewN a).setCell ⟨g, 1, none⟩ (.int .i64 ((p : Int) + 1))) (some g) := by
  obtain ⟨h1, h2⟩ := dice_state h s' a
  obtain ⟨hB, hg, hblk, hz⟩ := h1
  refine ⟨⟨hB.setCell (p := ⟨g, 1, none⟩) hg _, hg, ?_, hz⟩, grown_set h2 1 _⟩
  have h3 := hblk.stored 1 (.int .i64 ((p : Int) + 1))
  rw [show (p : Int) + 1 = ((p + 1 : Nat) : Int) by omega] at h3 ⊢
  exact h3
theorem DiceIs.storeDrew {w0 w : World} {g : Nat} {v : Value} {zs : List Int} {p : Nat} {s : Int} (h : DiceIs w0 w g v zs p s) (s' : Int) : DiceIs w0 (w.setCell ⟨g, 2, none⟩ (.int .u64 s')).drew g v zs p s' :=
  ⟨(h.below.setCell (p := ⟨g, 2, none⟩) h.place _).drew, h.place, h.blk.stored 2 _, h.code⟩
def Diced (w0 w : World) (g : Nat) (v : Value) (zs : List Int) (n : Int) (e : Ending) (w' : World) : Prop :=
  ∃ (x : Int) (p' : Nat) (s' : Int), (0 ≤ x ∧ x < n) ∧ e = .returned (.int .i64 x) ∧ p' ≤ zs.length ∧ DiceIs w0 w' g v zs p' s' ∧ w.grownBy w' (some g)
set_option maxRecDepth 100000 in
set_option maxHeartbeats 2000000 in
theorem below_in (w0 w : World) (g : Nat) (v : Value) (zs : List Int) (p : Nat) (s n : Int) (h : DiceIs w0 w g v zs p s) (hp : p < zs.length) (hz4 : zs.length ≤ 4096) (h1 : 1 ≤ n) (h2 : n ≤ 200) :
    Calls Try.prog 33 #[.pointer (some ⟨g, 0, none⟩), .int .i64 n] w (Diced w0 w g v zs n) := by
  have HS := ShQ.mk h
  obtain ⟨hB, hg, hblk, hz⟩ := h
  have hzl := hz.len
  obtain ⟨a, cap, rfl, hl, hm, hci, hwf⟩ := hz
  obtain ⟨b, off, rfl, hb, hc⟩ := hci (by omega)
  have hx := hwf (zs.getD p 0) (by rw [List.getD_eq_getElem?_getD, List.getElem?_eq_getElem hp]; exact List.getElem_mem _)
  have ec := (hB.cell (p := ⟨b, off + p, none⟩) hb).trans (hc p hp)
  have c0 : w.cell? ⟨g, 0, none⟩ = some (.slice (some ⟨b, off, none⟩) zs.length cap) := hblk.cells 0
  have c1 : w.cell? ⟨g, 1, none⟩ = some (.int .i64 (p : Int)) := hblk.cells 1
  have c2 : w.cell? ⟨g, 2, none⟩ = some (.int .u64 s) := hblk.cells 2
  have f1 := hblk.marks 1
  have f2 := hblk.marks 2
  have hp0 : (0 : Int) ≤ (p : Int) := by omega
  have hp1 : (p : Int) < (zs.length : Int) := by omega
  have hp2 : (p : Int) + 1 ≤ (zs.length : Int) := by omega
  have hd : decide (p < zs.length) = true := decide_eq_true hp
  have hbg : b ≠ g := by omega
  obtain ⟨x, hxx⟩ : ∃ x, zs.getD p 0 = x := ⟨_, rfl⟩
  rw [hxx] at ec hx
  have hxb : 0 ≤ x ∧ x ≤ 255 := by simp [Lit.wf, IntKind.min, IntKind.max, IntKind.bits, IntKind.signed] at hx; omega
  clear hc hci hwf hblk hxx hx
  go_enter Try.func33, Try.ntmps33
  go_wp2
  go_quiet (fail)
  go_wp2
  go_quiet (fail)
  go_wp2
  go_ret
  obtain ⟨h1', h2'⟩ := dice_step HS.out _ _
  exact ⟨_, p + 1, _, num_in _ x n hxb h1, rfl, by omega, h1', h2'⟩
set_option maxRecDepth 100000 in
set_option maxHeartbeats 2000000 in
theorem below_out (w0 w : World) (g : Nat) (v : Value) (zs : List Int) (p : Nat) (s n : Int) (h : DiceIs w0 w g v zs p s) (hp : ¬ p < zs.length) (hpz : p ≤ zs.length) (h1 : 1 ≤ n) (h2 : n ≤ 200) :
    Calls Try.prog 33 #[.pointer (some ⟨g, 0, none⟩), .int .i64 n] w (Diced w0 w g v zs n) := by
  have HS := ShQ.mk h
  obtain ⟨hB, hg, hblk, hz⟩ := h
  obtain ⟨a, cap, rfl, hl, hm, hci, hwf⟩ := hz
  have c0 : w.cell? ⟨g, 0, none⟩ = some (.slice a zs.length cap) := hblk.cells 0
  have c1 : w.cell? ⟨g, 1, none⟩ = some (.int .i64 (p : Int)) := hblk.cells 1
  have c2 : w.cell? ⟨g, 2, none⟩ = some (.int .u64 s) := hblk.cells 2
  have f1 := hblk.marks 1
  have f2 := hblk.marks 2
  have hd : decide (p < zs.length) = false := decide_eq_false hp
  have hp1 : ¬ (p : Int) < (zs.length : Int) := by omega
  clear hci hwf hblk
  go_enter Try.func33, Try.ntmps33
  go_wp2
  go_quiet (fail)
  go_wp2
  go_ret
  obtain ⟨h1', h2'⟩ := dice_state HS.out _ _
  exact ⟨_, p, _, num_out _ n h1, rfl, hpz, h1', h2'⟩
theorem diceBelow_any (w0 w : World) (g : Nat) (v : Value) (zs : List Int) (p : Nat) (s n : Int) (h : DiceIs w0 w g v zs p s) (hz4 : zs.length ≤ 4096) (hpz : p ≤ zs.length) (h1 : 1 ≤ n) (h2 : n ≤ 200) :
    Calls Try.prog 33 #[.pointer (some ⟨g, 0, none⟩), .int .i64 n] w (Diced w0 w g v zs n) := by
  by_cases hp : p < zs.length
  · exact below_in w0 w g v zs p s n h hp hz4 h1 h2
  · exact below_out w0 w g v zs p s n h hp hpz h1 h2
set_option maxRecDepth 100000 in
set_option maxHeartbeats 2000000 in
theorem f6roll_any (w : World) (v : Value) (zs : List Int) (k : Int) (hz : Ints .u8 w v zs) (hz4 : zs.length ≤ 4096) :
    Calls Try.prog 32 #[v, .int .u64 k] w fun e w' => ∃ s, e = .returned (.pointer (some ⟨w.heap.size, 0, none⟩)) ∧ DiceIs w w' w.heap.size v zs 0 s := by
  have HZ := ShQ.mk hz
  obtain ⟨a, cap, rfl, hl, hm, hci, hwf⟩ := hz
  have HCI := ShQ.mk hci
  clear hci hwf
  go_enter Try.func32, Try.ntmps32
  go_wp2
  go_loopw [6] (fun i wr => ∃ (j : Nat) (s : Int), j ≤ zs.length ∧ i = .int .i64 j ∧ ShQ (DiceIs w wr w.heap.size (.slice a zs.length cap) zs 0 s)) (fun i _ => zs.length - (intOf i).toNat)
  case atStart => exact ⟨0, _, Nat.zero_le _, rfl, ⟨⟨(Below.refl _ _).alloc (Nat.le_refl _) _, Nat.le_refl _, Blk.made _ _ _, HZ.out⟩⟩⟩
  case round =>
    obtain ⟨j, s, hj, rfl, hS⟩ := hrel
    by_cases hlt : j < zs.length
    · obtain ⟨b, off, rfl, hb, hc⟩ := HCI.out (by omega)
      have ec := (hS.out.below.cell (p := ⟨b, off + j, none⟩) hb).trans (hc j hlt)
      have c2 : wr.cell? ⟨w.heap.size, 2, none⟩ = some (.int .u64 s) := hS.out.blk.cells 2
      have f2 := hS.out.blk.marks 2
      have hp0 : (0 : Int) ≤ (j : Int) := by omega
      have hp1 : (j : Int) < (zs.length : Int) := by omega
      clear hc
      go_wp2
      go_region
      go_wp2
      go_roundw
      case rel => exact ⟨j + 1, _, by omega, by go_num, ⟨hS.out.storeDrew _⟩⟩
      case measure => simp [intOf]; omega
    · go_wp2
      go_ret
      exact ⟨s, rfl, hS.out⟩
end Go.Proofs.Ytpeobloofofnlaa
