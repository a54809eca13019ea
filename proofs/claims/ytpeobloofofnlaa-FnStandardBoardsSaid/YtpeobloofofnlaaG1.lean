/-
  The model's source of choices: what one call takes from it.
-/
import Derived.Test.YtpeobloofofnlaaK
import Derived.Test.YtpeobloofofnlaaN2
import Derived.Deep.QuietTactic
import Derived.BigQuiet
import Derived.IntWalk
import Derived.Laws.Bits64b
namespace Go.Proofs.Ytpeobloofofnlaa
open Go.RowKit

theorem bytes_cell {H : Type} {enc : TypeId × Value → H} {P : Program} {w : World} {base : Nat} {held : Bool} {t e : TypeId} {fuel : Nat} {v : Value} {y : DataW H × List MemPlace} (ht : P.underlying t = some (.slice e)) (he : P.underlying e = some (.int .u8)) (hc : P.cellsOf e = 1)
    (h : DataW.trod enc P w base (fun _ => true) held fuel t [v] = some y) : ∃ zs : List Int, Ints .u8 w v zs := ints_any_cell ht he hc h
/-- A source in block g, which the call itself has made: it reads the bytes zs (argument's memory, as the world w0 had it) from place p on. -/
structure SrcIs (w0 w : World) (g : Nat) (v : Value) (zs : List Int) (p : Nat) (s : Int) : Prop where
  below : Below w0.heap.size w0 w
  place : w0.heap.size ≤ g
  blk : Blk w g 146 #[v, .int .i64 (p : Int), .int .u64 s]
  code : Ints .u8 w0 v zs

theorem grown_drewN {w w' : World} {r : Option Nat} (h : w.grownBy w' r) (n : Nat) : w.grownBy (w'.drewN n) r := ⟨h.os, h.tape, h.output, h.size, h.block⟩
theorem grown_self (w : World) (r : Option Nat) : w.grownBy w r := ⟨rfl, rfl, rfl, Nat.le_refl _, fun _ _ _ => rfl⟩
theorem grown_set {w wr : World} {g : Nat} (h : w.grownBy wr (some g)) (j : Nat) (u : Value) : w.grownBy (wr.setCell ⟨g, j, none⟩ u) (some g) :=
  ⟨h.os, h.tape, h.output, by simpa using h.size, fun k hk hne => (Below.heap_setCell wr ⟨g, j, none⟩ u k (fun e => hne (by rw [e]))).trans (h.block k hk hne)⟩
theorem grown_trans {w w1 w2 : World} {r : Option Nat} (h1 : w.grownBy w1 r) (h2 : w1.grownBy w2 r) : w.grownBy w2 r :=
  ⟨h2.os.trans h1.os, h2.tape.trans h1.tape, h2.output.trans h1.output, Nat.le_trans h1.size h2.size, fun k hk hne => (h2.block k (Nat.lt_of_lt_of_le hk h1.size) hne).trans (h1.block k hk hne)⟩
/-- What one call of 'next' does to the source. -/
theorem src_next {w0 w : World} {g : Nat} {v : Value} {zs : List Int} {p : Nat} {s : Int} (h : SrcIs w0 w g v zs p s) (a n : Nat) (s' : Int) :
    SrcIs w0 ((((w.drewN a).setCell ⟨g, 1, none⟩ (.int .i64 ((p : Int) + 1))).setCell ⟨g, 2, none⟩ (.int .u64 s')).drewN n) g v zs (p + 1) s' ∧
      w.grownBy ((((w.drewN a).setCell ⟨g, 1, none⟩ (.int .i64 ((p : Int) + 1))).setCell ⟨g, 2, none⟩ (.int .u64 s')).drewN n) (some g) := by
  obtain ⟨hB, hg, hblk, hz⟩ := h
  refine ⟨⟨?_, hg, ?_, hz⟩, grown_drewN (grown_set (grown_set (grown_drewN (grown_self w _) a) 1 _) 2 _) n⟩
  · have h1 : Below w0.heap.size w0 (w.drewN a) := ⟨hB.os, hB.tape, hB.output, hB.size, hB.block⟩
    have h2 := (h1.setCell (p := ⟨g, 1, none⟩) hg (.int .i64 ((p : Int) + 1))).setCell (p := ⟨g, 2, none⟩) hg (.int .u64 s')
    exact ⟨h2.os, h2.tape, h2.output, h2.size, h2.block⟩
  · have h1 : Blk (w.drewN a) g 146 #[v, .int .i64 (p : Int), .int .u64 s] := hblk
    have h2 := (h1.stored 1 (.int .i64 ((p : Int) + 1))).stored 2 (.int .u64 s')
    rw [show (p : Int) + 1 = ((p + 1 : Nat) : Int) by omega] at h2 ⊢
    exact h2
/-- A number between bounds was taken, at most d bytes further on; nothing but the source has changed. -/
def Took (w0 w : World) (g : Nat) (v : Value) (zs : List Int) (p d : Nat) (R : Int → Prop) (e : Ending) (w' : World) : Prop :=
  ∃ (x : Int) (p' : Nat) (s' : Int), R x ∧ e = .returned (.int .i64 x) ∧ p' ≤ p + d ∧ SrcIs w0 w' g v zs p' s' ∧ w.grownBy w' (some g)

set_option maxRecDepth 100000 in
set_option maxHeartbeats 2000000 in
theorem next_in (w0 w : World) (g : Nat) (v : Value) (zs : List Int) (p : Nat) (s : Int) (h : SrcIs w0 w g v zs p s) (hp : p < zs.length) :
    Calls Try.prog 189 #[.pointer (some ⟨g, 0, none⟩)] w (Took w0 w g v zs p 1 (fun x => 0 ≤ x ∧ x ≤ 255)) := by
  have HS := Shh.mk h
  obtain ⟨hB, hg, hblk, hz⟩ := h
  have hzl := hz.len
  obtain ⟨a, cap, rfl, hl, hm, hci, hwf⟩ := hz
  obtain ⟨b, off, rfl, hb, hc⟩ := hci (by omega)
  have hx := hwf (zs.getD p 0) (by rw [List.getD_eq_getElem?_getD, List.getElem?_eq_getElem hp]; exact List.getElem_mem _)
  have ec := (hB.cell (p := ⟨b, off + p, none⟩) hb).trans (hc p hp)
  have c0 : w.cell? ⟨g, 0, none⟩ = some (.slice (some ⟨b, off, none⟩) zs.length cap) := hblk.cells 0
  have c1 : w.cell? ⟨g, 1, none⟩ = some (.int .i64 (p : Int)) := hblk.cells 1
  have c2 : w.cell? ⟨g, 2, none⟩ = some (.int .u64 s) := hblk.cells 2
  have f1 := hblk.marks 1
  have f2 := hblk.marks 2
  have hp0 : (0 : Int) ≤ (p : Int) := by omega
  have hp1 : (p : Int) < (zs.length : Int) := by omega
  have hp2 : (p : Int) + 1 ≤ (zs.length : Int) := by omega
  have hd : decide (p < zs.length) = true := decide_eq_true hp
  have hbg : b ≠ g := by omega
  obtain ⟨x, hxx⟩ : ∃ x, zs.getD p 0 = x := ⟨_, rfl⟩
  rw [hxx] at ec hx
  have hxb : 0 ≤ x ∧ x ≤ 255 := by simp [Lit.wf, IntKind.min, IntKind.max, IntKind.bits, IntKind.signed] at hx; omega
  clear hc hci hwf hblk hxx hx
  go_enter Try.func189, Try.ntmps189
  go_wp2
  go_quiet (fail)
  go_wp2
  go_quiet (fail)
  go_wp2
  go_quiet (fail)
  go_wp2
  go_ret
  obtain ⟨h1, h2⟩ := src_next HS.out _ _ _
  exact ⟨x, p + 1, _, hxb, rfl, Nat.le_refl _, h1, h2⟩

theorem low_byte (n : Int) : 0 ≤ wrap64 (bits .and .u64 (IntKind.u64.wrap n / 1099511627776) 255) ∧ wrap64 (bits .and .u64 (IntKind.u64.wrap n / 1099511627776) 255) ≤ 255 := by
  have hw : 0 ≤ IntKind.u64.wrap n ∧ IntKind.u64.wrap n < 18446744073709551616 := by rw [IntKind.wrap_u64]; omega
  generalize IntKind.u64.wrap n = y at hw
  obtain ⟨m, hm⟩ := Int.eq_ofNat_of_zero_le (show 0 ≤ y / 1099511627776 by omega)
  have hb := bits_and_u64_nat m 255 (by omega) (by omega)
  have hle := Nat.and_le_right (n := m) (m := 255)
  rw [hm, show (255 : Int) = ((255 : Nat) : Int) from rfl, hb]
  generalize (m &&& 255 : Nat) = z at hle
  have hz : wrap64 (z : Int) = (z : Int) := IntWalk.wrap64_in _ (by omega)
  rw [hz]
  omega
set_option maxRecDepth 100000 in
set_option maxHeartbeats 2000000 in
theorem next_out (w0 w : World) (g : Nat) (v : Value) (zs : List Int) (p : Nat) (s : Int) (h : SrcIs w0 w g v zs p s) (hp : zs.length ≤ p) (hpm : p ≤ 1000000000000) :
    Calls Try.prog 189 #[.pointer (some ⟨g, 0, none⟩)] w (Took w0 w g v zs p 1 (fun x => 0 ≤ x ∧ x ≤ 255)) := by
  have HS := Shh.mk h
  obtain ⟨hB, hg, hblk, hz⟩ := h
  have hzl := hz.len
  obtain ⟨a, cap, rfl, hl, hm, hci, hwf⟩ := hz
  have c0 : w.cell? ⟨g, 0, none⟩ = some (.slice a zs.length cap) := hblk.cells 0
  have c1 : w.cell? ⟨g, 1, none⟩ = some (.int .i64 (p : Int)) := hblk.cells 1
  have c2 : w.cell? ⟨g, 2, none⟩ = some (.int .u64 s) := hblk.cells 2
  have f1 := hblk.marks 1
  have f2 := hblk.marks 2
  have hp0 : (0 : Int) ≤ (p : Int) := by omega
  have hd : decide (p < zs.length) = false := decide_eq_false (by omega)
  have hd2 : ¬ (p : Int) + 1 ≤ (zs.length : Int) := by omega
  clear hci hwf hblk
  go_enter Try.func189, Try.ntmps189
  go_wp2
  go_quiet (fail)
  go_wp2
  go_quiet (fail)
  go_wp2
  go_ret
  obtain ⟨h1, h2⟩ := src_next HS.out _ _ _
  exact ⟨_, p + 1, _, low_byte _, rfl, Nat.le_refl _, h1, h2⟩
theorem next_any (w0 w : World) (g : Nat) (v : Value) (zs : List Int) (p : Nat) (s : Int) (h : SrcIs w0 w g v zs p s) (hpm : p ≤ 1000000000000) :
    Calls Try.prog 189 #[.pointer (some ⟨g, 0, none⟩)] w (Took w0 w g v zs p 1 (fun x => 0 ≤ x ∧ x ≤ 255)) := by
  rcases Nat.lt_or_ge p zs.length with h1 | h1
  · exact next_in w0 w g v zs p s h h1
  · exact next_out w0 w g v zs p s h h1 hpm

set_option maxHeartbeats 1000000 in
/-- A choice among n. -/
theorem pick_any (w0 w : World) (g : Nat) (v : Value) (zs : List Int) (p : Nat) (s n : Int) (h : SrcIs w0 w g v zs p s) (hpm : p ≤ 999999999999) (h1 : 1 ≤ n) (h2 : n ≤ 200) :
    Calls Try.prog 110 #[.pointer (some ⟨g, 0, none⟩), .int .i64 n] w (Took w0 w g v zs p 1 (fun x => 0 ≤ x ∧ x < n)) := by
  have HS := Shh.mk h
  clear h
  by_cases hn : n ≤ 1
  · obtain rfl : n = 1 := by omega
    go_enter Try.func110, Try.ntmps110
    go_wp2
    go_ret
    exact ⟨0, p, s, by omega, rfl, by omega, HS.out, grown_self _ _⟩
  · have hn2 : ¬ (200 : Int) < n := by omega
    go_enter Try.func110, Try.ntmps110
    go_wp2_with fail
    refine (next_any w0 w g v zs p s HS.out (by omega)).mono ?_
    rintro e w1 ⟨x, p', s', hx, rfl, hp', hs', hg⟩
    have HS1 := Shh.mk hs'
    have HG := Shh.mk hg
    obtain ⟨hx0, hx1⟩ := hx
    have hmod : 0 ≤ x % n ∧ x % n < n := ⟨Int.emod_nonneg _ (by omega), Int.emod_lt_of_pos _ (by omega)⟩
    have HM := Shh.mk hmod
    have hne : ¬ n = 0 := by omega
    clear hs' hg hmod
    go_wp2
    go_ret
    exact ⟨x % n, p', s', HM.out, rfl, hp', HS1.out, HG.out⟩
end Go.Proofs.Ytpeobloofofnlaa
