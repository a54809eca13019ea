/-
  The letters that are wanted: a range over a string while memory changes, a rune written into a builder, the program's lettersWith.
-/
import Derived.Test.YtpjekfebpgjgnaaQ3
import Derived.Test.YtpjekfebpgjgnaaUE
import Derived.Test.YtpjekfebpgjgnaaShelfI
namespace Go.Proofs.Ytpjekfebpgjgnaa
open Go.RowKit

/-! ### A range over a string whose place lies in some block -/
def stepIter (w : World) (b : Nat) (s : ByteArray) (p : Nat) : World := { w with heap := w.heap.setIfInBounds b (.stringIter s p) }
theorem run_next_at {P : Program} (w : World) (b : Nat) (s : ByteArray) (pos : Nat) (ty : TypeId) (hb : w.heap[b]? = some (.stringIter s pos)) (h : pos < s.size) :
    (Instr.next (.pointer (some ⟨b, 0, none⟩)) true ty).run P w = .ok (.tuple #[.bool true, .int .i64 pos, .int .i32 (Utf8.decode s pos).1]) (stepIter w b s (pos + (Utf8.decode s pos).2)) := by
  simp only [Instr.next, getObj, setObj, Sem.run_bind, Sem.run, hb, Result.andThen, h, if_true]
  simp [goInt, stepIter]
theorem run_next_stop {P : Program} (w : World) (b : Nat) (s : ByteArray) (pos : Nat) (ty : TypeId) (hb : w.heap[b]? = some (.stringIter s pos)) (h : ¬ pos < s.size) :
    (Instr.next (.pointer (some ⟨b, 0, none⟩)) true ty).run P w = .ok (.tuple #[.bool false]) w := by
  simp [Instr.next, getObj, Sem.run, hb, h]
theorem stepIter_at {w : World} {b : Nat} {s : ByteArray} {p q : Nat} (hb : w.heap[b]? = some (.stringIter s p)) : (stepIter w b s q).heap[b]? = some (.stringIter s q) := by
  have hlt := (Array.getElem?_eq_some_iff.1 hb).1
  simp [stepIter, hlt]
theorem stepIter_other {w : World} {b g : Nat} {s : ByteArray} {q : Nat} (h : g ≠ b) : (stepIter w b s q).heap[g]? = w.heap[g]? := by
  simp [stepIter, Ne.symm h]
theorem stepIter_size (w : World) (b : Nat) (s : ByteArray) (q : Nat) : (stepIter w b s q).heap.size = w.heap.size := by simp [stepIter]
theorem stepIter_below {B : Nat} {w0 w : World} {b : Nat} {s : ByteArray} {q : Nat} (h : Below B w0 w) (hb : B ≤ b) : Below B w0 (stepIter w b s q) :=
  ⟨h.os, h.tape, h.output, by rw [stepIter_size]; exact h.size, fun k hk => by rw [stepIter_other (by omega)]; exact h.block k hk⟩
theorem row_step {B n : Nat} {e : TypeId} {w : World} {v : Value} {xs : List Value} {b : Nat} {s : ByteArray} {p q : Nat} (h : w.ownsRow B e 1 v n xs) (hb : w.heap[b]? = some (.stringIter s p)) : (stepIter w b s q).ownsRow B e 1 v n xs := by
  refine ⟨h.1, ?_⟩
  rcases h.2 with h | ⟨g, cap, cur, h, hg1, hg, r⟩
  · exact .inl h
  · have hne : g ≠ b := fun e => by rw [e, hb] at hg; cases hg
    exact .inr ⟨g, cap, cur, h, hg1, (stepIter_other hne).trans hg, r⟩
theorem isB_step {B c : Nat} {l : List UInt8} {w : World} {b : Nat} {s : ByteArray} {p q : Nat} (h : IsB B c l w) (hb : w.heap[b]? = some (.stringIter s p)) : IsB B c l (stepIter w b s q) := by
  have one : ∀ pp, Lib.BuilderAt 120 5 B c pp (Lib.byteCells l) w → Lib.BuilderAt 120 5 B c pp (Lib.byteCells l) (stepIter w b s q) := by
    rintro pp ⟨hB, v, hbk, hown, hne⟩
    have hcb : c ≠ b := fun e => by rw [e, hb] at hbk; cases hbk
    exact ⟨hB, v, (stepIter_other hcb).trans hbk, row_step hown hb, hne⟩
  rcases h with h | h
  · exact .inl (one _ h)
  · exact .inr (one _ h)

/-! ### A rune behind a row of bytes, and behind a builder's -/
theorem byte_cells_more (l : List UInt8) (r : Int) (h0 : 0 ≤ r) (h1 : r < 256) : Lib.byteCells l ++ [.int .u8 r] = Lib.byteCells (l ++ [UInt8.ofNat r.toNat]) := by
  have : ((UInt8.ofNat r.toNat).toNat : Int) = r := by
    rw [UInt8.toNat_ofNat']
    omega
  rw [← byte_cells_snoc, this]
set_option maxHeartbeats 1000000 in
theorem appendRune_any (B : Nat) (v : Value) (l : List UInt8) (r : Int) (h0 : 0 ≤ r) (h1 : r ≤ 127) (w : World) (hown : w.ownsRow B 5 1 v l.length (Lib.byteCells l)) (hlen : l.length ≤ 1000000) (hBw : B ≤ w.heap.size) :
    Calls Try.prog 173 #[v, .int .i32 r] w fun e w' => ∃ a c, e = .returned (.slice a (l.length + 1) c) ∧ w'.ownsRow B 5 1 (.slice a (l.length + 1) c) (l.length + 1) (Lib.byteCells (l ++ [UInt8.ofNat r.toNat])) ∧ ∃ o, (w.alloc o).grownBy w' v.ownBlock := by
  obtain ⟨i0, hi, hz0, hz1, hz2⟩ := info_parts info8Q
  have HL := ShE.mk (byte_cells_more l r h0 (by omega))
  have hll := Lib.byteCells_length l
  go_enter Try.func173, Try.ntmps173
  go_wp2_with (at_builtin; refine wpList_append_own _ rfl _ _ 22 rfl B 5 i0 (.int .u8 0) 1 1 Try.underlying22 hi hz0 hz1 hz2 rfl (by decide) _ _ _ rfl (World.ownsRow.alloc hown _) ⟨w.heap.size, 0, none⟩ 1 1 [.int .u8 r] rfl rfl ?c1 ?c2 ?c3 ?c4 ?c5 ?_)
  case c1 => exact cell_one_new _ _ _
  case c2 => intro u hu; simp at hu; subst hu; rfl
  case c3 => unfold maxLen; omega
  case c4 => omega
  case c5 => simp; omega
  intro v' w2 hown' hgrow _
  obtain ⟨a, cap, rfl, -⟩ := own_formQ hown'
  have HO := ShE.mk hown'
  have HG := ShE.mk hgrow
  clear hown' hgrow
  go_wp2
  go_ret
  exact ⟨_, _, rfl, by rw [← HL.out]; exact HO.out, _, HG.out⟩
/-- What becomes of the places of ranges. -/
def Iters (w w' : World) : Prop := ∀ (i : Nat) (s : ByteArray) (p : Nat), w.heap[i]? = some (Obj.stringIter s p) → w'.heap[i]? = some (Obj.stringIter s p)
theorem Iters.trans {a b c : World} (h : Iters a b) (k : Iters b c) : Iters a c := fun i s p e => k i s p (h i s p e)
theorem iters_set {w : World} {b : Nat} {cs : Array Value} {t : TypeId} {z : Nat × Nat} (hb : w.heap[b]? = some (.cells cs t z)) (j : Nat) (u : Value) : Iters w (w.setCell ⟨b, j, none⟩ u) := by
  intro i s p h
  have hne : i ≠ b := fun e => by rw [e, hb] at h; cases h
  rw [Below.heap_setCell w ⟨b, j, none⟩ u i hne]
  exact h
theorem copyCheck_iter (B b : Nat) (l : List UInt8) (w : World) (h : IsB B b l w) :
    Calls Try.prog 172 #[.pointer (some ⟨b, 0, none⟩)] w fun e w' => e = .returned (.tuple #[]) ∧ Lib.BuilderAt 120 5 B b (.pointer (some ⟨b, 0, none⟩)) (Lib.byteCells l) w' ∧ Below B w w' ∧ Iters w w' := by
  rcases h with h | h
  · refine (copyCheck_fresh b w h.cell0 h.shape h.frozen0).mono ?_
    rintro e w' ⟨rfl, rfl⟩
    refine ⟨rfl, h.used _, (Below.refl B w).setCell (p := ⟨b, 0, none⟩) h.1 _, ?_⟩
    obtain ⟨_, v, hbk, _⟩ := h
    exact iters_set hbk _ _
  · refine (copyCheck_used b w h.cell0).mono ?_
    rintro e w' ⟨rfl, rfl⟩
    exact ⟨rfl, h, Below.refl B _, fun _ _ _ h => h⟩
theorem iters_grown {B n : Nat} {e : TypeId} {w w2 : World} {v : Value} {xs : List Value} {o : Obj} (h : w.ownsRow B e 1 v n xs) (hg : (w.alloc o).grownBy w2 v.ownBlock) : Iters w w2 := by
  intro i s p hi
  have hlt := (Array.getElem?_eq_some_iff.1 hi).1
  have hne : some i ≠ v.ownBlock := by
    intro e2
    rcases h.2 with ⟨rfl, _⟩ | ⟨g, cap, cur, rfl, _, hg1, _⟩
    · cases e2
    · simp [Value.ownBlock] at e2
      rw [← e2, hi] at hg1
      cases hg1
  rw [hg.block i (by simp; omega) hne, ← hi]
  exact Below.heap_alloc w o i hlt
set_option maxHeartbeats 2000000 in
set_option maxRecDepth 100000 in
theorem writeRune_any (B b : Nat) (l : List UInt8) (r : Int) (h0 : 0 ≤ r) (h1 : r ≤ 127) (w : World) (h : IsB B b l w) (hlen : l.length ≤ 1000000) (hBw : B ≤ w.heap.size) :
    Calls Try.prog 150 #[.pointer (some ⟨b, 0, none⟩), .int .i32 r] w fun e w' => (∃ x, e = .returned x) ∧ IsB B b (l ++ [UInt8.ofNat r.toNat]) w' ∧ Below B w w' ∧ Iters w w' := by
  have hll := Lib.byteCells_length l
  go_enter Try.func150, Try.ntmps150
  go_wp2_with fail
  refine (copyCheck_iter B b l _ h).mono ?_
  rintro e w1 ⟨rfl, h1', hb1, hit1⟩
  have HI1 := ShE.mk hit1
  clear hit1
  obtain ⟨hB, v, hbk, hown, hne⟩ := h1'
  obtain ⟨a0, cap0, rfl, -⟩ := own_formQ hown
  have c0 : w1.cell? ⟨b, 0, none⟩ = some (.pointer (some ⟨b, 0, none⟩)) := by rw [Lib.cell_of_heap hbk]; rfl
  have c1 : w1.cell? ⟨b, 1, none⟩ = some (.slice a0 (Lib.byteCells l).length cap0) := by rw [Lib.cell_of_heap hbk]; rfl
  rw [hll] at c1 hown
  have HOWN0 := ShE.mk hown
  have HBK := ShE.mk hbk
  have HNE := ShE.mk hne
  have HB1 := ShE.mk hb1
  clear hown hbk hne hll
  go_wp2_with fail
  refine (appendRune_any B _ l r h0 h1 _ HOWN0.out hlen (by have := HB1.out.size; omega)).mono ?_
  rintro e w2 ⟨a, c, rfl, hown', o, hgrow⟩
  have hlt : b < w1.heap.size := (Array.getElem?_eq_some_iff.1 HBK.out).1
  have hb2 : w2.heap[b]? = some (.cells #[.pointer (some ⟨b, 0, none⟩), .slice a0 (Lib.byteCells l).length cap0] 120 (0, 0)) := by
    rw [hgrow.block b (by simp; omega) (fun e => HNE.out (by rw [Lib.byteCells_length]; exact e.symm)), ← HBK.out]
    exact Below.heap_alloc w1 o b hlt
  have d0 : w2.cell? ⟨b, 0, none⟩ = some (.pointer (some ⟨b, 0, none⟩)) := by rw [Lib.cell_of_heap hb2]; rfl
  have d1 : w2.cell? ⟨b, 1, none⟩ = some (.slice a0 (Lib.byteCells l).length cap0) := by rw [Lib.cell_of_heap hb2]; rfl
  have f1 : w2.frozen? ⟨b, 1, none⟩ = false := Lib.frozen_of_heap hb2 1
  have hown2 : w2.ownsRow B 5 1 (.slice a (l.length + 1) c) (Lib.byteCells (l ++ [UInt8.ofNat r.toNat])).length (Lib.byteCells (l ++ [UInt8.ofNat r.toNat])) := by
    rw [Lib.byteCells_length, List.length_append, List.length_singleton]
    exact hown'
  have HOWN := ShE.mk hown2
  have HBB := ShE.mk ((HB1.out.alloc (by have := HB1.out.size; omega) o).grown hgrow (by have := HB1.out.size; simp; omega) (fun k hk => (HOWN0.out.lt k hk).1))
  have HB2 := ShE.mk hb2
  have d2 : (w2.setCell ⟨b, 1, none⟩ (.slice a (l.length + 1) c)).cell? ⟨b, 1, none⟩ = some (.slice a (l.length + 1) c) := ((show Blk w2 b _ _ from hb2).stored 1 (.slice a (l.length + 1) c)).cells 1
  have HI2 := ShE.mk ((HI1.out.trans (iters_grown HOWN0.out hgrow)).trans (iters_set hb2 1 (.slice a (l.length + 1) c)))
  clear hown2 hown' hgrow c0 c1 hb2
  go_wp2
  go_ret2
  refine ⟨⟨_, rfl⟩, Or.inr ?_, ?_, ?_⟩
  · exact Lib.BuilderAt.put hB HB2.out HOWN.out (by decide)
  · exact HBB.out.setCell (p := ⟨b, 1, none⟩) hB _
  · exact HI2.out

/-! ### The small letters -/
abbrev abcB : ByteArray := ⟨#[97, 98, 99, 100, 101, 102, 103, 104, 105, 106, 107, 108, 109, 110, 111, 112, 113, 114, 115, 116, 117, 118, 119, 120, 121, 122]⟩
def letU (k : Nat) : UInt8 := UInt8.ofNat (97 + k)
def letS (k : Nat) : ByteArray := ⟨#[letU k]⟩
def letsTo (q : Nat → Bool) (n : Nat) : List UInt8 := ((List.range n).filter q).map letU
theorem letsTo_skip {q : Nat → Bool} {n : Nat} (h : q n = false) : letsTo q (n + 1) = letsTo q n := by simp [letsTo, List.range_succ, h]
theorem letsTo_more {q : Nat → Bool} {n : Nat} (h : q n = true) : letsTo q (n + 1) = letsTo q n ++ [letU n] := by simp [letsTo, List.range_succ, h]
theorem letsTo_len (q : Nat → Bool) (n : Nat) : (letsTo q n).length ≤ n := by
  unfold letsTo
  rw [List.length_map]
  exact Nat.le_trans (List.length_filter_le _ _) (by simp)
theorem abc_dec : ∀ k, k < 26 → Utf8.decode abcB k = (97 + k, 1) := by decide +kernel
theorem abc_enc : ∀ k, k < 26 → Utf8.encode ((97 + k : Nat) : Int) = letS k := by
  intro k hk
  unfold Utf8.encode
  have hv : Utf8.valid ((97 + k : Nat) : Int) = true := by unfold Utf8.valid; simp; omega
  have hc : ((97 + k : Nat) : Int).toNat < 128 := by omega
  simp only [hv, if_true, hc]
  rfl
/-- What a function value of two captured variables says of the letters. -/
def TellsL (K : FuncId) (c1 c2 : Value) (w : World) (q : Nat → Bool) : Prop :=
  ∀ k, k < 26 → ∀ wr, Below w.heap.size w wr → Calls Try.prog K #[.string (letS k), c1, c2] wr fun e w' => e = .returned (.bool (q k)) ∧ Below wr.heap.size wr w'
set_option maxRecDepth 100000 in
set_option maxHeartbeats 2000000 in
theorem lettersWith_any {q : Nat → Bool} {K : FuncId} {c1 c2 : Value} (w : World) (hK : ∀ args w, (callFunc K args).run Try.prog w = .ok (.enter K args) w) (hq : TellsL K c1 c2 w q) :
    Calls Try.prog 102 #[.func (.func K) #[] #[c1, c2]] w fun e w' => e = .returned (.string ⟨(letsTo q 26).toArray⟩) ∧ Below w.heap.size w w' := by
  have HQ := ShE.mk hq
  have hfr := fresh_builder w
  have HFR := ShE.mk hfr
  clear hq hfr
  go_enter Try.func102, Try.ntmps102
  go_wp2
  go_loopw [5] (fun _ wr => ∃ k : Nat, k ≤ 26 ∧ ShE (wr.heap[w.heap.size + 1]? = some (.stringIter abcB k)) ∧ ShE (IsB w.heap.size w.heap.size (letsTo q k) wr) ∧ ShE (Below w.heap.size w wr)) (fun _ wr => 26 - wr.iterPos (w.heap.size + 1))
  case atStart =>
    refine ⟨0, Nat.zero_le _, ⟨?_⟩, ⟨HFR.out.kept ((Below.refl _ _).alloc (Nat.le_refl _) _)⟩, ⟨((Below.refl _ _).alloc (Nat.le_refl _) _).alloc (by simp) _⟩⟩
    have := World.iter_heap (w.alloc (.cells #[.pointer none, .slice none 0 0] 120)) abcB 0
    rw [World.size_alloc] at this
    exact this
  case round =>
    obtain ⟨k, hk, hit, hbd, hb⟩ := hrel
    have hz := hb.out.size
    have hil := (Array.getElem?_eq_some_iff.1 hit.out).1
    have HP0 := ShE.mk (iterPos_of hit.out)
    by_cases hlt : k < 26
    · have hnx : ∀ ty, (Instr.next (.pointer (some ⟨w.heap.size + 1, 0, none⟩)) true ty).run Try.prog wr = _ := fun ty => run_next_at wr (w.heap.size + 1) abcB k ty hit.out hlt
      rw [abc_dec k hlt] at hnx
      have hen := abc_enc k hlt
      have HIT1 := ShE.mk (stepIter_at (q := k + 1) hit.out)
      have HBD1 := ShE.mk (isB_step (q := k + 1) hbd.out hit.out)
      have HB1 := ShE.mk (stepIter_below (b := w.heap.size + 1) (s := abcB) (q := k + 1) hb.out (by omega))
      have HLN := letsTo_len q k
      have hS := letsTo_skip (q := q) (n := k)
      have hM := letsTo_more (q := q) (n := k)
      have HRU := ShE.mk (show UInt8.ofNat ((97 + k : Nat) : Int).toNat = letU k by rw [Int.toNat_natCast]; rfl)
      have hR0 : (0 : Int) ≤ ((97 + k : Nat) : Int) := by omega
      have hR1 : ((97 + k : Nat) : Int) ≤ 127 := by omega
      obtain ⟨R, hR⟩ : ∃ R : Int, ((97 + k : Nat) : Int) = R := ⟨_, rfl⟩
      rw [hR] at hen HRU hR0 hR1
      have hnx' : ∀ ty, (Instr.next (.pointer (some ⟨w.heap.size + 1, 0, none⟩)) true ty).run Try.prog wr = .ok (.tuple #[.bool true, .int .i64 k, .int .i32 R]) (stepIter wr (w.heap.size + 1) abcB (k + 1)) := fun ty => by rw [hnx ty, hR]
      clear hnx hR hit hbd hb
      obtain ⟨W1, hW1⟩ : ∃ W1, stepIter wr (w.heap.size + 1) abcB (k + 1) = W1 := ⟨_, rfl⟩
      rw [hW1] at hnx' HIT1 HBD1 HB1
      have HT := ShE.mk (HQ.out k hlt W1 HB1.out)
      clear hW1
      cases hqk : q k
      · have HE := ShE.mk (hS hqk)
        rw [hqk] at HT
        clear hS hM hqk
        go_wp2_with fail
        refine HT.out.mono ?_
        rintro e w3 ⟨rfl, hb3⟩
        have HIT3 := ShE.mk ((hb3.block _ (Array.getElem?_eq_some_iff.1 HIT1.out).1).trans HIT1.out)
        have HBD3 := ShE.mk (HBD1.out.kept hb3)
        have HB3 := ShE.mk (HB1.out.trans (hb3.mono HB1.out.size))
        have HP3 := ShE.mk (iterPos_of HIT3.out)
        clear hb3 hnx'
        go_wp2
        go_roundw
        case rel => exact ⟨k + 1, by omega, HIT3, ⟨by rw [HE.out]; exact HBD3.out⟩, HB3⟩
        case measure => rw [HP0.out, HP3.out]; omega
      · have HE := ShE.mk (hM hqk)
        rw [hqk] at HT
        clear hS hM hqk
        go_wp2_with fail
        refine HT.out.mono ?_
        rintro e w3 ⟨rfl, hb3⟩
        have HIT3 := ShE.mk ((hb3.block _ (Array.getElem?_eq_some_iff.1 HIT1.out).1).trans HIT1.out)
        have HBD3 := ShE.mk (HBD1.out.kept hb3)
        have HB3 := ShE.mk (HB1.out.trans (hb3.mono HB1.out.size))
        clear hb3 hnx'
        go_wp2_with fail
        refine (writeRune_any w.heap.size w.heap.size (letsTo q k) R hR0 hR1 _ HBD3.out (by omega) HB3.out.size).mono ?_
        rintro e w4 ⟨⟨x, rfl⟩, hbd4, hb4, hi4⟩
        have HB4 := ShE.mk (HB3.out.trans hb4)
        have HBD4 := ShE.mk hbd4
        have HIT4 := ShE.mk (hi4 _ _ _ HIT3.out)
        have HP4 := ShE.mk (iterPos_of HIT4.out)
        clear hbd4 hb4 hi4
        go_wp2
        go_roundw
        case rel => exact ⟨k + 1, by omega, HIT4, ⟨by rw [HE.out, ← HRU.out]; exact HBD4.out⟩, HB4⟩
        case measure => rw [HP0.out, HP4.out]; omega
    · obtain rfl : k = 26 := by omega
      have hnx : ∀ ty, (Instr.next (.pointer (some ⟨w.heap.size + 1, 0, none⟩)) true ty).run Try.prog wr = _ := fun ty => run_next_stop wr (w.heap.size + 1) abcB 26 ty hit.out hlt
      go_wp2_with fail
      refine (Try.Builder_String_any w.heap.size w.heap.size (letsTo q 26) _ hbd.out hz).mono ?_
      rintro e w2 ⟨rfl, hb2⟩
      go_wp2
      go_ret
      exact ⟨rfl, hb.out.trans hb2⟩
end Go.Proofs.Ytpjekfebpgjgnaa
