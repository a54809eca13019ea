/-
  Another cell on a square: SetCell of both sides.
-/
import Derived.Test.YtmkdbahdhobdjaaDoorBE
import Derived.Laws.IdiomStrings
import Derived.Laws.Runes
import Derived.StillTailTactics
namespace Go.Proofs.YtmkdbahdhobdjaaDoor
open Go.RowKit

theorem setOut_no1 {n : Int} {p c : ByteArray} {r k : Int} {x : UInt8} (h : okBd n p c = false) : setOut n p c r k x = (noBd, 1) := by unfold setOut; rw [h]; rfl
theorem setOut_no2 {n : Int} {p c : ByteArray} {r k : Int} {x : UInt8} (h : okBd n p c = true) (h2 : inBd n r k = false) : setOut n p c r k x = (noBd, 2) := by unfold setOut; rw [h, h2]; rfl
theorem setOut_no3 {n : Int} {p c : ByteArray} {r k : Int} {x : UInt8} (h : okBd n p c = true) (h2 : inBd n r k = true) (h3 : cellI (x.toNat : Int) = false) : setOut n p c r k x = (noBd, 7) := by unfold setOut; rw [h, h2, h3]; rfl
theorem setOut_yes {n : Int} {p c : ByteArray} {r k : Int} {x : UInt8} (h : okBd n p c = true) (h2 : inBd n r k = true) (h3 : cellI (x.toNat : Int) = true) : setOut n p c r k x = ((n, p, setS c (r * n + k).toNat x), 0) := by unfold setOut; rw [h, h2, h3]; rfl
theorem u8_bounds {x : Int} (h : (Lit.int .u8 x).wf = true) : 0 ≤ x ∧ x ≤ 255 := by
  simp [Lit.wf, IntKind.min, IntKind.max, IntKind.bits, IntKind.signed] at h; omega
theorem u8_of {x : Int} (h0 : 0 ≤ x) (h1 : x ≤ 255) : ∃ u : UInt8, x = (u.toNat : Int) ∧ x.toNat.toUInt8 = u := by
  refine ⟨x.toNat.toUInt8, ?_, rfl⟩
  have : x.toNat.toUInt8.toNat = x.toNat := by simp [Nat.toUInt8]; omega
  rw [this]; omega
theorem setS_cut {c : ByteArray} {I : Nat} (h : I < c.size) (x : UInt8) : c.extract 0 I ++ ⟨#[x]⟩ ++ c.extract (I + 1) c.size = setS c I x := by
  apply Go.WideShapes.bytes_inj
  have hl : c.data.toList.length = c.size := by rw [Array.length_toList]; rfl
  simp only [setS]
  rw [ByteArray.data_append, ByteArray.data_append, Array.toList_append, Array.toList_append, Lib.extract_data, Lib.extract_data, List.set_eq_take_append_cons_drop, if_pos (by omega)]
  simp [List.take_of_length_le, hl]
/-- A row of bytes that a conversion has made, in block g: its first n cells hold l; what lies behind it is frozen. -/
def FrO (w : World) (g n : Nat) (l : List UInt8) : Prop :=
  ∃ cs : Array Value, w.heap[g]? = some (.cells cs 5 (cs.size, cs.size + 1)) ∧ l.length = n ∧ n ≤ cs.size ∧ ∀ (j : Nat) (c : UInt8), l[j]? = some c → cs[j]? = some (Value.int .u8 (c.toNat : Int))
theorem FrO.cell {w : World} {g n : Nat} {l : List UInt8} (h : FrO w g n l) {j : Nat} {c : UInt8} (hj : l[j]? = some c) : w.cell? ⟨g, j, none⟩ = some (.int .u8 (c.toNat : Int)) := by
  obtain ⟨cs, h1, _, _, h4⟩ := h
  rw [cell_of_row w g j cs _ _ h1]
  exact h4 j c hj
theorem FrO.mark {w : World} {g n : Nat} {l : List UInt8} (h : FrO w g n l) {j : Nat} (hj : j < n) : w.frozen? ⟨g, j, none⟩ = false := by
  obtain ⟨cs, h1, _, h3, _⟩ := h
  simp [World.frozen?, h1]
  omega
theorem FrO.store {w : World} {g n : Nat} {l : List UInt8} (h : FrO w g n l) {j : Nat} (hj : j < n) (c : UInt8) : FrO (w.setCell ⟨g, j, none⟩ (.int .u8 (c.toNat : Int))) g n (l.set j c) := by
  obtain ⟨cs, h1, h2, h3, h4⟩ := h
  refine ⟨cs.setIfInBounds j (.int .u8 (c.toNat : Int)), ?_, by rw [List.length_set]; exact h2, by simpa using h3, fun i x hx => ?_⟩
  · simp [World.setCell, Array.getElem?_modify, h1]
  · rw [List.getElem?_set] at hx
    rw [Array.getElem?_setIfInBounds]
    by_cases e : j = i
    · subst e
      rw [if_pos rfl, if_pos (by omega)] at hx
      rw [if_pos rfl, if_pos (by omega), ← Option.some.inj hx]
    · rw [if_neg e] at hx
      rw [if_neg e]
      exact h4 i x hx
theorem fro_made (w : World) (s : ByteArray) (cap : Nat) : FrO (w.drew.alloc (.cells (bytesRow s cap) 5 ((bytesRow s cap).size, (bytesRow s cap).size + 1))) w.heap.size s.size s.data.toList := by
  refine ⟨bytesRow s cap, ?_, by simp, ?_, fun j c hc => ?_⟩
  · exact heap_alloc_new w.drew _
  · have e1 : (bytesRow s cap).size = s.data.size + (cap - s.size) := by
      unfold bytesRow
      rw [Array.size_append, Array.size_map, Array.size_replicate]
    have e2 : s.size = s.data.size := rfl
    omega
  · have hj : j < s.data.size := by
      rcases Nat.lt_or_ge j s.data.size with h | h
      · exact h
      · rw [List.getElem?_eq_none (by simpa using h)] at hc; cases hc
    unfold bytesRow
    rw [Array.getElem?_append_left (by simpa using hj), Array.getElem?_map]
    rw [Array.getElem?_toList] at hc
    rw [hc]
    rfl
theorem conv_frO {w : World} {g n cap : Nat} {l : List UInt8} (h : FrO w g n l) : (convert 79 9 (.slice (some ⟨g, 0, none⟩) n cap)).run Tryd.prog w = .ok (.string ⟨l.toArray⟩) w := by
  have hl : l.length = n := h.choose_spec.2.1
  subst hl
  exact run_convert_bytes_back w 79 9 5 ⟨g, 0, none⟩ cap l Tryd.underlying79 Tryd.underlying5 Tryd.underlying9 (fun j hj => by
    have e : (⟨g, 0, none⟩ : Addr).add j = ⟨g, j, none⟩ := by unfold Addr.add; split <;> simp_all
    rw [e]
    exact h.cell (List.getElem?_eq_getElem hj))

theorem FrO.kept {w w' : World} {B g n : Nat} {l : List UInt8} (h : FrO w g n l) (hb : Below B w w') (hg : g < B) : FrO w' g n l := by
  obtain ⟨cs, h1, h2⟩ := h
  exact ⟨cs, (hb.block g hg).trans h1, h2⟩
theorem encode_low {u : UInt8} (h : u.toNat < 128) : Utf8.encode (u.toNat : Int) = ⟨#[u]⟩ := by
  have hv : Utf8.valid (u.toNat : Int) = true := by simp [Utf8.valid]; omega
  unfold Utf8.encode
  simp [hv, h]
end Go.Proofs.YtmkdbahdhobdjaaDoor
