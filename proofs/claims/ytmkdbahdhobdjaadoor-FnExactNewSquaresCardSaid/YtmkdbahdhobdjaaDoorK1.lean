/-
  Words for the memory that the laws read: rows of the call's own, and slices that hold strings.
-/
import Derived.Test.YtmkdbahdhobdjaaDoorK
import Derived.SliceStrings
namespace Go.Proofs.YtmkdbahdhobdjaaDoor
open Go.ChangeShapes Go.WideShapes Go.ChangeAt Go.RowKit Go.Joins

theorem own_kept {B n : Nat} {e : TypeId} {w w' : World} {v : Value} {xs : List Value} (h : w.ownsRow B e 1 v n xs) (hb : Below w.heap.size w w') : w'.ownsRow B e 1 v n xs := by
  refine ⟨h.1, ?_⟩
  rcases h.2 with h | ⟨g', cap, cur, h, hg1, hg, r⟩
  · exact .inl h
  · exact .inr ⟨g', cap, cur, h, hg1, (hb.block g' (Array.getElem?_eq_some_iff.1 hg).1).trans hg, r⟩
theorem own_lower {B B' n : Nat} {e : TypeId} {w : World} {v : Value} {xs : List Value} (h : w.ownsRow B e 1 v n xs) (hB : B' ≤ B) : w.ownsRow B' e 1 v n xs := by
  refine ⟨h.1, ?_⟩
  rcases h.2 with h | ⟨g', cap, cur, h, hg1, r⟩
  · exact .inl h
  · exact .inr ⟨g', cap, cur, h, Nat.le_trans hB hg1, r⟩
theorem below_drewN {B : Nat} {a w : World} (h : Below B a w) (n : Nat) : Below B a (w.drewN n) := ⟨h.os, h.tape, h.output, h.size, h.block⟩

/-! ### Lists of strings in memory -/
def strAt (ss : List ByteArray) (j : Nat) : ByteArray := ss.getD j ByteArray.empty
/-- The slice value v holds the strings ss, below the heap's end. -/
def Strs (w : World) (v : Value) (ss : List ByteArray) : Prop :=
  ∃ (a : Option Addr) (cap : Nat), v = .slice a ss.length cap ∧ ss.length ≤ cap ∧ cap ≤ maxLen ∧
    (0 < ss.length → ∃ b off, a = some ⟨b, off, none⟩ ∧ b < w.heap.size ∧ ∀ j, j < ss.length → w.cell? ⟨b, off + j, none⟩ = some (.string (strAt ss j)))
theorem Strs.below {w w' : World} {v : Value} {ss : List ByteArray} (h : Strs w v ss) (hb : Below w.heap.size w w') : Strs w' v ss := by
  obtain ⟨a, cap, hv, h1, h2, h3⟩ := h
  refine ⟨a, cap, hv, h1, h2, fun hp => ?_⟩
  obtain ⟨b, off, ha, hlt, hc⟩ := h3 hp
  exact ⟨b, off, ha, Nat.lt_of_lt_of_le hlt hb.size, fun j hj => (hb.cell (p := ⟨b, off + j, none⟩) hlt).trans (hc j hj)⟩
theorem Strs.len {w : World} {v : Value} {ss : List ByteArray} (h : Strs w v ss) : ss.length ≤ 9223372036854775807 := by
  obtain ⟨a, cap, _, h1, h2, _⟩ := h
  unfold maxLen at h2
  omega
/-- A row of the call's own that holds the strings ss. -/
def OwnS (B : Nat) (w : World) (v : Value) (ss : List ByteArray) : Prop := w.ownsRow B 9 1 v ss.length (ss.map Value.string)
theorem own_form {B n : Nat} {e : TypeId} {w : World} {v : Value} {xs : List Value} (h : w.ownsRow B e 1 v n xs) :
    ∃ (a : Option Addr) (cap : Nat), v = .slice a n cap ∧ n ≤ cap ∧ cap ≤ maxLen ∧ (0 < n → ∃ g, a = some ⟨g, 0, none⟩ ∧ B ≤ g ∧ g < w.heap.size) := by
  rcases h.2 with ⟨rfl, rfl⟩ | ⟨g, cap, cur, rfl, hB, hg, hn, hm, _⟩
  · exact ⟨none, 0, rfl, Nat.le_refl _, Nat.zero_le _, fun h => absurd h (by omega)⟩
  · exact ⟨_, cap, rfl, hn, hm, fun _ => ⟨g, rfl, hB, (Array.getElem?_eq_some_iff.1 hg).1⟩⟩
theorem strAt_map (ss : List ByteArray) (j : Nat) (h : j < ss.length) : (ss.map Value.string)[j]? = some (.string (strAt ss j)) := by
  unfold strAt
  simp [List.getD_eq_getElem?_getD, List.getElem?_eq_getElem h]
theorem OwnS.strs {B : Nat} {w : World} {v : Value} {ss : List ByteArray} (h : OwnS B w v ss) : Strs w v ss := by
  obtain ⟨a, cap, rfl, h1, h2, h3⟩ := own_form h
  refine ⟨a, cap, rfl, h1, h2, fun hp => ?_⟩
  obtain ⟨g, rfl, _, hlt⟩ := h3 hp
  refine ⟨g, 0, rfl, hlt, fun j hj => ?_⟩
  rw [Nat.zero_add, World.ownsRow.cellAt h j (by omega), strAt_map ss j hj]


theorem Strs.drewN {w : World} {v : Value} {ss : List ByteArray} (h : Strs w v ss) (n : Nat) : Strs (w.drewN n) v ss := h
theorem Strs.alloc {w : World} {v : Value} {ss : List ByteArray} (h : Strs w v ss) (o : Obj) : Strs (w.alloc o) v ss := h.below ((Below.refl _ _).alloc (Nat.le_refl _) o)
theorem strs_cell {H : Type} {enc : TypeId × Value → H} {P : Program} {w : World} {base : Nat} {held : Bool} {t e : TypeId} {fuel : Nat} {v : Value} {y : DataW H × List MemPlace} (ht : P.underlying t = some (.slice e)) (he : P.underlying e = some .string) (hc : P.cellsOf e = 1)
    (h : DataW.trod enc P w base (fun _ => true) held fuel t [v] = some y) : ∃ ss : List ByteArray, Strs w v ss ∧ ∀ s ∈ ss, s.size ≤ maxLen := by
  have hlt := DataW.trod_lt _ _ _ _ h
  rcases open_strings ht he hc h with ⟨hcs, _⟩ | ⟨a, len, cap, ss, hcs, _, hl, hm, hz, hx, hcell, hsz⟩
  · simp at hcs
    exact ⟨[], ⟨none, 0, hcs, Nat.le_refl _, Nat.zero_le _, fun h => absurd h (by simp)⟩, fun _ h => by simp at h⟩
  · simp at hcs
    simp at hz
    have hlen : (ss.take len).length = len := by simp; omega
    refine ⟨ss.take len, ⟨some a, cap, by rw [hlen]; exact hcs, by omega, hm, fun hp => ?_⟩, fun s hs => hsz s (List.mem_of_mem_take hs)⟩
    have hp0 : 0 < ss.length := by omega
    obtain ⟨b, off, spot⟩ := a
    have hspot : spot = none := by simpa [Addr.add] using World.cell?_spot (hcell 0 hp0)
    subst hspot
    have hin : (MemPlace.cell b off) ∈ y.2 := by
      rw [hx]
      show _ ∈ MemPlace.row _ _
      obtain ⟨m, hm'⟩ : ∃ m, ss.length = m + 1 := ⟨ss.length - 1, by omega⟩
      rw [hm']
      simp [MemPlace.row]
    refine ⟨b, off, rfl, hlt _ hin, fun j hj => ?_⟩
    rw [hlen] at hj
    have := hcell j (by omega)
    rw [Go.WideShapes.add_plain] at this
    rw [this]
    unfold strAt
    simp [List.getD_eq_getElem?_getD, hj]
end Go.Proofs.YtmkdbahdhobdjaaDoor
