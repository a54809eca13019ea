/-
  The model's sorting, adding, taking of tiles, and what two piles have in common.
-/
import Derived.Test.YtdleinognmdfmaaDoorO2
import Derived.Test.YtdleinognmdfmaaDoorO5
namespace Go.Proofs.YtdleinognmdfmaaDoor
open Go.RowKit

/-! ### Sorting -/

/-! ### Adding -/
theorem pile_is {s : ByteArray} {b : Bool} (h : pileB s.data.toList = b) (w : World) (hs : s.size ≤ 1048576) :
    Calls Tryd.prog 31 #[.string s] w fun e w' => e = .returned (.bool b) ∧ Below w.heap.size w w' := by
  rw [← h]
  exact (l03Pile_any s w hs).mono fun e w' ⟨he, n, hw⟩ => ⟨he, by rw [hw]; exact belowU (Below.refl _ _) _⟩
theorem l03Sort_cat {a b : ByteArray} {X : List UInt8} (h : sortL (a.data.toList ++ b.data.toList) = X) (w : World) (hs : a.size + b.size ≤ 1048576) (ht : allTiles (a.data.toList ++ b.data.toList) = true) :
    Calls Tryd.prog 45 #[.string (a ++ b)] w fun e w' => e = .returned (.string (txt X)) ∧ Below w.heap.size w w' := by
  have e : (a ++ b).data.toList = a.data.toList ++ b.data.toList := by simp
  have := l03Sort_any (a ++ b) w (by rw [txt_cat, txt_size]; simpa using hs) (by rw [e]; exact ht)
  rw [e, h] at this
  exact this

/-! ### Taking -/
theorem l03Take_is {a b : ByteArray} {O : List UInt8} {t : Bool} (h1 : (takeL a.data.toList b.data.toList).1 = O) (h2 : (takeL a.data.toList b.data.toList).2.isEmpty = t) (w : World) (ha : a.size ≤ 1048576) (hb : b.size ≤ 1048576) :
    Calls Tryd.prog 30 #[.string a, .string b] w fun e w' => e = .returned (.tuple #[.string (txt O), .bool t]) ∧ Below w.heap.size w w' := by
  rw [← h1, ← h2]
  exact l03Take_any a b w ha hb
theorem takeL_empty {a b : List UInt8} (h1 : pileB a = true) (h2 : pileB b = true) : (takeL a b).2.isEmpty = hasAll a b := by
  rw [pileB_iff] at h1 h2
  rw [Bool.eq_iff_iff, List.isEmpty_iff]
  exact takeL_has h1.1 h2.1 h1.2.1 h2.2.1
theorem takeL_less {a b : List UInt8} (h1 : pileB a = true) (h2 : pileB b = true) (h : hasAll a b = true) : (takeL a b).1 = lessL a b := by
  have he := takeL_empty h1 h2
  rw [h, List.isEmpty_iff] at he
  rw [pileB_iff] at h1
  exact takeL_out h1.1 h1.2.1 he
end Go.Proofs.YtdleinognmdfmaaDoor
