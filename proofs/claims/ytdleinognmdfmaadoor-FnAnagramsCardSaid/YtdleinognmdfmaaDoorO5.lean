/-
  The program's taking of tiles, what contains what, and what two piles have in common.
-/
import Derived.Test.YtdleinognmdfmaaDoorO4
namespace Go.Proofs.YtdleinognmdfmaaDoor
open Go.RowKit

theorem leN_has {a b : List UInt8} : leN (cnt b) (cnt a) = hasAll a b := by
  rw [Bool.eq_iff_iff, leN_iff, hasAll_iff]
/-- One pile without the tiles of another one. -/
def lessL (a b : List UInt8) : List UInt8 := pileN (fun k => cnt a k - cnt b k) 27
/-- What two piles have in common. -/
def meetL (a b : List UInt8) : List UInt8 := pileN (fun k => min (cnt a k) (cnt b k)) 27
def takeOut (a b : List UInt8) : List UInt8 × Int := if pileB a = true ∧ pileB b = true then (if hasAll a b = true then (lessL a b, 0) else ([], 3)) else ([], 1)
theorem takeOut_no {a b : List UInt8} (h : pileB a = false ∨ pileB b = false) : takeOut a b = ([], 1) := by
  unfold takeOut
  rw [if_neg]
  rintro ⟨h1, h2⟩
  rcases h with h | h
  · rw [h1] at h; cases h
  · rw [h2] at h; cases h
theorem takeOut_yes {a b : List UInt8} (h1 : pileB a = true) (h2 : pileB b = true) (h : hasAll a b = true) : takeOut a b = (lessL a b, 0) := by
  unfold takeOut
  rw [if_pos ⟨h1, h2⟩, if_pos h]
theorem takeOut_not {a b : List UInt8} (h1 : pileB a = true) (h2 : pileB b = true) (h : hasAll a b = false) : takeOut a b = ([], 3) := by
  unfold takeOut
  rw [if_pos ⟨h1, h2⟩, if_neg (by rw [h]; exact fun e => by cases e)]
def meetOut (a b : List UInt8) : List UInt8 × Int := if pileB a = true ∧ pileB b = true then (meetL a b, 0) else ([], 1)
theorem meetOut_no {a b : List UInt8} (h : pileB a = false ∨ pileB b = false) : meetOut a b = ([], 1) := by
  unfold meetOut
  rw [if_neg]
  rintro ⟨h1, h2⟩
  rcases h with h | h
  · rw [h1] at h; cases h
  · rw [h2] at h; cases h
theorem meetOut_yes {a b : List UInt8} (h1 : pileB a = true) (h2 : pileB b = true) : meetOut a b = (meetL a b, 0) := by
  unfold meetOut
  rw [if_pos ⟨h1, h2⟩]
def holdsB (a b : List UInt8) : Bool := pileB a && pileB b && hasAll a b

/-- What two calls of countPile leave: the two arrays in two variables, behind the heap's old end. -/
structure TwoPiles (w w1 w2 : World) (F G : Nat → Nat) : Prop where
  below : Below w.heap.size w (w2.alloc (.cells (arrN G) 61))
  first : Blk (w2.alloc (.cells (arrN G) 61)) w1.heap.size 61 (arrN F)
  second : Blk (w2.alloc (.cells (arrN G) 61)) w2.heap.size 61 (arrN G)
  size1 : w.heap.size ≤ w1.heap.size
  size2 : w1.heap.size < w2.heap.size
theorem twoPiles {w w1 w2 : World} {F G : Nat → Nat} (hb1 : Below w.heap.size w w1)
    (hb2 : Below (w1.alloc (.cells (arrN F) 61)).heap.size (w1.alloc (.cells (arrN F) 61)) w2) : TwoPiles w w1 w2 F G := by
  have h1 := hb1.size
  have h2 := hb2.size
  rw [World.size_alloc] at h2
  exact ⟨((hb1.alloc h1 _).trans (hb2.mono (by rw [World.size_alloc]; omega))).alloc (by omega) _, ((Blk.made _ _ _).kept hb2 (by rw [World.size_alloc]; omega)).alloc _, Blk.made _ _ _, h1, by omega⟩

end Go.Proofs.YtdleinognmdfmaaDoor
