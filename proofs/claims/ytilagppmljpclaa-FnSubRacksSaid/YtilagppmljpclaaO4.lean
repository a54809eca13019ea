/-
  The program's sorting, adding and taking of tiles.
-/
import Derived.Test.YtilagppmljpclaaV1
import Derived.Test.YtilagppmljpclaaO3
namespace Go.Proofs.Ytilagppmljpclaa
open Go.RowKit

section
variable {P : Program} {ops : Array Oper} {Q : Exit → Act → World → Prop} {a : Act} {w : World} {rest : List Oper} {o : Oper}
theorem store_lastN (hgd : o.guard = none) (x y : Operand) (ho : o.op = .store 74 x y) (W : World) (f : Nat → Nat) (cs0 : Array Value)
    (hw : w = W.alloc (.cells cs0 74)) (hx : a.eval x = .pointer (some ⟨W.heap.size, 0, none⟩)) (hy : a.eval y = .agg (arrN f)) (hs : cs0.size = 27)
    (h : wpList Try.prog ops Q rest (a.put o.dst undef) (W.alloc (.cells (arrN f) 74))) : wpList Try.prog ops Q (o :: rest) a w :=
  store_last hgd x y ho W (fun k => (f k : Int)) cs0 hw hx hy hs h
theorem load_arrN (hgd : o.guard = none) (x : Operand) (ho : o.op = .load 74 x) (g : Nat) (hx : a.eval x = .pointer (some ⟨g, 0, none⟩)) (f : Nat → Nat) (hb : Blk w g 74 (arrN f))
    (h : wpList Try.prog ops Q rest (a.put o.dst (.agg (arrN f))) w) : wpList Try.prog ops Q (o :: rest) a w := load_arr hgd x ho g hx (fun k => (f k : Int)) hb h
end

/-- X is the pile of so many tiles of each kind. (A structure, so that the walk does not look into it.) -/
structure PileIs (F : Nat → Nat) (X : List UInt8) : Prop where
  out : pileN F 27 = X
theorem pileOf_is {F : Nat → Nat} {X : List UInt8} (h : PileIs F X) (w : World) (hf : ∀ k, k < 27 → F k ≤ 1000) :
    Calls Try.prog 51 #[.agg (arrN F)] w fun e w' => e = .returned (.string (txt X)) ∧ Below w.heap.size w w' := by
  obtain ⟨rfl⟩ := h
  exact pileOf_any F w hf

/-! ### Sorting -/
def sortOut (l : List UInt8) : List UInt8 × Int := if allTiles l = true then (if l.length ≤ 120 then (sortL l, 0) else ([], 5)) else ([], 7)
theorem sortOut_no {l : List UInt8} (h : allTiles l = false) : sortOut l = ([], 7) := by
  unfold sortOut
  rw [if_neg (by rw [h]; exact fun e => by cases e)]
theorem sortOut_long {l : List UInt8} (h : allTiles l = true) (h2 : 120 < l.length) : sortOut l = ([], 5) := by
  unfold sortOut
  rw [if_pos h, if_neg (by omega)]
theorem sortOut_yes {l : List UInt8} (h : allTiles l = true) (h2 : l.length ≤ 120) : sortOut l = (sortL l, 0) := by
  unfold sortOut
  rw [if_pos h, if_pos h2]


/-! ### Adding -/
def addOut (a b : List UInt8) : List UInt8 × Int := if pileB a = true ∧ pileB b = true then (if a.length + b.length ≤ 120 then (sortL (a ++ b), 0) else ([], 5)) else ([], 1)
theorem addOut_no {a b : List UInt8} (h : pileB a = false ∨ pileB b = false) : addOut a b = ([], 1) := by
  unfold addOut
  rw [if_neg]
  rintro ⟨h1, h2⟩
  rcases h with h | h
  · rw [h1] at h; cases h
  · rw [h2] at h; cases h
theorem addOut_yes {a b : List UInt8} (h1 : pileB a = true) (h2 : pileB b = true) (h : a.length + b.length ≤ 120) : addOut a b = (sortL (a ++ b), 0) := by
  unfold addOut
  rw [if_pos ⟨h1, h2⟩, if_pos h]
theorem addOut_long {a b : List UInt8} (h1 : pileB a = true) (h2 : pileB b = true) (h : 120 < a.length + b.length) : addOut a b = ([], 5) := by
  unfold addOut
  rw [if_pos ⟨h1, h2⟩, if_neg (by omega)]
theorem addOut_sort {a b : List UInt8} (h1 : pileB a = true) (h2 : pileB b = true) : addOut a b = sortOut (a ++ b) := by
  have ht : allTiles (a ++ b) = true := by rw [tiles_cat, (pileB_iff.1 h1).1, (pileB_iff.1 h2).1]; rfl
  by_cases h : a.length + b.length ≤ 120
  · rw [addOut_yes h1 h2 h, sortOut_yes ht (by simpa using h)]
  · rw [addOut_long h1 h2 (by omega), sortOut_long ht (by simp; omega)]

end Go.Proofs.Ytilagppmljpclaa
