/-
  Whether a text of more than 120 tiles is a pile: the program's.
-/
import Derived.Test.YtmkdbahdhobdjaaDoorQ5
import Derived.Deep.WholeRow
namespace Go.Proofs.YtmkdbahdhobdjaaDoor
open Go.RowKit

section
variable {P : Program} {ops : Array Oper} {Q : Exit → Act → World → Prop} {a : Act} {w : World} {rest : List Oper} {o : Oper}
/-- An array into the variable that was made last. -/
theorem store_last (hgd : o.guard = none) (x y : Operand) (ho : o.op = .store 117 x y) (W : World) (f : Nat → Int) (cs0 : Array Value)
    (hw : w = W.alloc (.cells cs0 117)) (hx : a.eval x = .pointer (some ⟨W.heap.size, 0, none⟩)) (hy : a.eval y = .agg (arrI f)) (hs : cs0.size = 27)
    (h : wpList Tryd.prog ops Q rest (a.put o.dst undef) (W.alloc (.cells (arrI f) 117))) : wpList Tryd.prog ops Q (o :: rest) a w := by
  subst hw
  refine wpList_store_row hgd 117 x y ho W.heap.size (arrI f) hx hy 117 cs0 (heap_alloc_new W _) (arr_info f) (by rw [hs, arrI_size]) (arrI_one f) ?_
  rw [World.setRow_alloc_new]
  exact h
/-- An array out of a variable that is known whole. -/
theorem load_arr (hgd : o.guard = none) (x : Operand) (ho : o.op = .load 117 x) (g : Nat) (hx : a.eval x = .pointer (some ⟨g, 0, none⟩)) (f : Nat → Int) (hb : Blk w g 117 (arrI f))
    (h : wpList Tryd.prog ops Q rest (a.put o.dst (.agg (arrI f))) w) : wpList Tryd.prog ops Q (o :: rest) a w :=
  wpList_load_row hgd 117 x ho g hx 117 (arrI f) (0, 0) _ hb Tryd.underlying117 rfl (arr_info f) h
/-- A whole array out of a variable, where the operation is guarded and wanted. -/
theorem load_wanted (j : Nat) (b : Bool) (d0 : Tmp) (hgd : o.guard = some (j, b)) (hod : (ops[j]?).bind (·.dst) = some d0) (htv : a.tmps[d0]? = some (.bool b)) (ty : TypeId) (x : Operand) (ho : o.op = .load ty x)
    (g : Nat) (hx : a.eval x = .pointer (some ⟨g, 0, none⟩)) (t : TypeId) (cs : Array Value) (d : TypeDesc) (hg : Blk w g t cs)
    (hu : P.underlying ty = some d) (hd : (match d with | .struct _ | .array _ _ => true | _ => false) = true) (hi : (P.info? ty).map (·.size) = some cs.size)
    (h : wpList P ops Q rest (a.put o.dst (.agg cs)) w) : wpList P ops Q (o :: rest) a w :=
  wpList_step fun K hK => by
    have hw : Region.wanted o (yielded ops a.tmps) = true := by
      simp [Region.wanted, hgd, yielded, hod, htv]
    simp only [hw, if_true]
    exact wp_load_row ty x ho g hx t cs (0, 0) d hg hu hd hi (hK _ _ h)
end


end Go.Proofs.YtmkdbahdhobdjaaDoor
