/-
  The model's taking of tiles.
-/
import Derived.Test.YtmkdbahdhobdjaaDoorU1
import Derived.Test.YtmkdbahdhobdjaaDoorN2
namespace Go.Proofs.YtmkdbahdhobdjaaDoor
open Go.RowKit

/-- Another byte at the end of a row of the call's own. -/
theorem append_byteO {ops : Array Oper} {rest : List Oper} {o : Oper} {a : Act} {Q : Exit → Act → World → Prop} {B : Nat} {W : World} (hgd : o.guard = none) (s x : Operand)
    (ho : o.op = .call { callee := .builtin .append, args := #[s, x], argTypes := #[79, 79] })
    (v : Value) (l : List UInt8) (c : UInt8) (hs : a.eval s = v) (hx : a.eval x = .slice (some ⟨W.heap.size, 0, none⟩) 1 1)
    (hown : OwnB B W v l) (hlen : l.length ≤ 2097152) (hB : B ≤ W.heap.size)
    (h : ∀ v' w', OwnB B w' v' (l ++ [c]) → (∀ w0, Below B w0 W → Below B w0 w') → wpList Tryd.prog ops Q rest (a.put o.dst v') w') :
    wpList Tryd.prog ops Q (o :: rest) a (W.alloc (.cells #[.int .u8 (c.toNat : Int)] 5)) := by
  obtain ⟨i0, hi, hz0, hz1, hz2⟩ := info_parts info8Q
  refine wpList_append_own _ hgd s x 79 ho B 5 i0 (.int .u8 0) 1 1 Tryd.underlying79 hi hz0 hz1 hz2 rfl (by decide) v l.length (Lib.byteCells l) hs (World.ownsRow.alloc hown _) ⟨W.heap.size, 0, none⟩ 1 1 [.int .u8 (c.toNat : Int)] hx rfl ?_ ?_ ?_ ?_ ?_ ?_
  · exact cell_one_new _ _ _
  · intro u hu; simp at hu; subst hu; rfl
  · simp [maxLen]; omega
  · omega
  · simp; omega
  · intro v' w' ho' hg _
    refine h v' w' ?_ fun w0 h0 => (h0.alloc hB _).grown hg (by simp; omega) (own_blockQ hown)
    unfold OwnB
    rw [← byte_cells_snoc, List.length_append]
    exact ho'

end Go.Proofs.YtmkdbahdhobdjaaDoor
