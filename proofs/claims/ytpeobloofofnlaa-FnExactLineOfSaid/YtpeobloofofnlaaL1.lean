/-
  The laws' helpers on lexicons: sizes, copies, comparisons, marks.
-/
import Derived.Test.YtpeobloofofnlaaL0
import Derived.Test.YtpeobloofofnlaaS1
namespace Go.Proofs.Ytpeobloofofnlaa
open Go.ChangeShapes Go.WideShapes Go.ChangeAt Go.RowKit Go.Joins Go.Deep

theorem OwnS.grown {B : Nat} {w w' : World} {v : Value} {ss : List ByteArray} {r : Option Nat} (h : OwnS B w v ss) (hg : w.grownBy w' r) (hr : ∀ k, r = some k → k < B) : OwnS B w' v ss := by
  refine ⟨h.1, ?_⟩
  rcases h.2 with h | ⟨g', cap, cur, h, hg1, hgg, rest⟩
  · exact .inl h
  · exact .inr ⟨g', cap, cur, h, hg1, (hg.block g' (Array.getElem?_eq_some_iff.1 hgg).1 (fun e => by have := hr g' e.symm; omega)).trans hgg, rest⟩
theorem OwnS.block {B : Nat} {w : World} {v : Value} {ss : List ByteArray} (h : OwnS B w v ss) : ∀ k, v.ownBlock = some k → B ≤ k := fun k hk => (World.ownsRow.lt h k hk).1
theorem OwnS.under {B : Nat} {w : World} {v : Value} {ss : List ByteArray} (h : OwnS B w v ss) : ∀ k, v.ownBlock = some k → k < w.heap.size := fun k hk => (World.ownsRow.lt h k hk).2
theorem Strs.grown {B : Nat} {w w' : World} {v : Value} {ss : List ByteArray} {r : Option Nat} (h : Strs w v ss) (hg : w.grownBy w' r) (hr : ∀ k, r = some k → B ≤ k) (hb : ∀ k, v.ownBlock = some k → k < B) : Strs w' v ss := by
  obtain ⟨a, cap, hv, h1, h2, h3⟩ := h
  refine ⟨a, cap, hv, h1, h2, fun hp => ?_⟩
  obtain ⟨b, off, ha, hlt, hc⟩ := h3 hp
  have hbB : b < B := hb b (by rw [hv, ha]; rfl)
  refine ⟨b, off, ha, Nat.lt_of_lt_of_le hlt hg.size, fun j hj => ?_⟩
  rw [← hc j hj]
  have hk := hg.block b hlt (fun e => by have := hr b e.symm; omega)
  simp only [World.cell?, hk]
theorem grown_alloc {w w' : World} {o : Obj} {r : Option Nat} (h : (w.alloc o).grownBy w' r) : w.grownBy w' r :=
  ⟨h.os, h.tape, h.output, Nat.le_trans (by simp) h.size, fun i hi hn => (h.block i (by simp; omega) hn).trans (Below.heap_alloc w o i hi)⟩





end Go.Proofs.Ytpeobloofofnlaa
