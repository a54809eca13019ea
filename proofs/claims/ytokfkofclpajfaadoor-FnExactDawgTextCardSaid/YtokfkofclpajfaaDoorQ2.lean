/-
  The program's kinds and counts of tiles.
-/
import Derived.Test.YtokfkofclpajfaaDoorQ1
import Derived.Test.YtokfkofclpajfaaDoorC1
import Derived.Test.YtokfkofclpajfaaDoorShelfI
import Derived.Laws.ResultCell
namespace Go.Proofs.YtokfkofclpajfaaDoor
open Go.RowKit

theorem made2Q (w : World) (t t' : TypeId) (cs cs' : Array Value) : Blk ((w.alloc (.cells cs t)).alloc (.cells cs' t')) (w.heap.size + 1) t' cs' := by
  have := Blk.made (w.alloc (.cells cs t)) t' cs'
  simpa only [World.size_alloc] using this
theorem Blk.row {w : World} {g : Nat} {t : TypeId} {cs : Array Value} (h : Blk w g t cs) (cs' : Array Value) : Blk (w.setRow g cs') g t cs' := setRow_heap w g cs cs' t (0, 0) h
theorem Blk.row_other {w : World} {g g' : Nat} {t : TypeId} {cs : Array Value} (h : Blk w g t cs) (hg : g ≠ g') (cs' : Array Value) : Blk (w.setRow g' cs') g t cs := (setRow_other w g' g cs' hg).trans h
theorem below_row {B : Nat} {w w' : World} {g : Nat} (h : Below B w w') (hg : B ≤ g) (cs : Array Value) : Below B w (w'.setRow g cs) :=
  h.trans ⟨rfl, rfl, rfl, by simp, fun k hk => setRow_other _ _ _ _ (by omega)⟩
end Go.Proofs.YtokfkofclpajfaaDoor
