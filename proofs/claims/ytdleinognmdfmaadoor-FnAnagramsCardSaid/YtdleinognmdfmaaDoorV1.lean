/-
  ValidPile and ValidRack: the program's and the model's.
-/
import Derived.Test.YtdleinognmdfmaaDoorQ8
import Derived.Test.YtdleinognmdfmaaDoorU1
namespace Go.Proofs.YtdleinognmdfmaaDoor
open Go.RowKit

set_option maxHeartbeats 400000 in
theorem implValidPile_any (s : ByteArray) (w : World) (hs : s.size ≤ 1048576) :
    Calls Tryd.prog 22 #[.string s] w fun e w' => e = .returned (.bool (pileB s.data.toList)) ∧ Below w.heap.size w w' := by
  go_enter Tryd.func22, Tryd.ntmps22
  go_wp2_with (first | (go_at_call 40; refine (countPile_any _ _ hs).mono ?_; rintro e w1 ⟨rfl, hb⟩) | (refine store_last rfl _ _ rfl _ (fun k => (cntP s.data.toList k : Int)) _ rfl (by rfl) (by rfl) rfl ?_))
  go_ret
  exact ⟨rfl, hb.alloc hb.size _⟩

/-- A text is a rack. -/
def rackB (s : ByteArray) : Bool := pileB s.data.toList && decide (s.size ≤ 7)
end Go.Proofs.YtdleinognmdfmaaDoor
