/-
  What is left of a number of values and letters; results that are numbers.
-/
import Derived.Test.YtmkdbahdhobdjaaDoorA
namespace Go.Proofs.YtmkdbahdhobdjaaDoor
open Go.RowKit

/-- What is left of a number of values and letters, -1 where it does not suffice. -/
def szN (left : Int) (n : Nat) : Int := if left < n then -1 else left - n
theorem szN_no {left : Int} {n : Nat} (h : left < n) : szN left n = -1 := if_pos h
theorem szN_yes {left : Int} {n : Nat} (h : ¬ left < n) : szN left n = left - n := if_neg h
theorem ret_i64 {a b : Int} (h : a = b) : Ending.returned (.int .i64 a) = .returned (.int .i64 b) := by rw [h]
end Go.Proofs.YtmkdbahdhobdjaaDoor
