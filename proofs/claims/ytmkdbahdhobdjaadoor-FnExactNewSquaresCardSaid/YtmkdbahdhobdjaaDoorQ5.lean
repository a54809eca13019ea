/-
  Whether a text is a pile, and its counts: the program's.
-/
import Derived.Test.YtmkdbahdhobdjaaDoorQ4
namespace Go.Proofs.YtmkdbahdhobdjaaDoor
open Go.RowKit

/-- The counts of a pile; all 0 for another text. -/
def cntP (l : List UInt8) (k : Nat) : Nat := if pileB l = true then cnt l k else 0
theorem cntP_yes {l : List UInt8} (h : pileB l = true) : cntP l = cnt l := by
  funext k
  unfold cntP
  rw [if_pos h]
theorem cntP_no {l : List UInt8} (h : pileB l = false) : cntP l = fun _ => 0 := by
  funext k
  unfold cntP
  rw [if_neg (by rw [h]; exact fun e => by cases e)]
theorem pileB_no1 {l : List UInt8} (h : allTiles l = false) : pileB l = false := by simp [pileB, h]
theorem pileB_no2 {l : List UInt8} (h : 120 < l.length) : pileB l = false := by
  unfold pileB
  rw [decide_eq_false (p := l.length ≤ 120) (by omega), Bool.and_false]
theorem pileB_eq {l : List UInt8} (h1 : allTiles l = true) (h2 : l.length ≤ 120) : pileB l = (pileN (cnt l) 27 == l) := by
  unfold pileB
  rw [h1, decide_eq_true h2, Bool.true_and, Bool.and_true, Bool.eq_iff_iff]
  simp only [decide_eq_true_eq, beq_iff_eq]
  exact ⟨fun h => pile_of_asc h1 h, fun h => asc_of_pile h⟩
theorem arr_lit0 : (#[.int .i64 0, .int .i64 0, .int .i64 0, .int .i64 0, .int .i64 0, .int .i64 0, .int .i64 0, .int .i64 0, .int .i64 0, .int .i64 0, .int .i64 0, .int .i64 0, .int .i64 0, .int .i64 0, .int .i64 0, .int .i64 0, .int .i64 0, .int .i64 0, .int .i64 0, .int .i64 0, .int .i64 0, .int .i64 0, .int .i64 0, .int .i64 0, .int .i64 0, .int .i64 0, .int .i64 0] : Array Value) = arrN fun _ => 0 := rfl


end Go.Proofs.YtmkdbahdhobdjaaDoor
