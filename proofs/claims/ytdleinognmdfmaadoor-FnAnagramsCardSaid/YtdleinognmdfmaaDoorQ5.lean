/-
  Whether a text is a pile, and its counts: the program's.
-/
import Derived.Test.YtdleinognmdfmaaDoorQ4
namespace Go.Proofs.YtdleinognmdfmaaDoor
open Go.RowKit

/-- The counts of a pile; all 0 for another text. -/
def cntP (l : List UInt8) (k : Nat) : Nat := if pileB l = true then cnt l k else 0
theorem cntP_yes {l : List UInt8} (h : pileB l = true) : cntP l = cnt l := by
  funext k
  unfold cntP
  rw [if_pos h]
theorem cntP_no {l : List UInt8} (h : pileB l = false) : cntP l = fun _ => 0 := by
  funext k
  unfold cntP
  rw [if_neg (by rw [h]; exact fun e => by cases e)]
theorem pileB_no1 {l : List UInt8} (h : allTiles l = false) : pileB l = false := by simp [pileB, h]
theorem pileB_no2 {l : List UInt8} (h : 120 < l.length) : pileB l = false := by
  unfold pileB
  rw [decide_eq_false (p := l.length ≤ 120) (by omega), Bool.and_false]
theorem pileB_eq {l : List UInt8} (h1 : allTiles l = true) (h2 : l.length ≤ 120) : pileB l = (pileN (cnt l) 27 == l) := by
  unfold pileB
  rw [h1, decide_eq_true h2, Bool.true_and, Bool.and_true, Bool.eq_iff_iff]
  simp only [decide_eq_true_eq, beq_iff_eq]
  exact ⟨fun h => pile_of_asc h1 h, fun h => asc_of_pile h⟩
theorem arr_lit0 : (#[.int .i64 0, .int .i64 0, .int .i64 0, .int .i64 0, .int .i64 0, .int .i64 0, .int .i64 0, .int .i64 0, .int .i64 0, .int .i64 0, .int .i64 0, .int .i64 0, .int .i64 0, .int .i64 0, .int .i64 0, .int .i64 0, .int .i64 0, .int .i64 0, .int .i64 0, .int .i64 0, .int .i64 0, .int .i64 0, .int .i64 0, .int .i64 0, .int .i64 0, .int .i64 0, .int .i64 0] : Array Value) = arrN fun _ => 0 := rfl

set_option maxRecDepth 100000 in
set_option maxHeartbeats 1000000 in
theorem countPile_bad (s : ByteArray) (w : World) (hs : s.size ≤ 1048576) (ht : allTiles s.data.toList = false) :
    Calls Tryd.prog 40 #[.string s] w fun e w' => e = .returned (.tuple #[.agg (arrN (cntP s.data.toList)), .bool (pileB s.data.toList)]) ∧ Below w.heap.size w w' := by
  have HT := hid ht
  have HC := hid (cntZ_no ht)
  have HB := hid (pileB_no1 ht)
  clear ht
  go_enter Tryd.func40, Tryd.ntmps40
  go_wp2_with fail
  refine (countTiles_any s _ hs).mono ?_
  rw [HT.out, HC.out]
  rintro e w1 ⟨rfl, hb1⟩
  have hz := hb1.size
  rw [World.size_alloc] at hz
  have hr := hid ((Blk.made w 61 (arrN fun _ => 0)).kept hb1 (by simp))
  have hm := hid (Blk.made w1 61 (arrN fun _ => 0))
  go_wp2_with (first
    | (refine wpList_store_row rfl 61 _ _ rfl w1.heap.size (arrN fun _ => 0) (by rfl) (by rfl) 61 _ hm.out (arr_info _) (by simp only [arrN, arrI_size]) (arrI_one _) ?_)
    | (refine wpList_store_row rfl 61 _ _ rfl w.heap.size (arrN fun _ => 0) (by rfl) (by rfl) 61 _ ((hr.out.alloc _).row_other (by omega) _) (arr_info _) (by simp only [arrN, arrI_size]) (arrI_one _) ?_))
  refine ret_arr rfl (by rfl) (by rfl) (((hr.out.alloc _).row_other (by omega) _).row _) rfl ⟨?_, below_row (below_row (((Below.refl w.heap.size w).alloc (Nat.le_refl _) _).trans (hb1.mono (by simp)) |>.alloc (by omega) _) (by omega) _) (Nat.le_refl _) _⟩
  rw [HB.out, cntP_no HB.out]
  rfl

end Go.Proofs.YtdleinognmdfmaaDoor
