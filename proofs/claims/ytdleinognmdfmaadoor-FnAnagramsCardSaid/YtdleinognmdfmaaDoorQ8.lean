/-
  Whether a text of at most 120 tiles is a pile: the program's, where it is one; and the whole.
-/
import Derived.Test.YtdleinognmdfmaaDoorQ7
namespace Go.Proofs.YtdleinognmdfmaaDoor
open Go.RowKit

set_option maxRecDepth 100000 in
set_option maxHeartbeats 1000000 in
theorem countPile_same (s : ByteArray) (w : World) (hs : s.size ≤ 1048576) (ht : allTiles s.data.toList = true) (h120 : s.size ≤ 120) (_hp : (pileN (cnt s.data.toList) 27 == s.data.toList) = true) :
    Calls Tryd.prog 40 #[.string s] w fun e w' => e = .returned (.tuple #[.agg (arrN (cntP s.data.toList)), .bool (pileB s.data.toList)]) ∧ Below w.heap.size w w' := by
  have hl : s.data.toList.length = s.size := by simp
  have HT := hid ht
  have HC := hid (cntZ_yes ht)
  have hg1 : ¬ (120 : Int) < (s.size : Int) := by omega
  have HCN := hid (fun k (_ : k < 27) => by have := cnt_le s.data.toList k; omega : ∀ k, k < 27 → cnt s.data.toList k ≤ 1000)
  have HB := hid ((pileB_eq ht (by omega)).trans _hp)
  have hS : (⟨(pileN (cnt s.data.toList) 27).toArray⟩ : ByteArray) = s := by
    rw [beq_iff_eq.1 _hp]
  have hss : (s.toList == s.toList) = true := beq_self_eq_true _
  obtain ⟨F, hF⟩ : ∃ F, cnt s.data.toList = F := ⟨_, rfl⟩
  rw [hF] at HC HCN hS
  have HS := hid hS
  have HF := hid hF
  clear ht hl hF _hp hS
  go_enter Tryd.func40, Tryd.ntmps40
  go_wp2_with fail
  refine (countTiles_any s _ hs).mono ?_
  rw [HT.out, HC.out]
  rintro e w1 ⟨rfl, hb1⟩
  have hz := hb1.size
  rw [World.size_alloc] at hz
  have hr := hid ((Blk.made w 61 (arrN fun _ => 0)).kept hb1 (by simp))
  have hm := hid (Blk.made w1 61 (arrN fun _ => 0))
  have hm2 := hid (hm.out.row (arrN F))
  have hr2 := hid ((hr.out.alloc (.cells (arrN fun _ => 0) 61)).row_other (show w.heap.size ≠ w1.heap.size by omega) (arrN F))
  have hB2 := hid (below_row (((Below.refl w.heap.size w).alloc (Nat.le_refl _) (.cells (arrN fun _ => 0) 61)).trans (hb1.mono (by simp)) |>.alloc (by omega) (.cells (arrN fun _ => 0) 61)) (show w.heap.size ≤ w1.heap.size by omega) (arrN F))
  go_wp2_with (first
    | (refine wpList_store_row rfl 61 _ _ rfl w1.heap.size (arrN F) (by rfl) (by rfl) 61 _ hm.out (arr_info _) (by simp only [arrN, arrI_size]) (arrI_one _) ?_)
    | (refine load_wanted 7 false 18 rfl (by rfl) (by simp; omega) 61 _ rfl w1.heap.size (by rfl) 61 _ _ hm2.out Tryd.underlying61 rfl (arr_info _) ?_)
    | (go_at_call 52; refine (pileOf_any F _ HCN.out).mono ?_; rw [HS.out]; rintro e w2 ⟨rfl, hb2⟩; have hr3 := hid (hr2.out.kept hb2 (by simp; omega)); have hm3 := hid (hm2.out.kept hb2 (by simp)))
    | (refine wpList_load_row rfl 61 _ rfl w1.heap.size (by rfl) 61 _ (0, 0) _ hm3.out Tryd.underlying61 rfl (arr_info _) ?_)
    | (refine wpList_store_row rfl 61 _ _ rfl w.heap.size (arrN F) (by rfl) (by rfl) 61 _ hr3.out (arr_info _) (by simp only [arrN, arrI_size]) (arrI_one _) ?_))
  refine ret_arr rfl (by rfl) (by rfl) (hr3.out.row _) rfl ⟨?_, below_row (hB2.out.trans (hb2.mono (by simp; omega))) (Nat.le_refl _) _⟩
  rw [HB.out, cntP_yes HB.out, HF.out]
  rfl

theorem countPile_any (s : ByteArray) (w : World) (hs : s.size ≤ 1048576) :
    Calls Tryd.prog 40 #[.string s] w fun e w' => e = .returned (.tuple #[.agg (arrN (cntP s.data.toList)), .bool (pileB s.data.toList)]) ∧ Below w.heap.size w w' := by
  cases ht : allTiles s.data.toList
  · exact countPile_bad s w hs ht
  · by_cases h120 : s.size ≤ 120
    · cases hp : (pileN (cnt s.data.toList) 27 == s.data.toList)
      · exact countPile_other s w hs ht h120 hp
      · exact countPile_same s w hs ht h120 hp
    · exact countPile_long s w hs ht (by omega)

end Go.Proofs.YtdleinognmdfmaaDoor
