/-
  Whether a text of more than 120 tiles is a pile: the program's.
-/
import Derived.Test.YtdleinognmdfmaaDoorQ5
import Derived.Deep.WholeRow
namespace Go.Proofs.YtdleinognmdfmaaDoor
open Go.RowKit

section
variable {P : Program} {ops : Array Oper} {Q : Exit → Act → World → Prop} {a : Act} {w : World} {rest : List Oper} {o : Oper}
/-- An array into the variable that was made last. -/
theorem store_last (hgd : o.guard = none) (x y : Operand) (ho : o.op = .store 61 x y) (W : World) (f : Nat → Int) (cs0 : Array Value)
    (hw : w = W.alloc (.cells cs0 61)) (hx : a.eval x = .pointer (some ⟨W.heap.size, 0, none⟩)) (hy : a.eval y = .agg (arrI f)) (hs : cs0.size = 27)
    (h : wpList Tryd.prog ops Q rest (a.put o.dst undef) (W.alloc (.cells (arrI f) 61))) : wpList Tryd.prog ops Q (o :: rest) a w := by
  subst hw
  refine wpList_store_row hgd 61 x y ho W.heap.size (arrI f) hx hy 61 cs0 (heap_alloc_new W _) (arr_info f) (by rw [hs, arrI_size]) (arrI_one f) ?_
  rw [World.setRow_alloc_new]
  exact h
/-- An array out of a variable that is known whole. -/
theorem load_arr (hgd : o.guard = none) (x : Operand) (ho : o.op = .load 61 x) (g : Nat) (hx : a.eval x = .pointer (some ⟨g, 0, none⟩)) (f : Nat → Int) (hb : Blk w g 61 (arrI f))
    (h : wpList Tryd.prog ops Q rest (a.put o.dst (.agg (arrI f))) w) : wpList Tryd.prog ops Q (o :: rest) a w :=
  wpList_load_row hgd 61 x ho g hx 61 (arrI f) (0, 0) _ hb Tryd.underlying61 rfl (arr_info f) h
/-- A whole array out of a variable, where the operation is guarded and wanted. -/
theorem load_wanted (j : Nat) (b : Bool) (d0 : Tmp) (hgd : o.guard = some (j, b)) (hod : (ops[j]?).bind (·.dst) = some d0) (htv : a.tmps[d0]? = some (.bool b)) (ty : TypeId) (x : Operand) (ho : o.op = .load ty x)
    (g : Nat) (hx : a.eval x = .pointer (some ⟨g, 0, none⟩)) (t : TypeId) (cs : Array Value) (d : TypeDesc) (hg : Blk w g t cs)
    (hu : P.underlying ty = some d) (hd : (match d with | .struct _ | .array _ _ => true | _ => false) = true) (hi : (P.info? ty).map (·.size) = some cs.size)
    (h : wpList P ops Q rest (a.put o.dst (.agg cs)) w) : wpList P ops Q (o :: rest) a w :=
  wpList_step fun K hK => by
    have hw : Region.wanted o (yielded ops a.tmps) = true := by
      simp [Region.wanted, hgd, yielded, hod, htv]
    simp only [hw, if_true]
    exact wp_load_row ty x ho g hx t cs (0, 0) d hg hu hd hi (hK _ _ h)
end

set_option maxRecDepth 100000 in
set_option maxHeartbeats 1000000 in
theorem countPile_long (s : ByteArray) (w : World) (hs : s.size ≤ 1048576) (ht : allTiles s.data.toList = true) (hbig : 120 < s.size) :
    Calls Tryd.prog 40 #[.string s] w fun e w' => e = .returned (.tuple #[.agg (arrN (cntP s.data.toList)), .bool (pileB s.data.toList)]) ∧ Below w.heap.size w w' := by
  have hl : s.data.toList.length = s.size := by simp
  have HT := hid ht
  have HC := hid (cntZ_yes ht)
  have HB := hid (pileB_no2 (l := s.data.toList) (by omega))
  have hg1 : (120 : Int) < (s.size : Int) := by omega
  have hg2 : decide ((120 : Int) < (s.size : Int)) = true := decide_eq_true hg1
  obtain ⟨F, hF⟩ : ∃ F, cnt s.data.toList = F := ⟨_, rfl⟩
  rw [hF] at HC
  clear ht hbig hl hF
  go_enter Tryd.func40, Tryd.ntmps40
  go_wp2_with fail
  refine (countTiles_any s _ hs).mono ?_
  rw [HT.out, HC.out]
  rintro e w1 ⟨rfl, hb1⟩
  have hz := hb1.size
  rw [World.size_alloc] at hz
  have hr := hid ((Blk.made w 61 (arrN fun _ => 0)).kept hb1 (by simp))
  have hm := hid (Blk.made w1 61 (arrN fun _ => 0))
  go_wp2_with (first
    | (refine wpList_store_row rfl 61 _ _ rfl w1.heap.size (arrN F) (by rfl) (by rfl) 61 _ hm.out (arr_info _) (by simp only [arrN, arrI_size]) (arrI_one _) ?_)
    | (refine wpList_store_row rfl 61 _ _ rfl w.heap.size (arrN fun _ => 0) (by rfl) (by rfl) 61 _ ((hr.out.alloc _).row_other (by omega) _) (arr_info _) (by simp only [arrN, arrI_size]) (arrI_one _) ?_))
  refine ret_arr rfl (by rfl) (by rfl) (((hr.out.alloc _).row_other (by omega) _).row _) rfl ⟨?_, below_row (below_row (((Below.refl w.heap.size w).alloc (Nat.le_refl _) _).trans (hb1.mono (by simp)) |>.alloc (by omega) _) (by omega) _) (Nat.le_refl _) _⟩
  rw [HB.out, cntP_no HB.out]
  rfl

end Go.Proofs.YtdleinognmdfmaaDoor
