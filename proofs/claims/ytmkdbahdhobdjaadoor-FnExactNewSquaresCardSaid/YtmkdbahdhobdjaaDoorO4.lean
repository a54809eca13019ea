/-
  The program's sorting, adding and taking of tiles.
-/
import Derived.Test.YtmkdbahdhobdjaaDoorV1
import Derived.Test.YtmkdbahdhobdjaaDoorO3
namespace Go.Proofs.YtmkdbahdhobdjaaDoor
open Go.RowKit

section
variable {P : Program} {ops : Array Oper} {Q : Exit → Act → World → Prop} {a : Act} {w : World} {rest : List Oper} {o : Oper}
theorem store_lastN (hgd : o.guard = none) (x y : Operand) (ho : o.op = .store 117 x y) (W : World) (f : Nat → Nat) (cs0 : Array Value)
    (hw : w = W.alloc (.cells cs0 117)) (hx : a.eval x = .pointer (some ⟨W.heap.size, 0, none⟩)) (hy : a.eval y = .agg (arrN f)) (hs : cs0.size = 27)
    (h : wpList Tryd.prog ops Q rest (a.put o.dst undef) (W.alloc (.cells (arrN f) 117))) : wpList Tryd.prog ops Q (o :: rest) a w :=
  store_last hgd x y ho W (fun k => (f k : Int)) cs0 hw hx hy hs h
theorem load_arrN (hgd : o.guard = none) (x : Operand) (ho : o.op = .load 117 x) (g : Nat) (hx : a.eval x = .pointer (some ⟨g, 0, none⟩)) (f : Nat → Nat) (hb : Blk w g 117 (arrN f))
    (h : wpList Tryd.prog ops Q rest (a.put o.dst (.agg (arrN f))) w) : wpList Tryd.prog ops Q (o :: rest) a w := load_arr hgd x ho g hx (fun k => (f k : Int)) hb h
end

/-- X is the pile of so many tiles of each kind. (A structure, so that the walk does not look into it.) -/
structure PileIs (F : Nat → Nat) (X : List UInt8) : Prop where
  out : pileN F 27 = X
theorem pileOf_is {F : Nat → Nat} {X : List UInt8} (h : PileIs F X) (w : World) (hf : ∀ k, k < 27 → F k ≤ 1000) :
    Calls Tryd.prog 93 #[.agg (arrN F)] w fun e w' => e = .returned (.string (txt X)) ∧ Below w.heap.size w w' := by
  obtain ⟨rfl⟩ := h
  exact pileOf_any F w hf

/-! ### Sorting -/
def sortOut (l : List UInt8) : List UInt8 × Int := if allTiles l = true then (if l.length ≤ 120 then (sortL l, 0) else ([], 5)) else ([], 7)
theorem sortOut_no {l : List UInt8} (h : allTiles l = false) : sortOut l = ([], 7) := by
  unfold sortOut
  rw [if_neg (by rw [h]; exact fun e => by cases e)]
theorem sortOut_long {l : List UInt8} (h : allTiles l = true) (h2 : 120 < l.length) : sortOut l = ([], 5) := by
  unfold sortOut
  rw [if_pos h, if_neg (by omega)]
theorem sortOut_yes {l : List UInt8} (h : allTiles l = true) (h2 : l.length ≤ 120) : sortOut l = (sortL l, 0) := by
  unfold sortOut
  rw [if_pos h, if_pos h2]

set_option maxHeartbeats 1000000 in
theorem implSortTiles_any (s : ByteArray) (w : World) (hs : s.size ≤ 1048576) :
    Calls Tryd.prog 49 #[.string s] w fun e w' => e = .returned (ret2 (sortOut s.data.toList)) ∧ Below w.heap.size w w' := by
  have hl := len_list s
  cases ht : allTiles s.data.toList
  · have HT := hid ht
    have HZ := hid (cntZ_no ht)
    have HR := hid (sortOut_no ht)
    clear ht hl
    go_enter Tryd.func49, Tryd.ntmps49
    go_wp2_with fail
    refine (countTiles_any s _ hs).mono ?_
    rw [HT.out, HZ.out]
    rintro e w1 ⟨rfl, hb1⟩
    go_wp2_with (refine store_lastN rfl _ _ rfl _ (fun _ => 0) _ rfl (by rfl) (by rfl) rfl ?_)
    go_ret2
    exact ⟨ret2_nil HR.out, hb1.alloc hb1.size _⟩
  · have HT := hid ht
    have HZ := hid (cntZ_yes ht)
    by_cases h120 : s.size ≤ 120
    · have hg : ¬ (120 : Int) < (s.size : Int) := by omega
      have HR := hid (sortOut_yes ht (by omega))
      have HC := hid (cntB s.data.toList (by omega))
      obtain ⟨X, hX⟩ : ∃ X, sortL s.data.toList = X := ⟨_, rfl⟩
      have HS := PileIs.mk (show pileN (cnt s.data.toList) 27 = X from hX)
      rw [hX] at HR
      obtain ⟨F, hF⟩ : ∃ F, cnt s.data.toList = F := ⟨_, rfl⟩
      rw [hF] at HZ HC HS
      clear ht hl hF hX
      go_enter Tryd.func49, Tryd.ntmps49
      go_wp2_with fail
      refine (countTiles_any s _ hs).mono ?_
      rw [HT.out, HZ.out]
      rintro e w1 ⟨rfl, hb1⟩
      have hm := hid (Blk.made w1 117 (arrN F))
      go_wp2_with (first
        | (refine store_lastN rfl _ _ rfl _ F _ rfl (by rfl) (by rfl) rfl ?_)
        | (refine load_arrN rfl _ rfl w1.heap.size (by rfl) F hm.out ?_)
        | (go_at_call 93; refine (pileOf_is HS _ HC.out).mono ?_; rintro e w2 ⟨rfl, hb2⟩))
      go_ret2
      exact ⟨ret2_is HR.out, (hb1.alloc hb1.size _).trans (hb2.mono (by have := hb1.size; simp; omega))⟩
    · have hg : (120 : Int) < (s.size : Int) := by omega
      have HR := hid (sortOut_long ht (by omega))
      obtain ⟨F, hF⟩ : ∃ F, cnt s.data.toList = F := ⟨_, rfl⟩
      rw [hF] at HZ
      clear ht hl hF h120
      go_enter Tryd.func49, Tryd.ntmps49
      go_wp2_with fail
      refine (countTiles_any s _ hs).mono ?_
      rw [HT.out, HZ.out]
      rintro e w1 ⟨rfl, hb1⟩
      go_wp2_with (refine store_lastN rfl _ _ rfl _ F _ rfl (by rfl) (by rfl) rfl ?_)
      go_ret2
      exact ⟨ret2_nil HR.out, hb1.alloc hb1.size _⟩

/-! ### Adding -/
def addOut (a b : List UInt8) : List UInt8 × Int := if pileB a = true ∧ pileB b = true then (if a.length + b.length ≤ 120 then (sortL (a ++ b), 0) else ([], 5)) else ([], 1)
theorem addOut_no {a b : List UInt8} (h : pileB a = false ∨ pileB b = false) : addOut a b = ([], 1) := by
  unfold addOut
  rw [if_neg]
  rintro ⟨h1, h2⟩
  rcases h with h | h
  · rw [h1] at h; cases h
  · rw [h2] at h; cases h
theorem addOut_yes {a b : List UInt8} (h1 : pileB a = true) (h2 : pileB b = true) (h : a.length + b.length ≤ 120) : addOut a b = (sortL (a ++ b), 0) := by
  unfold addOut
  rw [if_pos ⟨h1, h2⟩, if_pos h]
theorem addOut_long {a b : List UInt8} (h1 : pileB a = true) (h2 : pileB b = true) (h : 120 < a.length + b.length) : addOut a b = ([], 5) := by
  unfold addOut
  rw [if_pos ⟨h1, h2⟩, if_neg (by omega)]
theorem addOut_sort {a b : List UInt8} (h1 : pileB a = true) (h2 : pileB b = true) : addOut a b = sortOut (a ++ b) := by
  have ht : allTiles (a ++ b) = true := by rw [tiles_cat, (pileB_iff.1 h1).1, (pileB_iff.1 h2).1]; rfl
  by_cases h : a.length + b.length ≤ 120
  · rw [addOut_yes h1 h2 h, sortOut_yes ht (by simpa using h)]
  · rw [addOut_long h1 h2 (by omega), sortOut_long ht (by simp; omega)]

theorem sort_cat (a b : ByteArray) (w : World) (hs : a.size + b.size ≤ 1048576) :
    Calls Tryd.prog 49 #[.string (a ++ b)] w fun e w' => e = .returned (ret2 (sortOut (a.data.toList ++ b.data.toList))) ∧ Below w.heap.size w w' := by
  have := implSortTiles_any (a ++ b) w (by rw [txt_cat, txt_size]; simpa using hs)
  rw [show (a ++ b).data.toList = a.data.toList ++ b.data.toList by simp] at this
  exact this
end Go.Proofs.YtmkdbahdhobdjaaDoor
