/-
  All ways to place a word with tiles: the model's; a string more behind a row of the call's own, with what else it leaves alone.
-/
import Derived.Test.YtilagppmljpclaaJ1
import Derived.Test.YtilagppmljpclaaL0
import Derived.Test.YtilagppmljpclaaN4
import Derived.Test.YtilagppmljpclaaQ1
import Derived.Deep.AppendLies
import Derived.Deep.RegionHeld3
import Derived.Deep.RegionLaw
namespace Go.Proofs.Ytilagppmljpclaa
open Go.RowKit

theorem info_strJ : (Try.prog.info? 9).map (fun i => (i.zero, i.size, i.bytes)) = some (some (.string ByteArray.empty), 1, 16) := by kernel_rfl
theorem below_al {a w : World} (h : Below a.heap.size a w) (o : Obj) : Below a.heap.size a (w.alloc o) := h.alloc h.size o
theorem apart_grown {W w' : World} {v : Value} {o : Obj} (hg : (W.alloc o).grownBy w' v.ownBlock) : Apart (fun b => v.ownBlock = some b) W w' :=
  ((Apart.refl _ W).alloc o).grown hg (fun _ hk _ => hk)
/-- One string more on a row of the call's own, as a step of a region that draws. -/
theorem step_appendJ {ops : Array Oper} {o : Oper} {a : Act} {K : Act → World → Prop} {Q : Exit → Act → World → Prop} {E : Prop} {B : Nat} {W : World} (hgd : o.guard = none) (s x : Operand)
    (ho : o.op = .call { callee := .builtin .append, args := #[s, x], argTypes := #[25, 25] })
    (v : Value) (ss : List ByteArray) (c : ByteArray) (hs : a.eval s = v) (hx : a.eval x = .slice (some ⟨W.heap.size, 0, none⟩) 1 1)
    (hown : OwnS B W v ss) (hlen : ss.length ≤ 1000000) (hB : B ≤ W.heap.size)
    (h : ∀ g cap w', OwnS B w' (.slice (some ⟨g, 0, none⟩) (ss.length + 1) cap) (ss ++ [c]) → Apart (fun b => v.ownBlock = some b) W w' → (v.ownBlock = some g ∨ W.heap.size ≤ g) → K (a.put o.dst (.slice (some ⟨g, 0, none⟩) (ss.length + 1) cap)) w') :
    if Region.wanted o (yielded ops a.tmps) = true then Oper.wp Try.prog o a (W.alloc (.cells #[.string c] 9)) K Q else E := by
  obtain ⟨i0, hi, hz0, hz1, hz2⟩ := info_parts info_strJ
  refine step_append_lies _ hgd s x 25 ho B 9 i0 (.string ByteArray.empty) 1 16 Try.underlying25 hi hz0 hz1 hz2 rfl (by decide) v ss.length (ss.map Value.string) hs (World.ownsRow.alloc hown _) ⟨W.heap.size, 0, none⟩ 1 1 [.string c] hx rfl ?_ ?_ (by decide) ?_ ?_ ?_ _ rfl ?_
  · exact cell_one_new _ _ _
  · intro u hu; simp at hu; subst hu; rfl
  · simp [maxLen]; omega
  · omega
  · simp; omega
  · intro g cap w' ho' hg hl _
    refine h g cap w' ?_ (apart_grown hg) (hl.imp id fun e => by rw [e]; simp)
    unfold OwnS
    rw [List.map_append, List.length_append]
    exact ho'
theorem step_appendD {ops : Array Oper} {o : Oper} {a : Act} {K : Act → World → Prop} {Q : Exit → Act → World → Prop} {E : Prop} {B H : Nat} {W0 W : World} (hgd : o.guard = none) (s x : Operand)
    (ho : o.op = .call { callee := .builtin .append, args := #[s, x], argTypes := #[25, 25] })
    (v : Value) (ss : List ByteArray) (c : ByteArray) (hs : a.eval s = v) (hx : a.eval x = .slice (some ⟨H, 0, none⟩) 1 1) (hH : W.heap.size = H)
    (hown : OwnS B W0 v ss) (hlen : ss.length ≤ 1000000) (hB : B ≤ W0.heap.size) (hb : Below W0.heap.size W0 W)
    (h : ∀ g cap w', OwnS B w' (.slice (some ⟨g, 0, none⟩) (ss.length + 1) cap) (ss ++ [c]) → Apart (fun b => v.ownBlock = some b) W0 w' → (v.ownBlock = some g ∨ W0.heap.size ≤ g) → K (a.put o.dst (.slice (some ⟨g, 0, none⟩) (ss.length + 1) cap)) w') :
    if Region.wanted o (yielded ops a.tmps) = true then Oper.wp Try.prog o a (W.alloc (.cells #[.string c] 9)).drew K Q else E := by
  obtain ⟨i0, hi, hz0, hz1, hz2⟩ := info_parts info_strJ
  subst hH
  have ho1 : OwnS B (W.alloc (.cells #[.string c] 9)).drew v ss := OwnS.kept hown (below_al hb _).drew
  refine step_append_lies _ hgd s x 25 ho B 9 i0 (.string ByteArray.empty) 1 16 Try.underlying25 hi hz0 hz1 hz2 rfl (by decide) v ss.length (ss.map Value.string) hs ho1 ⟨W.heap.size, 0, none⟩ 1 1 [.string c] hx rfl ?_ ?_ (by decide) ?_ ?_ ?_ _ rfl ?_
  · exact cell_one_new _ _ _
  · intro u hu; simp at hu; subst hu; rfl
  · simp [maxLen]; omega
  · omega
  · have := hb.size
    simp [World.drew]
    omega
  · intro g cap w' ho' hg hl _
    refine h g cap w' ?_ (((Apart.of_below (S := fun b => v.ownBlock = some b) (below_al hb _).drew)).grown hg (fun _ hk _ => hk)) (hl.imp id fun e => by have := hb.size; rw [e]; simp [World.drew]; omega)
    unfold OwnS
    rw [List.map_append, List.length_append]
    exact ho'
theorem wpList_appendJ {ops : Array Oper} {rest : List Oper} {o : Oper} {a : Act} {Q : Exit → Act → World → Prop} {B : Nat} {W : World} (hgd : o.guard = none) (s x : Operand)
    (ho : o.op = .call { callee := .builtin .append, args := #[s, x], argTypes := #[25, 25] })
    (v : Value) (ss : List ByteArray) (c : ByteArray) (hs : a.eval s = v) (hx : a.eval x = .slice (some ⟨W.heap.size, 0, none⟩) 1 1)
    (hown : OwnS B W v ss) (hlen : ss.length ≤ 1000000) (hB : B ≤ W.heap.size)
    (h : ∀ g cap w', OwnS B w' (.slice (some ⟨g, 0, none⟩) (ss.length + 1) cap) (ss ++ [c]) → Apart (fun b => v.ownBlock = some b) W w' → (v.ownBlock = some g ∨ W.heap.size ≤ g) → wpList Try.prog ops Q rest (a.put o.dst (.slice (some ⟨g, 0, none⟩) (ss.length + 1) cap)) w') :
    wpList Try.prog ops Q (o :: rest) a (W.alloc (.cells #[.string c] 9)) := by
  obtain ⟨i0, hi, hz0, hz1, hz2⟩ := info_parts info_strJ
  refine wpList_append_lies _ hgd s x 25 ho B 9 i0 (.string ByteArray.empty) 1 16 Try.underlying25 hi hz0 hz1 hz2 rfl (by decide) v ss.length (ss.map Value.string) hs (World.ownsRow.alloc hown _) ⟨W.heap.size, 0, none⟩ 1 1 [.string c] hx rfl ?_ ?_ (by decide) ?_ ?_ ?_ _ rfl ?_
  · exact cell_one_new _ _ _
  · intro u hu; simp at hu; subst hu; rfl
  · simp [maxLen]; omega
  · omega
  · simp; omega
  · intro g cap w' ho' hg hl _
    refine h g cap w' ?_ (apart_grown hg) (hl.imp id fun e => by rw [e]; simp)
    unfold OwnS
    rw [List.map_append, List.length_append]
    exact ho'
theorem OwnS.apart {B : Nat} {w w' : World} {v : Value} {ss : List ByteArray} {S : Nat → Prop} (h : OwnS B w v ss) (hk : Apart S w w') (hv : ∀ k, v.ownBlock = some k → ¬ S k) : OwnS B w' v ss := own_apart h hk hv

theorem own_strAt {B g n cap : Nat} {w : World} {ss : List ByteArray} (h : OwnS B w (.slice (some ⟨g, 0, none⟩) n cap) ss) {k : Nat} (hk : k < ss.length) : w.cell? ⟨g, k, none⟩ = some (.string (strAt ss k)) := by
  obtain ⟨a, cap', hv, -⟩ := own_form h
  injection hv with _ hn _
  subst hn
  rw [World.ownsRow.cellAt (size := 1) h k (by omega), strAt_map ss k hk]
/-- The text of one byte, out of a new row. -/
theorem conv_one (W : World) (c : UInt8) : (convert 22 9 (.slice (some ⟨W.heap.size, 0, none⟩) 1 1)).run Try.prog (W.alloc (.cells #[.int .u8 (c.toNat : Int)] 5)) = .ok (.string (txt [c])) (W.alloc (.cells #[.int .u8 (c.toNat : Int)] 5)) := by
  have ho : OwnB W.heap.size (W.alloc (.cells #[.int .u8 (c.toNat : Int)] 5)) (.slice (some ⟨W.heap.size, 0, none⟩) 1 1) [c] :=
    World.ownsRow_lit (size := 1) W #[.int .u8 (c.toNat : Int)] 1 (Nat.le_refl _) (by unfold maxLen; omega) rfl
  exact conv_rowQ ho
theorem conv_oneD (W : World) (c : UInt8) : (convert 22 9 (.slice (some ⟨W.heap.size, 0, none⟩) 1 1)).run Try.prog (W.alloc (.cells #[.int .u8 (c.toNat : Int)] 5)).drew = .ok (.string (txt [c])) (W.alloc (.cells #[.int .u8 (c.toNat : Int)] 5)).drew := by
  have ho : OwnB W.heap.size (W.alloc (.cells #[.int .u8 (c.toNat : Int)] 5)).drew (.slice (some ⟨W.heap.size, 0, none⟩) 1 1) [c] :=
    World.ownsRow_lit (size := 1) W #[.int .u8 (c.toNat : Int)] 1 (Nat.le_refl _) (by unfold maxLen; omega) rfl
  exact conv_rowQ ho
theorem cap_nat {c : UInt8} (h : smallB (c.toNat : Int) = true) : ((capU c).toNat : Int) = (c.toNat : Int) - 97 + 65 := by
  rw [smallB_iff] at h
  unfold capU
  rw [UInt8.toNat_ofNat_of_lt' (by have : c.toNat - 32 < 256 := by omega
                                   simpa [UInt8.size] using this)]
  omega
theorem txt_cons (c : UInt8) (l : List UInt8) : txt [c] ++ txt l = txt (c :: l) := by rw [txt_cat, txt_list, txt_list]; rfl
theorem ext_rest {s : ByteArray} {c : UInt8} {l : List UInt8} (h : s.data.toList = c :: l) {n : Nat} (hn : s.size ≤ n) : s.extract 1 n = txt l := by
  apply Go.WideShapes.bytes_inj
  rw [txt_list, ByteArray.data_extract, Array.toList_extract, h]
  have : s.size = l.length + 1 := by rw [← len_list, h]; rfl
  simp only [List.extract_eq_take_drop, List.drop_succ_cons, List.drop_zero]
  exact List.take_of_length_le (by omega)
theorem ext_head {s : ByteArray} {c : UInt8} {l : List UInt8} (h : s.data.toList = c :: l) : s.extract 0 1 = txt [c] := by
  apply Go.WideShapes.bytes_inj
  rw [txt_list, ByteArray.data_extract, Array.toList_extract, h]
  simp
theorem at_head {s : ByteArray} {c : UInt8} {l : List UInt8} (h : s.data.toList = c :: l) (h0 : 0 < s.size) : s[0]'h0 = c := by
  have e : s[0]'h0 = s.data.toList[0]'(by rw [len_list]; exact h0) := rfl
  rw [e]
  simp [h]

/-- The texts of some lists of letters, each with a letter ahead. -/
def headT (c : UInt8) (R : List (List UInt8)) : List ByteArray := R.map fun x => txt (c :: x)
theorem headT_len (c : UInt8) (R : List (List UInt8)) : (headT c R).length = R.length := by simp [headT]
theorem headT_take {c : UInt8} {R : List (List UInt8)} {k : Nat} (h : k < R.length) : headT c (R.take (k + 1)) = headT c (R.take k) ++ [txt [c] ++ strAt (R.map txt) k] := by
  unfold headT
  rw [List.take_succ_eq_append_getElem h, List.map_append]
  congr 1
  rw [List.map_singleton, txt_cons_at h]
where
  txt_cons_at {c : UInt8} {R : List (List UInt8)} {k : Nat} (h : k < R.length) : txt [c] ++ strAt (R.map txt) k = txt (c :: R[k]) := by
    rw [strAt_eq' (by simpa using h), List.getElem_map, txt_cons]
  strAt_eq' {ss : List ByteArray} {j : Nat} (h : j < ss.length) : strAt ss j = ss[j] := by
    unfold strAt; simp [List.getD_eq_getElem?_getD, h]
theorem headT_all (c : UInt8) (R : List (List UInt8)) : headT c (R.take R.length) = headT c R := by rw [List.take_length]
theorem headT_bytes {R : List (List UInt8)} {n : Nat} (h : ∀ x ∈ R, x.length = n) {k : Nat} (hk : k < R.length) : (strAt (R.map txt) k).size = n := by
  rw [headT_take.strAt_eq' (by simpa using hk), List.getElem_map, txt_size]
  exact h _ (List.getElem_mem _)
theorem ways_cons (f : Nat → Nat) (c : UInt8) (l : List UInt8) : (waysL f (c :: l)).map txt = (if f 0 = 0 then [] else headT (capU c) (waysL (decK f 0) l)) ++ (if f (kindN c) = 0 then [] else headT c (waysL (decK f (kindN c)) l)) := by
  rw [waysL, List.map_append]
  congr 1
  all_goals
    split
    · rfl
    · rw [List.map_map]; rfl
theorem take_dec {c : UInt8} {A : List UInt8} (hc : tileB (c.toNat : Int) = true) (h : c ∈ A) (j : Nat) (hj : j < 27) : cnt (takeL A [c]).1 j = decK (cnt A) (kindN c) j := by
  have := take1_cnt h j
  unfold decK
  by_cases e : j = kindN c
  · rw [if_pos e]
    rw [if_pos (by rw [e]; exact tileOf_kind hc)] at this
    omega
  · rw [if_neg e]
    rw [if_neg (fun x => e (by rw [← x, kind_tileOf hj]))] at this
    omega
end Go.Proofs.Ytilagppmljpclaa
