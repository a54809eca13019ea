/-
  SumOf: the model's and the program's answers.
-/
import Derived.Test.YtokfkofclpajfaaDoorYW
import Derived.Test.YtokfkofclpajfaaDoorYB
import Derived.Test.YtokfkofclpajfaaDoorQ1
import Derived.Test.YtokfkofclpajfaaDoorWH
import Derived.Lib.AppendStr
import Derived.Laws.IdiomStrings
namespace Go.Proofs.YtokfkofclpajfaaDoor
open Go.RowKit Go.ChangeShapes

/-- The sum, one byte on. -/
def sumF (s : Nat) (c : UInt8) : Nat := (31 * s + c.toNat) % 1000000007
def sumL (s : Nat) (l : List UInt8) : Nat := l.foldl sumF s
theorem sumL_snoc (s : Nat) (l : List UInt8) (c : UInt8) : sumL s (l ++ [c]) = sumF (sumL s l) c := by unfold sumL; rw [List.foldl_append]; rfl
theorem sumL_app (s : Nat) (l m : List UInt8) : sumL s (l ++ m) = sumL (sumL s l) m := by unfold sumL; rw [List.foldl_append]
theorem sumF_lt (s : Nat) (c : UInt8) : sumF s c < 1000000007 := Nat.mod_lt _ (by decide)
theorem sumL_lt (s : Nat) (hs : s < 1000000007) (l : List UInt8) : sumL s l < 1000000007 := by
  induction l generalizing s with
  | nil => exact hs
  | cons c t ih => exact ih (sumF s c) (sumF_lt s c)
theorem sum_take {l : List UInt8} {k : Nat} (s : Nat) (hk : k < l.length) : sumL s (l.take (k + 1)) = sumF (sumL s (l.take k)) l[k] := by rw [List.take_succ_eq_append_getElem hk, sumL_snoc]
theorem sum_facts {S : Nat} {c : UInt8} {CI : Int} (hS : S < 1000000007) (hc : (c.toNat : Int) = CI) :
    IntKind.i64.wrap (31 * (S : Int)) = 31 * (S : Int) ∧ IntKind.i64.wrap CI = CI ∧ IntKind.i64.wrap (31 * (S : Int) + CI) = 31 * (S : Int) + CI ∧ Int.tmod (31 * (S : Int) + CI) 1000000007 = (sumF S c : Int) ∧ (31 * (S : Int) + CI) % 1000000007 = (sumF S c : Int) ∧ IntKind.i64.wrap (sumF S c : Int) = (sumF S c : Int) := by
  have h1 := c.toNat_lt
  have h2 := sumF_lt S c
  have h3 : (31 * (S : Int) + CI) % 1000000007 = (sumF S c : Int) := by rw [← hc]; unfold sumF; omega
  refine ⟨IntWalk.i64_in _ (by omega), IntWalk.i64_in _ (by omega), IntWalk.i64_in _ (by omega), ?_, h3, IntWalk.i64_in _ (by omega)⟩
  rw [Int.tmod_eq_emod_of_nonneg (by omega)]
  exact h3

/-- A line for each string. -/
def linesY (us : List ByteArray) : Nat → List UInt8
  | 0 => []
  | k + 1 => linesY us k ++ ((strAt us k).data.toList ++ [10])
theorem linesY_len {us : List ByteArray} (h : ∀ s ∈ us, s.size ≤ 13) : ∀ k, k ≤ us.length → (linesY us k).length ≤ 14 * k
  | 0, _ => by simp [linesY]
  | k + 1, hk => by
    have h1 := linesY_len h k (by omega)
    have h2 : (strAt us k).data.toList.length = (strAt us k).size := by rw [Array.length_toList]; rfl
    have h3 : (strAt us k).size ≤ 13 := h _ (strAt_mem (by omega))
    simp only [linesY, List.length_append, List.length_cons, List.length_nil]
    omega
noncomputable def wordsY (xs : List Nod) : List ByteArray := ((gphD xs).W 13 0).map txt
noncomputable def sumOut (xs : List Nod) : Int × Int := if okDw xs = true then ((sumL 7 (linesY (wordsY xs) (wordsY xs).length) : Nat), 0) else (0, 1)

/-- Another byte at the end of a row of the call's own. -/
theorem append_byteY {ops : Array Oper} {rest : List Oper} {o : Oper} {a : Act} {Q : Exit → Act → World → Prop} {B : Nat} {W : World} (hgd : o.guard = none) (s x : Operand)
    (ho : o.op = .call { callee := .builtin .append, args := #[s, x], argTypes := #[96, 96] })
    (v : Value) (l : List UInt8) (hs : a.eval s = v) (hx : a.eval x = .slice (some ⟨W.heap.size, 0, none⟩) 1 1)
    (hown : OwnB B W v l) (hlen : l.length ≤ 2097152) (hB : B ≤ W.heap.size)
    (h : ∀ v' w', OwnB B w' v' (l ++ [10]) → (∀ w0, Below B w0 W → Below B w0 w') → wpList Tryd.prog ops Q rest (a.put o.dst v') w') :
    wpList Tryd.prog ops Q (o :: rest) a (W.alloc (.cells #[.int .u8 10] 5)) := by
  obtain ⟨i0, hi, hz0, hz1, hz2⟩ := info_parts info8Q
  refine wpList_append_own _ hgd s x 96 ho B 5 i0 (.int .u8 0) 1 1 Tryd.underlying96 hi hz0 hz1 hz2 rfl (by decide) v l.length (Lib.byteCells l) hs (World.ownsRow.alloc hown _) ⟨W.heap.size, 0, none⟩ 1 1 [.int .u8 10] hx rfl ?_ ?_ ?_ ?_ ?_ ?_
  · exact cell_one_new _ _ _
  · intro u hu; simp at hu; subst hu; rfl
  · simp [maxLen]; omega
  · omega
  · simp; omega
  · intro v' w' ho' hg _
    refine h v' w' ?_ fun w0 h0 => (h0.alloc hB _).grown hg (by simp; omega) (own_blockQ hown)
    unfold OwnB
    rw [← byte_cells_snoc l 10, List.length_append]
    exact ho'

set_option maxRecDepth 100000 in
set_option maxHeartbeats 1000000 in
theorem l05TextY {v : Value} {us : List ByteArray} (w : World) (h : Strs w v us) (hs13 : ∀ s ∈ us, s.size ≤ 13) (hfew : us.length ≤ 3000) :
    Calls Tryd.prog 99 #[v] w fun e w' => e = .returned (.string (txt (linesY us us.length))) ∧ Below w.heap.size w w' := by
  have hl := h.len
  obtain ⟨i0, hi, hz0, hz1, hz2⟩ := info_parts info8Q
  obtain ⟨a, cap, rfl, hl1, hm, hc⟩ := h
  have HC := Shh.mk hc
  have HLN := Shh.mk (fun k (hk : k ≤ us.length) => linesY_len hs13 k hk)
  have HSZ := Shh.mk (fun k (hk : k < us.length) => show (strAt us k).size ≤ 13 from hs13 _ (strAt_mem hk))
  clear hc
  go_enter Tryd.func99, Tryd.ntmps99
  go_wp2
  go_loopw [3, 4] (fun x i wr => ∃ k : Nat, k ≤ us.length ∧ i = .int .i64 k ∧ Shh (OwnB w.heap.size wr x (linesY us k)) ∧ Below w.heap.size w wr) (fun _ i _ => us.length - (intOf i).toNat)
  case atStart => exact ⟨0, Nat.zero_le _, rfl, ⟨World.ownsRow_lit w _ 0 (Nat.le_refl _) (by unfold maxLen; omega) rfl⟩, (Below.refl _ _).alloc (Nat.le_refl _) _⟩
  case round =>
    obtain ⟨k, hk, rfl, ho, hb⟩ := hrel
    have hsz := hb.size
    by_cases hlt : k < us.length
    · obtain ⟨b, off, rfl, hbl, hcc⟩ := HC.out (by omega)
      have ck := (hb.cell (p := ⟨b, off + k, none⟩) hbl).trans (hcc k hlt)
      have hz := HSZ.out k hlt
      have hll := HLN.out k hk
      have hl2 := HLN.out (k + 1) (by omega)
      have hE : linesY us (k + 1) = linesY us k ++ ((strAt us k).data.toList ++ [10]) := rfl
      rw [hE] at hl2
      obtain ⟨y, hy⟩ : ∃ y, strAt us k = y := ⟨_, rfl⟩
      rw [hy] at ck hz hE hl2
      have HE := Shh.mk hE
      obtain ⟨L, hL⟩ : ∃ L, linesY us k = L := ⟨_, rfl⟩
      rw [hL] at ho hll HE hl2
      have hbl2 : (Lib.byteCells L).length = L.length := Lib.byteCells_length L
      have hy2 : y.data.toList.length = y.size := by rw [Array.length_toList]; rfl
      simp only [List.length_append, List.length_cons, List.length_nil] at hl2
      have HB := Shh.mk hb
      clear hcc hy hL hE hb
      go_wp2_with (at_builtin; refine Lib.wpList_append_own_string _ rfl _ _ 96 9 rfl w.heap.size 5 i0 Tryd.underlying96 Tryd.underlying9 hi hz0 hz1 hz2 _ _ _ rfl ho.out y rfl (by unfold maxLen; omega) (by omega) hsz ?_)
      intro v2 w2 hown' hgrow _
      have hb2 := HB.out.grown hgrow hsz (fun k hk => (World.ownsRow.lt ho.out k hk).1)
      have hown2 : OwnB w.heap.size w2 v2 (L ++ y.data.toList) := by
        unfold OwnB
        rw [Lib.byteCells_append, List.length_append, ← Lib.strCells_eq]
        rw [hy2]
        exact hown'
      have HO2 := Shh.mk hown2
      have HB2 := Shh.mk hb2
      clear hown' hgrow hown2 hb2
      go_wp2_with (refine append_byteY rfl _ _ rfl _ (L ++ y.data.toList) rfl rfl HO2.out (by rw [List.length_append]; omega) HB2.out.size ?_; intro v3 w3 ho3 hb3)
      have HO3 : Shh (OwnB w.heap.size w3 v3 (linesY us (k + 1))) := ⟨by rw [HE.out, ← List.append_assoc]; exact ho3⟩
      have HB3 := hb3 _ HB2.out
      clear ho3 hb3
      go_wp2
      go_roundw
      case rel => exact ⟨k + 1, by omega, by go_num, HO3, HB3⟩
      case measure => simp [intOf]; omega
    · obtain rfl : k = us.length := by omega
      have hcv := conv_rowQ ho.out
      obtain ⟨L, hL⟩ : ∃ L, linesY us us.length = L := ⟨_, rfl⟩
      have HLL := Shh.mk hL
      rw [hL] at hcv
      clear hL
      go_wp2
      go_ret
      exact ⟨by rw [HLL.out]; rfl, hb⟩

set_option maxRecDepth 100000 in
set_option maxHeartbeats 2000000 in
theorem specSumOf_any {vd : Value} {xs : List Nod} (W : World) (hx : Nds W vd xs) :
    Calls Tryd.prog 62 #[.agg #[vd]] W fun e w' => e = .returned (.tuple #[.int .i64 (sumOut xs).1, .int .i64 (sumOut xs).2]) ∧ Below W.heap.size W w' := by
  have HX := Shh.mk (hx.alloc (.cells #[vd] 29))
  have HBD := Shh.mk (Blk.made W 29 #[vd])
  have H := Shh.mk (l06Ok_any (W.alloc (.cells #[vd] 29)) HBD.out HX.out)
  obtain ⟨b, hb⟩ : ∃ b, okDw xs = b := ⟨_, rfl⟩
  rw [hb] at H
  have HO := Shh.mk hb
  clear hb hx
  cases b
  · have HR := Shh.mk (show sumOut xs = (0, 1) from by unfold sumOut; rw [HO.out]; rfl)
    go_enter Tryd.func62, Tryd.ntmps62
    go_wp2_with (go_at_call 65; refine (H.out).mono ?_; rintro e w2 ⟨rfl, hb2⟩; obtain ⟨d0, hB2⟩ := okD_cell hb2; clear hb2)
    go_ret2
    exact ⟨by (rw [HR.out]; try rfl), hB2⟩
  · have hd := okDw_of HO.out
    have HS := Shh.mk hd.shp
    have hpos := hd.shp.pos
    have HOK := Shh.mk (show (gphD xs).okN 14 0 0 from ⟨hd.short, by have := hd.few; show 0 + ((gphD xs).W 13 0).length ≤ 3000; omega⟩)
    obtain ⟨hp1, hp2, -⟩ := words_fit HS.out HOK.out
    obtain ⟨ws, hws⟩ : ∃ ws, wordsY xs = ws := ⟨_, rfl⟩
    have hq1 : (wordsY xs).length ≤ 3000 := hp1
    have hq2 : ∀ s ∈ wordsY xs, s.size ≤ 13 := hp2
    clear hp1 hp2
    rw [hws] at hq1 hq2
    obtain ⟨LL, hLL⟩ : ∃ LL, linesY ws ws.length = LL := ⟨_, rfl⟩
    have hlen := linesY_len hq2 _ (Nat.le_refl _)
    rw [hLL] at hlen
    have HR := Shh.mk (show sumOut xs = (((sumL 7 LL : Nat) : Int), (0 : Int)) from by unfold sumOut; rw [HO.out, hws, hLL]; rfl)
    have HTX := Shh.mk (fun (w : World) (v : Value) (h : Strs w v ws) => show Calls Tryd.prog 99 #[v] w fun e w' => e = .returned (.string (txt LL)) ∧ Below w.heap.size w w' from by rw [← hLL]; exact l05TextY w h hq2 hq1)
    obtain ⟨TT, hTT⟩ : ∃ TT, txt LL = TT := ⟨_, rfl⟩
    rw [hTT] at HTX
    have hTL : TT.size = LL.length := by rw [← hTT, txt_size]
    have HTA := Shh.mk (fun k (hk : k < TT.size) (hk2 : k < LL.length) => show LL[k]'hk2 = TT[k]'hk from by subst hTT; simp [txt, ByteArray.getElem_eq_getElem_data])
    have hts : TT.size ≤ 42000 := by omega
    have HTL := Shh.mk hTL
    have HWS := Shh.mk hws
    clear hd hq1 hq2 hLL hTT hlen hTL hws
    go_enter Tryd.func62, Tryd.ntmps62
    go_wp2_with (first
      | (go_at_call 65; refine (H.out).mono ?_; rintro e w2 ⟨rfl, hb2⟩; obtain ⟨d0, hB2⟩ := okD_cell hb2; have HC := Shh.mk (l06Words_any w2 (HBD.out.kept hb2 HBD.out.lt) (HX.out.below hb2) HS.out hpos); have HB2 := Shh.mk hB2; clear hb2 hB2)
      | (go_at_call 79; refine (HC.out).mono ?_; rintro e w4 ⟨vw, us, f, rfl, ho4, hf1, hf2, hb4⟩; obtain rfl : f = false := hf1.2 HOK.out; obtain rfl : us = ws := (hf2 rfl).trans HWS.out; have HO4 := Shh.mk (OwnS.strs ho4); have HB4 := Shh.mk (HB2.out.trans (hb4.mono HB2.out.size)); clear hf1 hf2 ho4 hb4)
      | (go_at_call 99; refine (HTX.out _ _ HO4.out).mono ?_; rintro e w5 ⟨rfl, hb5⟩; have HB5 := Shh.mk (HB4.out.trans (hb5.mono HB4.out.size)); clear hb5))
    go_loopw [7, 8] (fun x i wr => ∃ k S : Nat, k ≤ TT.size ∧ i = .int .i64 k ∧ x = .int .i64 S ∧ S < 1000000007 ∧ wr = w5 ∧ Shh (S = sumL 7 (LL.take k))) (fun _ i _ => TT.size - (intOf i).toNat)
    case atStart => exact ⟨0, 7, Nat.zero_le _, rfl, rfl, by decide, rfl, ⟨by simp [sumL]⟩⟩
    case round =>
      obtain ⟨k, S, hk, rfl, rfl, hS, rfl, hSS⟩ := hrel
      by_cases hlt : k < TT.size
      · have hki : (k : Int) < (TT.size : Int) := by omega
        have hLk : k < LL.length := by have := HTL.out; omega
        obtain ⟨CI, hCI⟩ : ∃ CI : Int, ((TT[k]'hlt).toNat : Int) = CI := ⟨_, rfl⟩
        obtain ⟨e1, e2, e3, e4, e5, e6⟩ := sum_facts hS hCI
        have HNX := Shh.mk (show sumF S (TT[k]'hlt) = sumL 7 (LL.take (k + 1)) from by rw [sum_take 7 hLk, ← hSS.out, HTA.out k hlt hLk])
        have hlt2 := sumF_lt S (TT[k]'hlt)
        obtain ⟨S2, hS2⟩ : ∃ S2, sumF S (TT[k]'hlt) = S2 := ⟨_, rfl⟩
        rw [hS2] at e4 e5 e6 HNX hlt2
        clear hSS hLk hS2
        go_wp2
        go_roundw
        case rel => exact ⟨k + 1, S2, by omega, by go_num, by first | rfl | (rw [e4]) | (rw [e5]), hlt2, by first | trivial | rfl, HNX⟩
        case measure => simp [intOf]; omega
      · obtain rfl : k = TT.size := by omega
        have HF := Shh.mk (show sumL 7 LL = S from by rw [hSS.out, List.take_of_length_le (by have := HTL.out; omega)])
        clear hSS
        go_wp2
        go_ret2
        exact ⟨by (rw [HR.out, HF.out]; try rfl), HB5.out⟩

/-- The bytes of a row that a conversion has made. -/
theorem rowB_cell (w : World) (s : ByteArray) (cap : Nat) {j : Nat} {c : UInt8} (hc : s.data.toList[j]? = some c) : (w.drew.alloc (.cells (bytesRow s cap) 5 ((bytesRow s cap).size, (bytesRow s cap).size + 1))).cell? ⟨w.heap.size, j, none⟩ = some (.int .u8 (c.toNat : Int)) := by
  rw [cell_of_row _ w.heap.size j _ _ _ (heap_alloc_new w.drew _)]
  have hj : j < s.data.size := by
    rcases Nat.lt_or_ge j s.data.size with h | h
    · exact h
    · rw [List.getElem?_eq_none (by simpa using h)] at hc; cases hc
  unfold bytesRow
  rw [Array.getElem?_append_left (by simpa using hj), Array.getElem?_map]
  rw [Array.getElem?_toList] at hc
  rw [hc]
  rfl

set_option maxRecDepth 100000 in
set_option maxHeartbeats 4000000 in
theorem implSumOf_any {vd : Value} {xs : List Nod} (W : World) (hT : TabW W) (hx : Nds W vd xs) :
    Calls Tryd.prog 63 #[.agg #[vd]] W fun e w' => e = .returned (.tuple #[.int .i64 (sumOut xs).1, .int .i64 (sumOut xs).2]) ∧ Below W.heap.size W w' := by
  have HB0 := Shh.mk (show Below W.heap.size W (W.alloc (.cells #[vd] 29)) from (Below.refl _ _).alloc (Nat.le_refl _) _)
  have HX := Shh.mk (hx.alloc (.cells #[vd] 29))
  have H := Shh.mk (implValidDawg_any (W.alloc (.cells #[vd] 29)) (hT.on HB0.out) HX.out)
  obtain ⟨b, hb⟩ : ∃ b, okDw xs = b := ⟨_, rfl⟩
  rw [hb] at H
  have HO := Shh.mk hb
  clear hb hT hx
  cases b
  · have HR := Shh.mk (show sumOut xs = (0, 1) from by unfold sumOut; rw [HO.out]; rfl)
    go_enter Tryd.func63, Tryd.ntmps63
    go_wp2_with (go_at_call 22; refine (H.out).mono ?_; rintro e w2 ⟨rfl, hb2⟩; obtain ⟨d0, hB2⟩ := okD_cell hb2; clear hb2)
    go_ret2
    exact ⟨by (rw [HR.out]; try rfl), hB2⟩
  · have hd := okDw_of HO.out
    obtain ⟨hp1, hp2, -⟩ := words_fit hd.shp (show (gphD xs).okN 14 0 0 from ⟨hd.short, by have := hd.few; show 0 + ((gphD xs).W 13 0).length ≤ 3000; omega⟩)
    obtain ⟨ws, hws⟩ : ∃ ws, wordsY xs = ws := ⟨_, rfl⟩
    have hq1 : (wordsY xs).length ≤ 3000 := hp1
    have hq2 : ∀ s ∈ wordsY xs, s.size ≤ 13 := hp2
    clear hp1 hp2
    rw [hws] at hq1 hq2
    have HR := Shh.mk (show sumOut xs = (((sumL 7 (linesY ws ws.length) : Nat) : Int), (0 : Int)) from by unfold sumOut; rw [HO.out, hws]; rfl)
    have HWD := Shh.mk (fun (w : World) (h : Nds w vd xs) => show Calls Tryd.prog 80 #[.agg #[vd]] w fun e w' => ∃ a n c, e = .returned (.slice a n c) ∧ OwnS w.heap.size w' (.slice a n c) ws ∧ Below w.heap.size w w' from by rw [← hws]; exact words_any w h hd)
    have HSZ := Shh.mk (fun k (hk : k < ws.length) => show (strAt ws k).size ≤ 13 from hq2 _ (strAt_mem hk))
    clear hd hq2 hws
    go_enter Tryd.func63, Tryd.ntmps63
    go_wp2_with (first
      | (go_at_call 22; refine (H.out).mono ?_; rintro e w2 ⟨rfl, hb2⟩; obtain ⟨d0, hB2⟩ := okD_cell hb2; have HC := Shh.mk (HWD.out w2 (HX.out.below hb2)); have HB2 := Shh.mk hB2; clear hb2)
      | (go_at_call 80; refine (HC.out).mono ?_; rintro e w4 ⟨a4, n4, c4, rfl, ho4, hb4⟩; obtain ⟨a5, c5, he, -⟩ := OwnS.strs ho4; have hn4 : n4 = ws.length := (Value.slice.inj he).2.1; subst hn4; have HU := Shh.mk (OwnS.strs ho4); have HB4 := Shh.mk (HB2.out.trans (hb4.mono HB2.out.size)); clear he ho4 hb4))
    clear d0
    go_loopw [4, 6, 8, 15, 24] (fun x _ _ i _ wr => ∃ k S : Nat, k ≤ ws.length ∧ i = .int .i64 k ∧ x = .int .i64 S ∧ S < 1000000007 ∧ Shh (Below w4.heap.size w4 wr) ∧ Shh (S = sumL 7 (linesY ws k))) (fun _ _ _ i _ _ => ws.length - (intOf i).toNat)
    case atStart => exact ⟨0, 7, Nat.zero_le _, rfl, rfl, by decide, ⟨Below.refl _ _⟩, ⟨by simp [sumL, linesY]⟩⟩
    case round =>
      obtain ⟨k, S, hk, rfl, rfl, hS, hb, hSS⟩ := hrel
      by_cases hlt : k < ws.length
      · obtain ⟨w1, hw1⟩ : ∃ w1, w1 = wr := ⟨_, rfl⟩
        subst hw1
        obtain ⟨a6, c6, he, hl1, hm, hc⟩ := HU.out
        obtain ⟨b, off, rfl, hbl, hcc⟩ := hc (by omega)
        obtain ⟨rfl, -, rfl⟩ := Value.slice.inj he
        have ck := (hb.out.cell (p := ⟨b, off + k, none⟩) hbl).trans (hcc k hlt)
        have hz := HSZ.out k hlt
        obtain ⟨y, hy⟩ : ∃ y, strAt ws k = y := ⟨_, rfl⟩
        rw [hy] at ck hz
        have hy2 : y.data.toList.length = y.size := by rw [Array.length_toList]; rfl
        obtain ⟨LN, hLN⟩ : ∃ l, y.data.toList ++ [10] = l := ⟨_, rfl⟩
        have hll : LN.length = y.size + 1 := by rw [← hLN]; simp only [List.length_append, List.length_cons, List.length_nil]; omega
        obtain ⟨TT, hTT⟩ : ∃ t, txt LN = t := ⟨_, rfl⟩
        have hts : TT.size = LN.length := by rw [← hTT, txt_size]
        have htl : TT.data.toList = LN := by rw [← hTT, txt_list]
        have HE := Shh.mk (show linesY ws (k + 1) = linesY ws k ++ LN from by rw [← hLN, ← hy]; rfl)
        have HLI := Shh.mk (show Calls Tryd.prog 100 #[.slice (some ⟨w1.heap.size, 0, none⟩) 1 1] (w1.alloc (.cells #[.string y] 9)) fun e w' => e = .returned (.string TT) ∧ Below (w1.alloc (.cells #[.string y] 9)).heap.size (w1.alloc (.cells #[.string y] 9)) w' from by
          have h9 := lineOfW (T := y.data.toList) _ (OwnS.strs (lit_row1 w1 y)) (by simp) (by simp [Lib.join]) (by omega)
          rw [hLN, hTT] at h9
          exact h9)
        have HTL := Shh.mk hts
        have HLT := Shh.mk htl
        have hts2 : TT.size ≤ 14 := by omega
        have HB1 := Shh.mk (hb.out.alloc hb.out.size (.cells #[.string y] 9))
        clear hl1 hm hc hcc hy hLN hTT hts htl hll hy2 he hb
        go_wp2_with (go_at_call 100; refine (HLI.out).mono ?_; rintro e w3 ⟨rfl, hb3⟩; have hcv := run_bytes_of_string (P := Tryd.prog) w3 9 96 5 TT Tryd.underlying9 Tryd.underlying96 Tryd.underlying5; have HCB := Shh.mk (fun (j : Nat) (c : UInt8) (hc : LN[j]? = some c) => rowB_cell w3 TT (grownCap w3 TT.size 0 5) (by rw [HLT.out]; exact hc)); have HB3 := Shh.mk (HB1.out.trans (hb3.mono HB1.out.size)); have HBW := Shh.mk (HB3.out.drew.alloc HB3.out.size (.cells (bytesRow TT (grownCap w3 TT.size 0 5)) 5 ((bytesRow TT (grownCap w3 TT.size 0 5)).size, (bytesRow TT (grownCap w3 TT.size 0 5)).size + 1))); obtain ⟨w5, hw5⟩ : ∃ w5, w3.drew.alloc (.cells (bytesRow TT (grownCap w3 TT.size 0 5)) 5 ((bytesRow TT (grownCap w3 TT.size 0 5)).size, (bytesRow TT (grownCap w3 TT.size 0 5)).size + 1)) = w5 := ⟨_, rfl⟩; rw [hw5] at hcv HCB HBW; obtain ⟨cap, hcap⟩ : ∃ cap, grownCap w3 TT.size 0 5 = cap := ⟨_, rfl⟩; rw [hcap] at hcv; clear hw5 hcap hb3)
        clear ck
        go_loopw [4, 8, 24] (fun x _ i wr => ∃ m R : Nat, m ≤ TT.size ∧ i = .int .i64 m ∧ x = .int .i64 R ∧ R < 1000000007 ∧ wr = w5 ∧ Shh (R = sumL S (LN.take m))) (fun _ _ i _ => TT.size - (intOf i).toNat)
        case atStart => exact ⟨0, S, Nat.zero_le _, rfl, rfl, hS, rfl, ⟨by simp [sumL]⟩⟩
        case round =>
          obtain ⟨m, R, hm, rfl, rfl, hR, rfl, hRR⟩ := hrel
          by_cases hmt : m < TT.size
          · have hLm : m < LN.length := by have := HTL.out; omega
            obtain ⟨c, hcc⟩ : ∃ c, LN[m]'hLm = c := ⟨_, rfl⟩
            have cm := HCB.out m c (by rw [List.getElem?_eq_getElem hLm, hcc])
            obtain ⟨CI, hCI⟩ : ∃ CI : Int, (c.toNat : Int) = CI := ⟨_, rfl⟩
            rw [hCI] at cm
            obtain ⟨e1, e2, e3, e4, e5, e6⟩ := sum_facts hR hCI
            have HNX := Shh.mk (show sumF R c = sumL S (LN.take (m + 1)) from by rw [sum_take S hLm, ← hRR.out, hcc])
            have hlt2 := sumF_lt R c
            obtain ⟨R2, hR2⟩ : ∃ R2, sumF R c = R2 := ⟨_, rfl⟩
            rw [hR2] at e4 e5 e6 HNX hlt2
            clear hRR hLm hR2 hcc hCI hcv
            go_wp2
            go_roundw
            case rel => exact ⟨m + 1, R2, by omega, by go_num, by first | rfl | (rw [e4]) | (rw [e5]), hlt2, by first | trivial | rfl, HNX⟩
            case measure => simp [intOf]; omega
          · obtain rfl : m = TT.size := by omega
            have HF := Shh.mk (show R = sumL 7 (linesY ws (k + 1)) from by rw [HE.out, sumL_app, ← hSS.out, hRR.out, List.take_of_length_le (by have := HTL.out; omega)])
            clear hRR hcv hSS
            go_wp2
            go_roundw
            case rel => exact ⟨k + 1, R, by omega, by go_num, rfl, hR, HBW, HF⟩
            case measure => simp [intOf]; omega
      · obtain rfl : k = ws.length := by omega
        have HF := Shh.mk (show sumL 7 (linesY ws ws.length) = S from hSS.out.symm)
        clear hSS
        go_wp2
        go_ret2
        exact ⟨by (rw [HR.out, HF.out]; try rfl), HB4.out.trans (hb.out.mono HB4.out.size)⟩
end Go.Proofs.YtokfkofclpajfaaDoor
