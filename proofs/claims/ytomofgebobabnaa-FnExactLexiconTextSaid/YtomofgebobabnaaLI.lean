/-
  The text of a lexicon: the model's and the program's.
-/
import Derived.Test.YtomofgebobabnaaL6
import Derived.Test.YtomofgebobabnaaLB
import Derived.Test.YtomofgebobabnaaO1
import Derived.Test.YtomofgebobabnaaQ3
import Derived.Test.YtomofgebobabnaaShelfI
namespace Go.Proofs.Ytomofgebobabnaa
open Go.RowKit

theorem LexAt.belowI {W W' : World} {g : Nat} {v : Value} {ss : List ByteArray} (h : LexAt W g v ss) (hb : Below W.heap.size W W') : LexAt W' g v ss := ⟨h.blk.kept hb h.blk.lt, h.strs.below hb⟩
def lexTo (us : List ByteArray) : Nat → List UInt8
  | 0 => []
  | k + 1 => lexTo us k ++ ((strAt us k).data.toList ++ [10])
theorem lexTo_sum (us : List ByteArray) : ∀ k, (lexTo us k).length = k + sumTo (fun j => (strAt us j).size) k
  | 0 => by simp [lexTo, sumTo]
  | k + 1 => by
    have := lexTo_sum us k
    have h2 : (strAt us k).data.toList.length = (strAt us k).size := by rw [Array.length_toList]; rfl
    simp only [lexTo, sumTo, List.length_append, List.length_cons, List.length_nil] at *
    omega
theorem lexTo_len {us : List ByteArray} : ∀ {k : Nat}, k ≤ us.length → (lexTo us k).length ≤ strsW us := by
  intro k hk
  have h1 := lexTo_sum us k
  have h2 : ∀ n, k ≤ n → sumTo (fun j => (strAt us j).size) k ≤ sumTo (fun j => (strAt us j).size) n := by
    intro n hn
    induction n with
    | zero => obtain rfl : k = 0 := by omega
              exact Nat.le_refl _
    | succ n ih =>
      rcases Nat.lt_or_ge k (n + 1) with h | h
      · have := ih (by omega)
        simp only [sumTo]
        omega
      · obtain rfl : k = n + 1 := by omega
        exact Nat.le_refl _
  have := h2 _ hk
  unfold strsW
  omega
/-- The text of a valid lexicon; of another one: none. -/
def lexOut (us : List ByteArray) : ByteArray := if okL us = true then txt (lexTo us us.length) else txt []
theorem lexOut_no {us : List ByteArray} (h : okL us = false) : lexOut us = ⟨#[]⟩ := by simp [lexOut, h, txt]
theorem lexOut_yes {us : List ByteArray} (h : okL us = true) : lexOut us = txt (lexTo us us.length) := by simp [lexOut, h]
theorem ret_str {a b : ByteArray} (h : a = b) : Ending.returned (.string a) = .returned (.string b) := by rw [h]

theorem append_nl {ops : Array Oper} {rest : List Oper} {o : Oper} {a : Act} {Q : Exit → Act → World → Prop} {B : Nat} {W : World} (hgd : o.guard = none) (s x : Operand)
    (ho : o.op = .call { callee := .builtin .append, args := #[s, x], argTypes := #[70, 70] })
    (v : Value) (l : List UInt8) (hs : a.eval s = v) (hx : a.eval x = .slice (some ⟨W.heap.size, 0, none⟩) 1 1)
    (hown : OwnB B W v l) (hlen : l.length ≤ 2097152) (hB : B ≤ W.heap.size)
    (h : ∀ v' w', OwnB B w' v' (l ++ [10]) → (∀ w0, Below B w0 W → Below B w0 w') → wpList Try.prog ops Q rest (a.put o.dst v') w') :
    wpList Try.prog ops Q (o :: rest) a (W.alloc (.cells #[.int .u8 10] 5)) := append_byteO hgd s x ho v l 10 hs hx hown hlen hB h

set_option maxRecDepth 100000 in
set_option maxHeartbeats 1000000 in
theorem l05Text_any {v : Value} {us : List ByteArray} (w : World) (h : Strs w v us) (hW : strsW us ≤ 1048576) :
    Calls Try.prog 74 #[v] w fun e w' => e = .returned (.string (txt (lexTo us us.length))) ∧ Below w.heap.size w w' := by
  have hl := h.len
  obtain ⟨i0, hi, hz0, hz1, hz2⟩ := info_parts info8Q
  obtain ⟨a, cap, rfl, hl1, hm, hc⟩ := h
  have HC := Shh.mk hc
  have HLN := Shh.mk (fun k (hk : k ≤ us.length) => Nat.le_trans (lexTo_len hk) hW)
  have HSZ := Shh.mk (fun k (hk : k < us.length) => Nat.le_trans (strsW_at hk) hW)
  clear hc
  go_enter Try.func74, Try.ntmps74
  go_wp2
  go_loopw [3, 4] (fun x i wr => ∃ k : Nat, k ≤ us.length ∧ i = .int .i64 k ∧ Shh (OwnB w.heap.size wr x (lexTo us k)) ∧ Below w.heap.size w wr) (fun _ i _ => us.length - (intOf i).toNat)
  case atStart => exact ⟨0, Nat.zero_le _, rfl, ⟨World.ownsRow_lit w _ 0 (Nat.le_refl _) (by unfold maxLen; omega) rfl⟩, (Below.refl _ _).alloc (Nat.le_refl _) _⟩
  case round =>
    obtain ⟨k, hk, rfl, ho, hb⟩ := hrel
    have hsz := hb.size
    by_cases hlt : k < us.length
    · obtain ⟨b, off, rfl, hbl, hcc⟩ := HC.out (by omega)
      have ck := (hb.cell (p := ⟨b, off + k, none⟩) hbl).trans (hcc k hlt)
      have hz := HSZ.out k hlt
      have hll := HLN.out k hk
      have hl2 := HLN.out (k + 1) (by omega)
      have hE : lexTo us (k + 1) = lexTo us k ++ ((strAt us k).data.toList ++ [10]) := rfl
      rw [hE] at hl2
      obtain ⟨y, hy⟩ : ∃ y, strAt us k = y := ⟨_, rfl⟩
      rw [hy] at ck hz hE hl2
      have HE := Shh.mk hE
      obtain ⟨L, hL⟩ : ∃ L, lexTo us k = L := ⟨_, rfl⟩
      rw [hL] at ho hll HE hl2
      have hbl2 : (Lib.byteCells L).length = L.length := Lib.byteCells_length L
      have hy2 : y.data.toList.length = y.size := by rw [Array.length_toList]; rfl
      simp only [List.length_append, List.length_cons, List.length_nil] at hl2
      have HB := Shh.mk hb
      clear hcc hy hL hE hb
      go_wp2_with (at_builtin; refine Lib.wpList_append_own_string _ rfl _ _ 70 9 rfl w.heap.size 5 i0 Try.underlying70 Try.underlying9 hi hz0 hz1 hz2 _ _ _ rfl ho.out y rfl (by unfold maxLen; omega) (by omega) hsz ?_)
      intro v2 w2 hown' hgrow _
      have hb2 := HB.out.grown hgrow hsz (fun k hk => (World.ownsRow.lt ho.out k hk).1)
      have hown2 : OwnB w.heap.size w2 v2 (L ++ y.data.toList) := by
        unfold OwnB
        rw [Lib.byteCells_append, List.length_append, ← Lib.strCells_eq]
        rw [hy2]
        exact hown'
      have HO2 := Shh.mk hown2
      have HB2 := Shh.mk hb2
      clear hown' hgrow hown2 hb2
      go_wp2_with (refine append_nl rfl _ _ rfl _ (L ++ y.data.toList) rfl rfl HO2.out (by rw [List.length_append]; omega) HB2.out.size ?_; intro v3 w3 ho3 hb3)
      have HO3 : Shh (OwnB w.heap.size w3 v3 (lexTo us (k + 1))) := ⟨by rw [HE.out, ← List.append_assoc]; exact ho3⟩
      have HB3 := hb3 _ HB2.out
      clear ho3 hb3
      go_wp2
      go_roundw
      case rel => exact ⟨k + 1, by omega, by go_num, HO3, HB3⟩
      case measure => simp [intOf]; omega
    · obtain rfl : k = us.length := by omega
      have hcv := conv_rowQ ho.out
      obtain ⟨L, hL⟩ : ∃ L, lexTo us us.length = L := ⟨_, rfl⟩
      have HLL := Shh.mk hL
      rw [hL] at hcv
      clear hL
      go_wp2
      go_ret
      exact ⟨ret_str (by rw [HLL.out]; rfl), hb⟩

set_option maxHeartbeats 1000000 in
theorem specLexiconText_any {v : Value} {us : List ByteArray} (W : World) (hu : Strs W v us) (hz : ∀ s ∈ us, s.size ≤ maxLen) (hW : strsW us ≤ 1048576) :
    Calls Try.prog 45 #[.agg #[v]] W fun e w' => e = .returned (.string (lexOut us)) ∧ Below W.heap.size W w' := by
  have HG := Shh.mk (LexAt.made hu)
  have c0 := HG.out.blk.cells
  have hB0 := (Below.refl W.heap.size W).alloc (Nat.le_refl _) (.cells #[v] 27)
  obtain ⟨aa, ac, rfl, -⟩ := hu
  cases hok : okL us
  · have HR := Shh.mk (lexOut_no hok)
    have HO := Shh.mk hok
    clear hok
    go_enter Try.func45, Try.ntmps45
    go_wp2_with fail
    refine (ok_is HO.out _ HG.out hz).mono ?_
    rintro e w1 ⟨rfl, k, rfl⟩
    go_wp2
    go_ret
    exact ⟨ret_str HR.out.symm, below_drewN hB0 _⟩
  · have HR := Shh.mk (lexOut_yes hok)
    have HO := Shh.mk hok
    clear hok
    go_enter Try.func45, Try.ntmps45
    go_wp2_with fail
    refine (ok_is HO.out _ HG.out hz).mono ?_
    rintro e w1 ⟨rfl, k, hw1⟩
    have hg1 := Shh.mk (show LexAt w1 W.heap.size _ us by rw [hw1]; exact HG.out.drewN k)
    have HB1 := Shh.mk (show Below W.heap.size W w1 by rw [hw1]; exact below_drewN hB0 k)
    clear c0 hw1
    have c0 := hg1.out.blk.cells
    go_wp2_with fail
    refine (l05Text_any _ hg1.out.strs hW).mono ?_
    rintro e w2 ⟨rfl, hb2⟩
    go_wp2
    go_ret
    exact ⟨ret_str HR.out.symm, HB1.out.trans (hb2.mono HB1.out.size)⟩

/-! ### The program -/
theorem join_word {v : Value} {y : ByteArray} (W : World) (h : Strs W v [y]) (hlen : y.size ≤ 1000000) : Calls Try.prog 95 #[v, .string ⟨#[32]⟩] W fun e w' => e = .returned (.string (txt y.data.toList)) ∧ Below W.heap.size W w' := by
  obtain ⟨a, cap, rfl, h1, h2, h3⟩ := h
  obtain ⟨b, off, rfl, h4, h5⟩ := h3 (by simp)
  have hy2 : y.data.toList.length = y.size := by rw [Array.length_toList]; rfl
  have e : Lib.join ([y].map (·.data.toList)) [32] = y.data.toList := by simp [Lib.join]
  have := Try.strings_Join b off cap [y] ⟨#[32]⟩ W (fun j x hj => by
      have hjl : j < [y].length := by
        rcases Nat.lt_or_ge j [y].length with h | h
        · exact h
        · rw [List.getElem?_eq_none h] at hj; cases hj
      rw [h5 j hjl]
      unfold strAt
      rw [List.getD_eq_getElem?_getD, hj]
      rfl) h4 (by simp) h1 (by show (Lib.join ([y].map (·.data.toList)) [32]).length ≤ _; rw [e, hy2]; omega)
  have e2 : (Lib.join ([y].map (·.data.toList)) (⟨#[32]⟩ : ByteArray).data.toList) = y.data.toList := e
  rw [e2] at this
  exact this
set_option maxHeartbeats 1000000 in
theorem lineOf_word {v : Value} {y : ByteArray} (W : World) (h : Strs W v [y]) (hlen : y.size ≤ 1000000) :
    Calls Try.prog 76 #[v] W fun e w' => e = .returned (.string (txt (y.data.toList ++ [10]))) ∧ Below W.heap.size W w' := by
  have HJ := Shh.mk (join_word W h hlen)
  have hy2 : y.data.toList.length = y.size := by rw [Array.length_toList]; rfl
  have hz : (txt y.data.toList).size ≤ 1000000000 := by rw [txt_size, hy2]; omega
  have hcat : txt y.data.toList ++ (⟨#[10]⟩ : ByteArray) = txt (y.data.toList ++ [10]) := by
    apply Go.WideShapes.bytes_inj
    simp [txt]
  obtain ⟨a, cap, rfl, -⟩ := h
  obtain ⟨TT, hTT⟩ : ∃ TT, txt y.data.toList = TT := ⟨_, rfl⟩
  rw [hTT] at HJ hz hcat
  have HCAT := Shh.mk hcat
  clear hTT hcat hy2
  go_enter Try.func76, Try.ntmps76
  go_wp2_with fail
  refine HJ.out.mono ?_
  rintro e w1 ⟨rfl, hb1⟩
  go_wp2
  go_ret
  exact ⟨congrArg (fun x => Ending.returned (.string x)) HCAT.out, hb1⟩

set_option maxRecDepth 100000 in
set_option maxHeartbeats 1000000 in
theorem implLexiconText_any {v : Value} {us : List ByteArray} (W : World) (hu : Strs W v us) (hz : ∀ s ∈ us, s.size ≤ maxLen) (hW : strsW us ≤ 1048576) :
    Calls Try.prog 46 #[.agg #[v]] W fun e w' => e = .returned (.string (lexOut us)) ∧ Below W.heap.size W w' := by
  have hul := hu.len
  have HG := Shh.mk (LexAt.made hu)
  have c0 := HG.out.blk.cells
  have hB0 := (Below.refl W.heap.size W).alloc (Nat.le_refl _) (.cells #[v] 27)
  have HU := Shh.mk hu
  obtain ⟨aa, ac, rfl, -, -, hc⟩ := hu
  have HC := Shh.mk hc
  clear hc
  cases hok : okL us
  · have HR := Shh.mk (lexOut_no hok)
    have HO := Shh.mk hok
    clear hok
    go_enter Try.func46, Try.ntmps46
    go_wp2_with fail
    refine (valid_on HO.out _ HG.out.strs hz).mono ?_
    rintro e w1 ⟨rfl, hb1⟩
    go_wp2
    go_ret
    exact ⟨ret_str HR.out.symm, hB0.trans (hb1.mono hB0.size)⟩
  · have HR := Shh.mk (lexOut_yes hok)
    have HO := Shh.mk hok
    have HLN := Shh.mk (fun k (hk : k ≤ us.length) => Nat.le_trans (lexTo_len hk) hW)
    have HSZ := Shh.mk (fun k (hk : k < us.length) => Nat.le_trans (strsW_at hk) hW)
    clear hok
    go_enter Try.func46, Try.ntmps46
    go_wp2_with fail
    refine (valid_on HO.out _ HG.out.strs hz).mono ?_
    rintro e V ⟨rfl, hb1⟩
    have hgV : W.heap.size < V.heap.size := Nat.lt_of_lt_of_le HG.out.blk.lt hb1.size
    have HBV := Shh.mk (hB0.trans (hb1.mono hB0.size))
    have cV := ((HG.out.belowI hb1).blk.alloc (.cells #[.pointer none, .slice none 0 0] 72)).cells
    have HFR := Shh.mk (fresh_builder V)
    clear hb1 c0
    go_wp2
    clear cV
    go_loopw [5, 12] (fun _ i wr => ∃ k : Nat, k ≤ us.length ∧ i = .int .i64 k ∧ Shh (IsB V.heap.size V.heap.size (lexTo us k) wr) ∧ Below V.heap.size V wr) (fun _ i _ => us.length - (intOf i).toNat)
    case atStart => exact ⟨0, Nat.zero_le _, rfl, HFR, (Below.refl _ _).alloc (Nat.le_refl _) _⟩
    case round =>
      obtain ⟨k, hk, rfl, hB, hb⟩ := hrel
      have hbs := hb.size
      by_cases hlt : k < us.length
      · obtain ⟨b, off, rfl, hbl, hcc⟩ := HC.out (by omega)
        have hBW := HBV.out.trans (hb.mono (Nat.le_of_lt hgV))
        have ck := (hBW.cell (p := ⟨b, off + k, none⟩) hbl).trans (hcc k hlt)
        have hzz := HSZ.out k hlt
        have hl2 := HLN.out (k + 1) (by omega)
        have hE : lexTo us (k + 1) = lexTo us k ++ ((strAt us k).data.toList ++ [10]) := rfl
        rw [hE] at hl2
        obtain ⟨y, hy⟩ : ∃ y, strAt us k = y := ⟨_, rfl⟩
        rw [hy] at ck hzz hE hl2
        have HE := Shh.mk hE
        obtain ⟨L, hL⟩ : ∃ L, lexTo us k = L := ⟨_, rfl⟩
        rw [hL] at hB HE hl2
        have hy2 : y.data.toList.length = y.size := by rw [Array.length_toList]; rfl
        simp only [List.length_append, List.length_cons, List.length_nil] at hl2
        have hyz : y.size ≤ 1000000 := by
          have := okL_long HO.out hlt
          rw [hy] at this
          have := longB_size this
          omega
        have HB := Shh.mk hb
        have hba := Shh.mk ((Below.refl wr.heap.size wr).alloc (Nat.le_refl _) (.cells #[.string y] 9))
        clear hcc hy hL hE hBW hb
        go_wp2_with fail
        refine (lineOf_word _ (Strs.made1 _ y) hyz).mono ?_
        rintro e w2 ⟨rfl, hb2⟩
        have hb2' := hba.out.trans (hb2.mono hba.out.size)
        obtain ⟨T, hT⟩ : ∃ T, txt (y.data.toList ++ [10]) = T := ⟨_, rfl⟩
        have hTz : T.size = y.size + 1 := by rw [← hT, txt_size, List.length_append, hy2]; rfl
        have HTT := Shh.mk (show T.data.toList = y.data.toList ++ [10] by rw [← hT, txt_list])
        rw [hT]
        have HB2 := Shh.mk (HB.out.trans (hb2'.mono hbs))
        have HI2 := Shh.mk (hB.out.kept hb2')
        clear hb2 hb2' hT ck
        go_wp2_with fail
        refine (writeString_any V.heap.size V.heap.size L T _ HI2.out (by omega) HB2.out.size).mono ?_
        rw [HTT.out, ← HE.out]
        rintro e w3 ⟨rfl, hi3, hb3⟩
        have HB3 := Shh.mk (HB2.out.trans hb3)
        have HI3 := Shh.mk hi3
        clear hb3 hi3
        go_wp2
        go_roundw
        case rel => exact ⟨k + 1, by omega, by go_num, HI3, HB3.out⟩
        case measure => simp [intOf]; omega
      · obtain rfl : k = us.length := by omega
        have hz : (lexTo us us.length).length ≤ 1000000000 := by
          have := HLN.out us.length (Nat.le_refl _)
          omega
        have HST := Shh.mk (Try.Builder_String_any V.heap.size V.heap.size (lexTo us us.length) _ hB.out hbs)
        go_wp2_with fail
        refine HST.out.mono ?_
        rintro e w5 ⟨rfl, hb5⟩
        go_wp2
        go_ret
        exact ⟨ret_str HR.out.symm, HBV.out.trans ((hb.trans hb5).mono (Nat.le_of_lt hgV))⟩
end Go.Proofs.Ytomofgebobabnaa
