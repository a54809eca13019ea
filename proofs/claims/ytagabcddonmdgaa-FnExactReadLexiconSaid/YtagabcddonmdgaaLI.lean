/-
  The text of a lexicon: the model's and the program's.
-/
import Derived.Test.YtagabcddonmdgaaL6
import Derived.Test.YtagabcddonmdgaaLB
import Derived.Test.YtagabcddonmdgaaO1
import Derived.Test.YtagabcddonmdgaaQ3
import Derived.Test.YtagabcddonmdgaaShelfI
namespace Go.Proofs.Ytagabcddonmdgaa
open Go.RowKit

theorem LexAt.belowI {W W' : World} {g : Nat} {v : Value} {ss : List ByteArray} (h : LexAt W g v ss) (hb : Below W.heap.size W W') : LexAt W' g v ss := ⟨h.blk.kept hb h.blk.lt, h.strs.below hb⟩
def lexTo (us : List ByteArray) : Nat → List UInt8
  | 0 => []
  | k + 1 => lexTo us k ++ ((strAt us k).data.toList ++ [10])
theorem lexTo_sum (us : List ByteArray) : ∀ k, (lexTo us k).length = k + sumTo (fun j => (strAt us j).size) k
  | 0 => by simp [lexTo, sumTo]
  | k + 1 => by
    have := lexTo_sum us k
    have h2 : (strAt us k).data.toList.length = (strAt us k).size := by rw [Array.length_toList]; rfl
    simp only [lexTo, sumTo, List.length_append, List.length_cons, List.length_nil] at *
    omega
theorem lexTo_len {us : List ByteArray} : ∀ {k : Nat}, k ≤ us.length → (lexTo us k).length ≤ strsW us := by
  intro k hk
  have h1 := lexTo_sum us k
  have h2 : ∀ n, k ≤ n → sumTo (fun j => (strAt us j).size) k ≤ sumTo (fun j => (strAt us j).size) n := by
    intro n hn
    induction n with
    | zero => obtain rfl : k = 0 := by omega
              exact Nat.le_refl _
    | succ n ih =>
      rcases Nat.lt_or_ge k (n + 1) with h | h
      · have := ih (by omega)
        simp only [sumTo]
        omega
      · obtain rfl : k = n + 1 := by omega
        exact Nat.le_refl _
  have := h2 _ hk
  unfold strsW
  omega
/-- The text of a valid lexicon; of another one: none. -/
def lexOut (us : List ByteArray) : ByteArray := if okL us = true then txt (lexTo us us.length) else txt []
theorem lexOut_no {us : List ByteArray} (h : okL us = false) : lexOut us = ⟨#[]⟩ := by simp [lexOut, h, txt]
theorem lexOut_yes {us : List ByteArray} (h : okL us = true) : lexOut us = txt (lexTo us us.length) := by simp [lexOut, h]
theorem ret_str {a b : ByteArray} (h : a = b) : Ending.returned (.string a) = .returned (.string b) := by rw [h]

/-! ### The program -/
theorem join_word {v : Value} {y : ByteArray} (W : World) (h : Strs W v [y]) (hlen : y.size ≤ 1000000) : Calls Try.prog 83 #[v, .string ⟨#[32]⟩] W fun e w' => e = .returned (.string (txt y.data.toList)) ∧ Below W.heap.size W w' := by
  obtain ⟨a, cap, rfl, h1, h2, h3⟩ := h
  obtain ⟨b, off, rfl, h4, h5⟩ := h3 (by simp)
  have hy2 : y.data.toList.length = y.size := by rw [Array.length_toList]; rfl
  have e : Lib.join ([y].map (·.data.toList)) [32] = y.data.toList := by simp [Lib.join]
  have := Try.strings_Join b off cap [y] ⟨#[32]⟩ W (fun j x hj => by
      have hjl : j < [y].length := by
        rcases Nat.lt_or_ge j [y].length with h | h
        · exact h
        · rw [List.getElem?_eq_none h] at hj; cases hj
      rw [h5 j hjl]
      unfold strAt
      rw [List.getD_eq_getElem?_getD, hj]
      rfl) h4 (by simp) h1 (by show (Lib.join ([y].map (·.data.toList)) [32]).length ≤ _; rw [e, hy2]; omega)
  have e2 : (Lib.join ([y].map (·.data.toList)) (⟨#[32]⟩ : ByteArray).data.toList) = y.data.toList := e
  rw [e2] at this
  exact this
set_option maxHeartbeats 1000000 in
theorem lineOf_word {v : Value} {y : ByteArray} (W : World) (h : Strs W v [y]) (hlen : y.size ≤ 1000000) :
    Calls Try.prog 57 #[v] W fun e w' => e = .returned (.string (txt (y.data.toList ++ [10]))) ∧ Below W.heap.size W w' := by
  have HJ := Shh.mk (join_word W h hlen)
  have hy2 : y.data.toList.length = y.size := by rw [Array.length_toList]; rfl
  have hz : (txt y.data.toList).size ≤ 1000000000 := by rw [txt_size, hy2]; omega
  have hcat : txt y.data.toList ++ (⟨#[10]⟩ : ByteArray) = txt (y.data.toList ++ [10]) := by
    apply Go.WideShapes.bytes_inj
    simp [txt]
  obtain ⟨a, cap, rfl, -⟩ := h
  obtain ⟨TT, hTT⟩ : ∃ TT, txt y.data.toList = TT := ⟨_, rfl⟩
  rw [hTT] at HJ hz hcat
  have HCAT := Shh.mk hcat
  clear hTT hcat hy2
  go_enter Try.func57, Try.ntmps57
  go_wp2_with fail
  refine HJ.out.mono ?_
  rintro e w1 ⟨rfl, hb1⟩
  go_wp2
  go_ret
  exact ⟨congrArg (fun x => Ending.returned (.string x)) HCAT.out, hb1⟩

set_option maxRecDepth 100000 in
set_option maxHeartbeats 1000000 in
theorem implLexiconText_any {v : Value} {us : List ByteArray} (W : World) (hu : Strs W v us) (hz : ∀ s ∈ us, s.size ≤ maxLen) (hW : strsW us ≤ 1048576) :
    Calls Try.prog 37 #[.agg #[v]] W fun e w' => e = .returned (.string (lexOut us)) ∧ Below W.heap.size W w' := by
  have hul := hu.len
  have HG := Shh.mk (LexAt.made hu)
  have c0 := HG.out.blk.cells
  have hB0 := (Below.refl W.heap.size W).alloc (Nat.le_refl _) (.cells #[v] 33)
  have HU := Shh.mk hu
  obtain ⟨aa, ac, rfl, -, -, hc⟩ := hu
  have HC := Shh.mk hc
  clear hc
  cases hok : okL us
  · have HR := Shh.mk (lexOut_no hok)
    have HO := Shh.mk hok
    clear hok
    go_enter Try.func37, Try.ntmps37
    go_wp2_with fail
    refine (valid_on HO.out _ HG.out.strs hz).mono ?_
    rintro e w1 ⟨rfl, hb1⟩
    go_wp2
    go_ret
    exact ⟨ret_str HR.out.symm, hB0.trans (hb1.mono hB0.size)⟩
  · have HR := Shh.mk (lexOut_yes hok)
    have HO := Shh.mk hok
    have HLN := Shh.mk (fun k (hk : k ≤ us.length) => Nat.le_trans (lexTo_len hk) hW)
    have HSZ := Shh.mk (fun k (hk : k < us.length) => Nat.le_trans (strsW_at hk) hW)
    clear hok
    go_enter Try.func37, Try.ntmps37
    go_wp2_with fail
    refine (valid_on HO.out _ HG.out.strs hz).mono ?_
    rintro e V ⟨rfl, hb1⟩
    have hgV : W.heap.size < V.heap.size := Nat.lt_of_lt_of_le HG.out.blk.lt hb1.size
    have HBV := Shh.mk (hB0.trans (hb1.mono hB0.size))
    have cV := ((HG.out.belowI hb1).blk.alloc (.cells #[.pointer none, .slice none 0 0] 97)).cells
    have HFR := Shh.mk (fresh_builder V)
    clear hb1 c0
    go_wp2
    clear cV
    go_loopw [5, 12] (fun _ i wr => ∃ k : Nat, k ≤ us.length ∧ i = .int .i64 k ∧ Shh (IsB V.heap.size V.heap.size (lexTo us k) wr) ∧ Below V.heap.size V wr) (fun _ i _ => us.length - (intOf i).toNat)
    case atStart => exact ⟨0, Nat.zero_le _, rfl, HFR, (Below.refl _ _).alloc (Nat.le_refl _) _⟩
    case round =>
      obtain ⟨k, hk, rfl, hB, hb⟩ := hrel
      have hbs := hb.size
      by_cases hlt : k < us.length
      · obtain ⟨b, off, rfl, hbl, hcc⟩ := HC.out (by omega)
        have hBW := HBV.out.trans (hb.mono (Nat.le_of_lt hgV))
        have ck := (hBW.cell (p := ⟨b, off + k, none⟩) hbl).trans (hcc k hlt)
        have hzz := HSZ.out k hlt
        have hl2 := HLN.out (k + 1) (by omega)
        have hE : lexTo us (k + 1) = lexTo us k ++ ((strAt us k).data.toList ++ [10]) := rfl
        rw [hE] at hl2
        obtain ⟨y, hy⟩ : ∃ y, strAt us k = y := ⟨_, rfl⟩
        rw [hy] at ck hzz hE hl2
        have HE := Shh.mk hE
        obtain ⟨L, hL⟩ : ∃ L, lexTo us k = L := ⟨_, rfl⟩
        rw [hL] at hB HE hl2
        have hy2 : y.data.toList.length = y.size := by rw [Array.length_toList]; rfl
        simp only [List.length_append, List.length_cons, List.length_nil] at hl2
        have hyz : y.size ≤ 1000000 := by
          have := okL_long HO.out hlt
          rw [hy] at this
          have := longB_size this
          omega
        have HB := Shh.mk hb
        have hba := Shh.mk ((Below.refl wr.heap.size wr).alloc (Nat.le_refl _) (.cells #[.string y] 9))
        clear hcc hy hL hE hBW hb
        go_wp2_with fail
        refine (lineOf_word _ (Strs.made1 _ y) hyz).mono ?_
        rintro e w2 ⟨rfl, hb2⟩
        have hb2' := hba.out.trans (hb2.mono hba.out.size)
        obtain ⟨T, hT⟩ : ∃ T, txt (y.data.toList ++ [10]) = T := ⟨_, rfl⟩
        have hTz : T.size = y.size + 1 := by rw [← hT, txt_size, List.length_append, hy2]; rfl
        have HTT := Shh.mk (show T.data.toList = y.data.toList ++ [10] by rw [← hT, txt_list])
        rw [hT]
        have HB2 := Shh.mk (HB.out.trans (hb2'.mono hbs))
        have HI2 := Shh.mk (hB.out.kept hb2')
        clear hb2 hb2' hT ck
        go_wp2_with fail
        refine (writeString_any V.heap.size V.heap.size L T _ HI2.out (by omega) HB2.out.size).mono ?_
        rw [HTT.out, ← HE.out]
        rintro e w3 ⟨rfl, hi3, hb3⟩
        have HB3 := Shh.mk (HB2.out.trans hb3)
        have HI3 := Shh.mk hi3
        clear hb3 hi3
        go_wp2
        go_roundw
        case rel => exact ⟨k + 1, by omega, by go_num, HI3, HB3.out⟩
        case measure => simp [intOf]; omega
      · obtain rfl : k = us.length := by omega
        have hz : (lexTo us us.length).length ≤ 1000000000 := by
          have := HLN.out us.length (Nat.le_refl _)
          omega
        have HST := Shh.mk (Try.Builder_String_any V.heap.size V.heap.size (lexTo us us.length) _ hB.out hbs)
        go_wp2_with fail
        refine HST.out.mono ?_
        rintro e w5 ⟨rfl, hb5⟩
        go_wp2
        go_ret
        exact ⟨ret_str HR.out.symm, HBV.out.trans ((hb.trans hb5).mono (Nat.le_of_lt hgV))⟩
end Go.Proofs.Ytagabcddonmdgaa
