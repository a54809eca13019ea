/-
  The line of a node: the program's.
  The line of a node: the program's answer, whole.
-/
import Derived.Test.YtabbpnafkgljcaaDoorWH
import Derived.Test.YtabbpnafkgljcaaDoorVO
import Derived.Test.YtabbpnafkgljcaaDoorP0
import Derived.Deep.RegionHeld3
import Derived.Deep.AppendLies
import Derived.Lib.LaidTab
import Derived.Lib.ItoaLen
namespace Go.Proofs.YtabbpnafkgljcaaDoor
open Go.RowKit

/-- The table of powers that the library's numerals read. -/
def TabW (w : World) : Prop := Shh (Lib.TabIs Tryd.prog w "internal/strconv.uint64pow10" .u64 Lib.pow10Tab)
theorem TabW.on {w w' : World} (h : TabW w) (hb : Below w.heap.size w w') : TabW w' := ⟨Lib.tabBelow_of_tabIs h.out w' hb⟩
theorem info_strW : (Tryd.prog.info? 9).map (fun i => (i.zero, i.size, i.bytes)) = some (some (.string ByteArray.empty), 1, 16) := by kernel_rfl
theorem step_append_str {ops : Array Oper} {o : Oper} {a : Act} {K : Act → World → Prop} {Q : Exit → Act → World → Prop} {E : Prop} {B H : Nat} {W : World} (hgd : o.guard = none) (s x : Operand)
    (ho : o.op = .call { callee := .builtin .append, args := #[s, x], argTypes := #[28, 28] })
    (u : Value) (ss : List ByteArray) (c : ByteArray) (hs : a.eval s = u) (hx : a.eval x = .slice (some ⟨H, 0, none⟩) 1 1) (hH : W.heap.size = H)
    (hown : OwnS B W u ss) (n : Nat) (hn : ss.length = n) (hlen : n ≤ 1000000) (hB : B ≤ W.heap.size)
    (h : ∀ g cap w', OwnS B w' (.slice (some ⟨g, 0, none⟩) (n + 1) cap) (ss ++ [c]) → Below B W w' → K (a.put o.dst (.slice (some ⟨g, 0, none⟩) (n + 1) cap)) w') :
    if Region.wanted o (yielded ops a.tmps) = true then Oper.wp Tryd.prog o a (W.alloc (.cells #[.string c] 9)) K Q else E := by
  subst hn hH
  obtain ⟨i0, hi, hz0, hz1, hz2⟩ := info_parts info_strW
  refine step_append_lies _ hgd s x 28 ho B 9 i0 (.string ByteArray.empty) 1 16 Tryd.underlying28 hi hz0 hz1 hz2 rfl (by decide) u ss.length (ss.map Value.string) hs (World.ownsRow.alloc hown _) ⟨W.heap.size, 0, none⟩ 1 1 [.string c] hx rfl (cell_one_new _ _ _) ?_ (by decide) ?_ ?_ (by simp; omega) _ rfl ?_
  · intro y hy; simp at hy; subst hy; rfl
  · simp [maxLen]; omega
  · omega
  · intro g cap w' ho' hg hl _
    refine h g cap w' ?_ (((Below.refl B W).alloc hB _).grown hg (by simp; omega) (own_block hown))
    unfold OwnS
    rw [List.map_append, List.length_append]
    exact ho'
theorem join_longW : ∀ (l : List (List UInt8)), l.length ≤ (Lib.join l [32]).length + 1
  | [] => by simp
  | [x] => by simp
  | x :: y :: r => by
    have ih := join_longW (y :: r)
    have e : Lib.join (x :: y :: r) [32] = x ++ [32] ++ Lib.join (y :: r) [32] := by first | rfl | simp [Lib.join]
    rw [e]
    simp only [List.length_append, List.length_cons, List.length_nil] at ih ⊢
    omega
theorem join_strsW {v : Value} {xs : List ByteArray} {T : List UInt8} (W : World) (h : Strs W v xs) (h0 : 0 < xs.length) (hT : Lib.join (xs.map (·.data.toList)) [32] = T) (hlen : T.length ≤ 1000000000) :
    Calls Tryd.prog 166 #[v, .string ⟨#[32]⟩] W fun e w' => e = .returned (.string (txt T)) ∧ Below W.heap.size W w' := by
  subst hT
  obtain ⟨a, cap, rfl, h1, h2, h3⟩ := h
  obtain ⟨b, off, rfl, h4, h5⟩ := h3 h0
  by_cases hn : xs.length ≤ 140737488355328
  · exact Tryd.strings_Join b off cap xs ⟨#[32]⟩ W (fun j x hj => by
      have hjl : j < xs.length := by
        rcases Nat.lt_or_ge j xs.length with h | h
        · exact h
        · rw [List.getElem?_eq_none h] at hj; cases hj
      rw [h5 j hjl]
      unfold strAt
      rw [List.getD_eq_getElem?_getD, hj]
      rfl) h4 hn h1 (Nat.le_trans hlen (by decide))
  · exfalso
    have := join_longW (xs.map (·.data.toList))
    simp only [List.length_map] at this
    omega
set_option maxHeartbeats 1000000 in
theorem lineOfW {v : Value} {xs : List ByteArray} {T : List UInt8} (W : World) (h : Strs W v xs) (h0 : 0 < xs.length) (hT : Lib.join (xs.map (·.data.toList)) [32] = T) (hlen : T.length ≤ 1000000000) :
    Calls Tryd.prog 150 #[v] W fun e w' => e = .returned (.string (txt (T ++ [10]))) ∧ Below W.heap.size W w' := by
  have HJ := Shh.mk (join_strsW W h h0 hT hlen)
  have hz : (txt T).size ≤ 1000000000 := by rw [txt_size]; exact hlen
  have hcat : txt T ++ (⟨#[10]⟩ : ByteArray) = txt (T ++ [10]) := by
    apply Go.WideShapes.bytes_inj
    simp [txt]
  obtain ⟨a, cap, rfl, -⟩ := h
  obtain ⟨TT, hTT⟩ : ∃ TT, txt T = TT := ⟨_, rfl⟩
  rw [hTT] at HJ hz hcat
  have HCAT := Shh.mk hcat
  clear hTT hcat
  go_enter Tryd.func150, Tryd.ntmps150
  go_wp2_with fail
  refine HJ.out.mono ?_
  rintro e w1 ⟨rfl, hb1⟩
  go_wp2
  go_ret
  exact ⟨congrArg (fun x => Ending.returned (.string x)) HCAT.out, hb1⟩
end Go.Proofs.YtabbpnafkgljcaaDoor

namespace Go.Proofs.YtabbpnafkgljcaaDoor
open Go.RowKit

theorem one_letter {ls : ByteArray} {k : Nat} (h : k < ls.size) : (ls.extract k (k + 1)).data.toList = [ls.data.toList.getD k 0] := by
  have hl : k < ls.data.toList.length := by rw [list_size]; exact h
  rw [show (ls.extract k (k + 1)).data.toList = (ls.data.toList.take (k + 1)).drop k by simp [ByteArray.data_extract, List.extract_eq_take_drop, List.drop_take], List.take_succ_eq_append_getElem hl, List.drop_append_of_le_length (by simp; omega), List.drop_of_length_le (by simp; omega), List.getD_eq_getElem?_getD, List.getElem?_eq_getElem hl]
  rfl
theorem lit_row1 (w : World) (s : ByteArray) : OwnS w.heap.size (w.alloc (.cells #[.string s] 9)) (.slice (some ⟨w.heap.size, 0, none⟩) 1 1) [s] :=
  World.ownsRow_lit w #[.string s] 1 (Nat.le_refl _) (by unfold maxLen; omega) rfl

set_option maxRecDepth 100000 in
set_option maxHeartbeats 4000000 in
theorem line_any {f : Bool} {ls : ByteArray} {ns : List Int} {u : Value} (W : World) (hT : TabW W) (hu : Ints .i64 W u ns) (hl : ls.size = ns.length) (hfew : ns.length ≤ 3000) (hnat : ∀ z ∈ ns, 0 ≤ z ∧ z ≤ 3000) :
    Calls Tryd.prog 119 #[.agg #[.bool f, .string ls, u]] W fun e w' => e = .returned (.string (txt (lineW ⟨f, ls, ns⟩))) ∧ Below W.heap.size W w' := by
  have HT := Shh.mk (hT.on ((Below.refl _ _).alloc (Nat.le_refl _) (.cells #[.bool f, .string ls, u] 50)))
  have HL := Shh.mk hl
  have HNAT := Shh.mk hnat
  have HBD := Shh.mk (Blk.made W 50 #[.bool f, .string ls, u])
  have HU := Shh.mk (hu.alloc (.cells #[.bool f, .string ls, u] 50))
  have hul := hu.len
  obtain ⟨ua, uc, rfl, -⟩ := hu
  have HSTART := fun s => Shh.mk (show OwnS (W.heap.size + 1) ((W.alloc (.cells #[.bool f, .string ls, .slice ua ns.length uc] 50)).alloc (.cells #[.string s] 9)) (.slice (some ⟨W.heap.size + 1, 0, none⟩) 1 1) [s] from by
    have h := lit_row1 (W.alloc (.cells #[.bool f, .string ls, .slice ua ns.length uc] 50)) s
    rw [World.size_alloc] at h
    exact h)
  clear hT hl hnat
  cases f
  case' false =>
    have HS0 := Shh.mk (show OwnS (W.heap.size + 1) _ (.slice (some ⟨W.heap.size + 1, 0, none⟩) 1 1) ((wordsW ⟨false, ls, ns⟩ 0).map txt) from (HSTART ⟨#[45]⟩).out)
    obtain ⟨f, hf⟩ : ∃ f : Bool, f = false := ⟨_, rfl⟩
    clear HSTART
    go_enter Tryd.func119, Tryd.ntmps119
    go_wp2
    rw [← hf] at HBD HU HT
  case' true =>
    have HS0 := Shh.mk (show OwnS (W.heap.size + 1) _ (.slice (some ⟨W.heap.size + 1, 0, none⟩) 1 1) ((wordsW ⟨true, ls, ns⟩ 0).map txt) from (HSTART ⟨#[43]⟩).out)
    obtain ⟨f, hf⟩ : ∃ f : Bool, f = true := ⟨_, rfl⟩
    clear HSTART
    go_enter Tryd.func119, Tryd.ntmps119
    go_wp2
    rw [← hf] at HBD HU HT
  all_goals
    go_loopw [3, 4, 5, 14] (fun s _ _ z wr => ∃ k : Nat, k ≤ ns.length ∧ z = .int .i64 k ∧ Shh (OwnS (W.heap.size + 1) wr s ((wordsW ⟨f, ls, ns⟩ k).map txt)) ∧ Below (W.alloc (.cells #[.bool f, .string ls, .slice ua ns.length uc] 50)).heap.size (W.alloc (.cells #[.bool f, .string ls, .slice ua ns.length uc] 50)) wr) (fun _ _ _ z _ => ns.length - (intOf z).toNat)
    case atStart => exact ⟨0, Nat.zero_le _, rfl, by rw [hf]; exact HS0, by rw [hf]; exact (Below.refl _ _).alloc (Nat.le_refl _) _⟩
    case round =>
      obtain ⟨k, hkl, rfl, ho, hb⟩ := hrel
      have HF := Shh.mk hf
      clear HS0 hf
      have hB1 : W.heap.size + 1 ≤ wr.heap.size := by have := hb.size; simpa using this
      have c1 : wr.cell? ⟨W.heap.size, 1, none⟩ = some (.string ls) := (HBD.out.kept hb (by simp)).cells 1
      by_cases hk : k < ns.length
      · obtain ⟨a2, cap2, e2, h3, h4, h5, h6⟩ := HU.out
        obtain ⟨bu, ou, rfl, hbu, hcu⟩ := h5 (by omega)
        simp only [Value.slice.injEq] at e2
        obtain ⟨rfl, -, rfl⟩ := e2
        have cu := (hb.cell (p := ⟨bu, ou + k, none⟩) hbu).trans (hcu k hk)
        have hzz : 0 ≤ ns.getD k 0 ∧ ns.getD k 0 ≤ 3000 := by rw [List.getD_eq_getElem?_getD, List.getElem?_eq_getElem hk]; exact HNAT.out _ (List.getElem_mem hk)
        obtain ⟨z, hz⟩ : ∃ z, ns.getD k 0 = z := ⟨_, rfl⟩
        rw [hz] at cu hzz
        have hkl2 : k < ls.size := by have := HL.out; omega
        obtain ⟨E, hE⟩ : ∃ E, ls.extract k (k + 1) = E := ⟨_, rfl⟩
        obtain ⟨X, hX⟩ : ∃ X, txt (Lib.itoa z) = X := ⟨_, rfl⟩
        have hEl : E.data.toList = [ls.data.toList.getD k 0] := by rw [← hE]; exact one_letter hkl2
        have hEs : E.size = 1 := by rw [← list_size, hEl]; rfl
        have hXs : X.size ≤ 21 := by rw [← hX, txt_size]; exact Lib.itoa_length_le z (by omega) (by omega)
        have HDEC := Shh.mk (fun w1 (hb1 : Below wr.heap.size wr w1) => show Calls Tryd.prog 149 #[.int .i64 z] w1 (fun e w' => e = .returned (.string X) ∧ Below wr.heap.size wr w') from by
          refine (implDecimal_any z (by omega) (by omega) w1 ((HT.out.on (hb.trans (hb1.mono (by simpa using hB1)))).out)).mono ?_
          rintro e w' ⟨rfl, hb2⟩
          exact ⟨by rw [← hX]; rfl, hb1.trans (hb2.mono hb1.size)⟩)
        have HW := Shh.mk (show (wordsW ⟨f, ls, ns⟩ (k + 1)).map txt = (wordsW ⟨f, ls, ns⟩ k).map txt ++ [E ++ X] from by
          rw [wordsW_succ, List.map_append]
          congr 1
          simp only [List.map_cons, List.map_nil, List.cons.injEq, and_true]
          unfold wordW
          apply Go.WideShapes.bytes_inj
          rw [ByteArray.data_append, Array.toList_append, hEl, ← hX]
          simp only [hz]
          simp [txt])
        have K := Shh.mk (fun w' (hb' : Below (W.alloc (.cells #[.bool f, .string ls, .slice (some ⟨bu, ou, none⟩) ns.length uc] 50)).heap.size (W.alloc (.cells #[.bool f, .string ls, .slice (some ⟨bu, ou, none⟩) ns.length uc] 50)) w') => show w'.cell? ⟨W.heap.size, 1, none⟩ = some (.string ls) from (HBD.out.kept hb' (by simp)).cells 1)
        obtain ⟨oa, oc, rfl, -⟩ := own_form ho.out
        have hwl : ((wordsW ⟨f, ls, ns⟩ k).map txt).length = k + 1 := by simp [wordsW]
        have HO := ho
        have HWL := Shh.mk hwl
        rw [hwl]
        rw [hwl] at HO
        obtain ⟨SS, hSS⟩ : ∃ SS, (wordsW ⟨f, ls, ns⟩ k).map txt = SS := ⟨_, rfl⟩
        rw [hSS] at HO HW HWL
        have hlk : (k : Int) + 1 ≤ (ls.size : Int) := by omega
        have hwr : IntKind.i64.wrap ((k : Int) + 1) = (k : Int) + 1 := IntWalk.i64_in _ (by omega)
        have hlo : (0 : Int) ≤ (k : Int) + 1 := by omega
        have hup : (k : Int) ≤ (k : Int) + 1 := by omega
        have hnn : ((k : Int) + 1).toNat = k + 1 := by omega
        have hmx : ¬ 9223372036854775807 < E.size + X.size := by omega
        clear ho hwl hSS hz hX hEl h5 h6 hcu h3 h4 hEs hXs
        have HBS := Shh.mk hb.size
        have HSB := Shh.mk (World.size_alloc W (.cells #[.bool f, .string ls, .slice (some ⟨bu, ou, none⟩) ns.length uc] 50))
        have hk9 : k + 1 ≤ 1000000 := by omega
        go_wp2_with fail
        go_region_held3 (fun w' => w'.cell? ⟨W.heap.size, 1, none⟩ = some (.string ls))
          (first | exact K.out _ hb.drew | exact K.out _ (hb.trans (hb2.mono HBS.out)) | exact K.out _ ((hb.trans (hb2.mono HBS.out)).alloc (Nat.le_trans HBS.out hb2.size) _) | exact K.out _ HB4.out)
          (first
            | (go_at_call 149; with_reducible refine (HDEC.out _ (by first | exact Below.refl _ _ | exact (Below.refl _ _).drew)).mono ?_; rintro e w2 ⟨rfl, hb2⟩)
            | (refine step_append_str (B := W.heap.size + 1) (by rfl) _ _ (by rfl) (.slice oa (k + 1) oc) SS (E ++ X) (by rfl) (by rfl) (by rfl) (own_kept HO.out hb2) (k + 1) HWL.out hk9 (Nat.le_trans hB1 hb2.size) ?_; intro g4 c4 w4 ho4 hb4; have HB4 := Shh.mk ((hb.trans (hb2.mono HBS.out)).trans (by rw [HSB.out]; exact hb4)); have HO4 := Shh.mk ho4; clear ho4 hb4))
        all_goals
          go_wp2
          go_roundw
          case rel => exact ⟨k + 1, by omega, by go_num, by rw [HW.out]; exact HO4, HB4.out⟩
          case measure => simp [intOf]; omega
      · obtain rfl : k = ns.length := by omega
        have HJ := Shh.mk (lineOfW (T := Lib.join (wordsW ⟨f, ls, ns⟩ ns.length) [32]) wr (OwnS.strs ho.out) (by simp [wordsW]) (by
          rw [List.map_map]
          congr 1
          conv => rhs; rw [← List.map_id (wordsW ⟨f, ls, ns⟩ ns.length)]
          exact List.map_congr_left fun t _ => by simp [txt]) (by
          have h1 := join_bound (b := 22) (wordsW ⟨f, ls, ns⟩ ns.length) (fun w hw => by
            unfold wordsW at hw
            rcases List.mem_cons.1 hw with rfl | hw
            · simp
            · obtain ⟨j, hj, rfl⟩ := List.mem_map.1 hw
              unfold wordW
              have hj2 := List.mem_range.1 hj
              have hzz : 0 ≤ ns.getD j 0 ∧ ns.getD j 0 ≤ 3000 := by rw [List.getD_eq_getElem?_getD, List.getElem?_eq_getElem hj2]; exact HNAT.out _ (List.getElem_mem hj2)
              have := Lib.itoa_length_le (ns.getD j 0) (by omega) (by omega)
              rw [List.length_cons]
              show (Lib.itoa (ns.getD j 0)).length + 1 ≤ 22
              omega)
          have h2 : (wordsW ⟨f, ls, ns⟩ ns.length).length = ns.length + 1 := by simp [wordsW]
          rw [h2] at h1
          have h3 : (ns.length + 1) * (22 + 1) ≤ 3001 * 23 := Nat.mul_le_mul (by omega) (Nat.le_refl _)
          omega))
        have HB := Shh.mk (show Below W.heap.size W wr from ((Below.refl _ _).alloc (Nat.le_refl _) _).trans (hb.mono (by simp)))
        clear ho
        go_wp2_with (go_at_call 150; refine (HJ.out).mono ?_; rintro e w2 ⟨rfl, hb2⟩)
        go_ret
        exact ⟨by have e := HF.out; subst e; rfl, HB.out.trans (hb2.mono HB.out.size)⟩
end Go.Proofs.YtabbpnafkgljcaaDoor
