/-
  The program's text of a tile set.
-/
import Derived.Test.YtaipfampkgpnpaaDoorY1
import Derived.Test.YtaipfampkgpnpaaDoorT2
import Derived.Test.YtaipfampkgpnpaaDoorS1
import Derived.Test.YtaipfampkgpnpaaDoorShelfI
import Derived.Deep.AppendLies
import Derived.Lib.LaidTab
namespace Go.Proofs.YtaipfampkgpnpaaDoor
open Go.RowKit

theorem own_blockY {B n : Nat} {e : TypeId} {w : World} {v : Value} {xs : List Value} (h : w.ownsRow B e 1 v n xs) : ∀ k, v.ownBlock = some k → B ≤ k := by
  intro k hk
  rcases h.2 with ⟨rfl, _⟩ | ⟨g, cap, cur, rfl, hB, _⟩
  · simp [Value.ownBlock] at hk
  · simp [Value.ownBlock] at hk
    omega
theorem info_strY : (Tryd.prog.info? 9).map (fun i => (i.zero, i.size, i.bytes)) = some (some (.string ByteArray.empty), 1, 16) := by kernel_rfl
theorem OwnS.keptY {B : Nat} {w w' : World} {v : Value} {ss : List ByteArray} (h : OwnS B w v ss) (hb : Below w.heap.size w w') : OwnS B w' v ss := by
  refine ⟨h.1, ?_⟩
  rcases h.2 with h | ⟨g', cap, cur, h, hg1, hg, r⟩
  · exact .inl h
  · exact .inr ⟨g', cap, cur, h, hg1, (hb.block g' (Array.getElem?_eq_some_iff.1 hg).1).trans hg, r⟩
/-- One string more on a row of the call's own, as a step of a region that draws. -/
theorem step_appendY {ops : Array Oper} {o : Oper} {a : Act} {K : Act → World → Prop} {Q : Exit → Act → World → Prop} {E : Prop} {B : Nat} {W : World} (hgd : o.guard = none) (s x : Operand)
    (ho : o.op = .call { callee := .builtin .append, args := #[s, x], argTypes := #[45, 45] })
    (v : Value) (ss : List ByteArray) (c : ByteArray) (hs : a.eval s = v) (hx : a.eval x = .slice (some ⟨W.heap.size, 0, none⟩) 1 1)
    (hown : OwnS B W v ss) (hlen : ss.length ≤ 1000) (hB : B ≤ W.heap.size)
    (h : ∀ v' w', OwnS B w' v' (ss ++ [c]) → (∀ w0, Below B w0 W → Below B w0 w') → K (a.put o.dst v') w') :
    if Region.wanted o (yielded ops a.tmps) = true then Oper.wp Tryd.prog o a (W.alloc (.cells #[.string c] 9)) K Q else E := by
  obtain ⟨i0, hi, hz0, hz1, hz2⟩ := info_parts info_strY
  refine step_append_lies _ hgd s x 45 ho B 9 i0 (.string ByteArray.empty) 1 16 Tryd.underlying45 hi hz0 hz1 hz2 rfl (by decide) v ss.length (ss.map Value.string) hs (World.ownsRow.alloc hown _) ⟨W.heap.size, 0, none⟩ 1 1 [.string c] hx rfl ?_ ?_ (by decide) ?_ ?_ ?_ _ rfl ?_
  · exact cell_one_new _ _ _
  · intro u hu; simp at hu; subst hu; rfl
  · simp [maxLen]; omega
  · omega
  · simp; omega
  · intro g cap w' ho' hg _ _
    refine h _ w' ?_ fun w0 h0 => (h0.alloc hB _).grown hg (by simp; omega) (own_blockY hown)
    unfold OwnS
    rw [List.map_append, List.length_append]
    exact ho'
theorem append_strY {ops : Array Oper} {rest : List Oper} {o : Oper} {a : Act} {Q : Exit → Act → World → Prop} {B : Nat} {W : World} (hgd : o.guard = none) (s x : Operand)
    (ho : o.op = .call { callee := .builtin .append, args := #[s, x], argTypes := #[45, 45] })
    (v : Value) (ss : List ByteArray) (c : ByteArray) (hs : a.eval s = v) (hx : a.eval x = .slice (some ⟨W.heap.size, 0, none⟩) 1 1)
    (hown : OwnS B W v ss) (hlen : ss.length ≤ 1000) (hB : B ≤ W.heap.size)
    (h : ∀ v' w', OwnS B w' v' (ss ++ [c]) → (∀ w0, Below B w0 W → Below B w0 w') → wpList Tryd.prog ops Q rest (a.put o.dst v') w') :
    wpList Tryd.prog ops Q (o :: rest) a (W.alloc (.cells #[.string c] 9)) := by
  obtain ⟨i0, hi, hz0, hz1, hz2⟩ := info_parts info_strY
  refine wpList_append_own _ hgd s x 45 ho B 9 i0 (.string ByteArray.empty) 1 16 Tryd.underlying45 hi hz0 hz1 hz2 rfl (by decide) v ss.length (ss.map Value.string) hs (World.ownsRow.alloc hown _) ⟨W.heap.size, 0, none⟩ 1 1 [.string c] hx rfl ?_ ?_ ?_ ?_ ?_ ?_
  · exact cell_one_new _ _ _
  · intro u hu; simp at hu; subst hu; rfl
  · simp [maxLen]; omega
  · omega
  · simp; omega
  · intro v' w' ho' hg _
    refine h v' w' ?_ fun w0 h0 => (h0.alloc hB _).grown hg (by simp; omega) (own_blockY hown)
    unfold OwnS
    rw [List.map_append, List.length_append]
    exact ho'

/-! ### The parts, joined -/
def partsTo (L : ByteArray) (zv zc : List Int) (k : Nat) : List ByteArray := (List.range k).map fun i => ⟨(partT L zv zc i).toArray⟩
theorem parts_succ (L : ByteArray) (zv zc : List Int) (k : Nat) : partsTo L zv zc (k + 1) = partsTo L zv zc k ++ [⟨(partT L zv zc k).toArray⟩] := by
  unfold partsTo
  rw [List.range_succ, List.map_append]
  rfl
theorem parts_len (L : ByteArray) (zv zc : List Int) (k : Nat) : (partsTo L zv zc k).length = k := by simp [partsTo]
theorem join_snoc (xs : List (List UInt8)) (y sep : List UInt8) (h : 0 < xs.length) : Lib.join (xs ++ [y]) sep = Lib.join xs sep ++ sep ++ y := by
  cases xs with
  | nil => simp at h
  | cons x r =>
    rw [List.cons_append, Lib.join_cons, Lib.join_cons]
    unfold Lib.joinTail
    simp
theorem parts_join (L : ByteArray) (zv zc : List Int) : ∀ k, 0 < k → Lib.join ((partsTo L zv zc k).map (·.data.toList)) [32] = textTo L zv zc k
  | 0, h => absurd h (by decide)
  | k + 1, _ => by
    rw [parts_succ, List.map_append, List.map_singleton]
    rcases Nat.eq_zero_or_pos k with rfl | hk
    · unfold partsTo textTo textTo
      simp [Lib.join_one]
    · rw [join_snoc _ _ _ (by rw [List.length_map, parts_len]; exact hk), parts_join L zv zc k hk]
      conv => rhs; rw [textTo, if_pos hk]

theorem parts_all_yes {L : ByteArray} {zv zc : List Int} {b : Int} (hb : 0 < b) (h1 : 1 ≤ L.size) {X : ByteArray} (hX : txtY b = X) :
    Lib.join ((partsTo L zv zc L.size ++ [(⟨#[63, 120]⟩ ++ X : ByteArray)]).map (·.data.toList)) [32] = textAll L zv zc b := by
  subst hX
  rw [List.map_append, List.map_singleton, join_snoc _ _ _ (by rw [List.length_map, parts_len]; exact h1), parts_join L zv zc _ h1]
  unfold textAll txtY
  rw [if_pos hb]
  simp
theorem parts_all_no {L : ByteArray} {zv zc : List Int} {b : Int} (hb : ¬ 0 < b) (h1 : 1 ≤ L.size) : Lib.join ((partsTo L zv zc L.size).map (·.data.toList)) [32] = textAll L zv zc b := by
  rw [parts_join L zv zc _ h1]
  unfold textAll
  rw [if_neg hb]
theorem all_lenY {L : ByteArray} {zv zc : List Int} {b : Int} (hn : numsTo zv zc L.size = true) (hb : 0 ≤ b ∧ b ≤ 4) (h26 : L.size ≤ 26) : (textAll L zv zc b).length ≤ 1000 := by
  have h := text_len (L := L) hn L.size (Nat.le_refl _)
  have h2 := itoa_two (y := b) (by omega)
  unfold textAll
  split
  · simp only [List.length_append, List.length_cons, List.length_nil]; omega
  · omega

theorem join_own {B : Nat} {v : Value} {xs : List ByteArray} {T : List UInt8} (W : World) (h : OwnS B W v xs) (h0 : 0 < xs.length) (hn : xs.length ≤ 1000) (hT : Lib.join (xs.map (·.data.toList)) [32] = T) (hlen : T.length ≤ 1000000) :
    Calls Tryd.prog 28 #[v, .string ⟨#[32]⟩] W fun e w' => e = .returned (.string ⟨T.toArray⟩) ∧ Below W.heap.size W w' := by
  subst hT
  obtain ⟨a, cap, rfl, h1, h2, h3⟩ := own_form h
  obtain ⟨g, rfl, h4, h5⟩ := h3 h0
  exact Tryd.strings_Join g 0 cap xs ⟨#[32]⟩ W (fun j x hj => by
    have hjl : j < xs.length := by
      rcases Nat.lt_or_ge j xs.length with h | h
      · exact h
      · rw [List.getElem?_eq_none h] at hj; cases hj
    rw [Nat.zero_add, World.ownsRow.cellAt h j (by omega), List.getElem?_map, hj]
    rfl) h5 (by omega) h1 (Nat.le_trans hlen (by decide))

/-- The table of the powers of ten is as the program laid it. -/
def TabY (w : World) : Prop := ShY (Lib.TabIs Tryd.prog w "internal/strconv.uint64pow10" .u64 Lib.pow10Tab)
theorem TabY.on {w w' : World} (h : TabY w) (hb : Below w.heap.size w w') : TabY w' := ⟨Lib.tabBelow_of_tabIs h.out w' hb⟩
theorem dec_impl (w wr : World) (hT : ShY (Lib.TabIs Tryd.prog w "internal/strconv.uint64pow10" .u64 Lib.pow10Tab)) (hbw : Below w.heap.size w wr) (y : Int) (X : ByteArray) (hX : txtY y = X) (h : 0 ≤ y ∧ y ≤ 20) (w1 : World) (hb : Below wr.heap.size wr w1) :
    Calls Tryd.prog 27 #[.int .i64 y] w1 fun e w' => e = .returned (.string X) ∧ Below wr.heap.size wr w' := by
  subst hX
  refine (implDecimal_any y (by omega) (by omega) w1 (Lib.tabBelow_of_tabIs hT.out w1 (hbw.trans (hb.mono hbw.size)))).mono ?_
  rintro e w' ⟨he, hb'⟩
  exact ⟨he, hb.trans (hb'.mono hb.size)⟩

set_option maxHeartbeats 4000000 in
set_option maxRecDepth 100000 in
theorem implTilesText_yes (L : ByteArray) {vv vc : Value} {zv zc : List Int} (b : Int) (w : World) (hL : L.size ≤ maxLen) (hv : Ints .i64 w vv zv) (hc : Ints .i64 w vc zc)
    (hT : ShY (Lib.TabIs Tryd.prog w "internal/strconv.uint64pow10" .u64 Lib.pow10Tab)) (hok : okT L.data.toList zv zc b = true) :
    Calls Tryd.prog 14 #[.agg #[.string L, vv, vc, .int .i64 b]] w fun e w' => e = .returned (.string ⟨(textAll L zv zc b).toArray⟩) ∧ Below w.heap.size w w' := by
  obtain ⟨h1, h26, hvn, hcn, hb04, hlet, hnum, -⟩ := okT_facts hok
  have HK0 := ShY.mk hok
  have HN := ShY.mk hnum
  have nv1 : zv.length ≤ L.size := by omega
  have nv2 : L.size ≤ zv.length := by omega
  have nc1 : zc.length ≤ L.size := by omega
  have nc2 : L.size ≤ zc.length := by omega
  have hv0 := ShY.mk hv
  have hc0 := ShY.mk hc
  obtain ⟨av, cv, rfl, hvl, hvm, hvi, -⟩ := hv
  obtain ⟨ac, cc, rfl, hcl, hcm, hci, -⟩ := hc
  obtain ⟨bv, ov, rfl, hbv, hcv⟩ := hvi (by omega)
  obtain ⟨bc, oc, rfl, hbc, hcc⟩ := hci (by omega)
  have HCV := ShY.mk hcv
  have HCC := ShY.mk hcc
  unfold maxLen at hvm hcm
  clear hnum hlet hok hcv hcc hvi hci hvn hcn
  go_enter Tryd.func14, Tryd.ntmps14
  go_wp2_with fail
  refine (implValidTiles_any L b _ hL (hv0.out.alloc _) (hc0.out.alloc _)).mono ?_
  rw [HK0.out]
  rintro e w1 ⟨rfl, hb1⟩
  have p1 := ShY.mk ((Blk.made w _ _).kept hb1 (by simp))
  have c1 := p1.out.cells
  have hB1 := ((Below.refl w.heap.size w).alloc (Nat.le_refl _) _).trans (hb1.mono (by simp))
  have k2 : w1.cell? ⟨w.heap.size, 2, none⟩ = some (.slice (some ⟨bc, oc, none⟩) zc.length cc) := c1 2
  clear c1
  go_wp2
  go_loopw [3, 12] (fun v i wr => ∃ k : Nat, k ≤ zc.length ∧ i = .int .i64 k ∧ ShY (OwnS w1.heap.size wr v (partsTo L zv zc k)) ∧ Below w1.heap.size w1 wr) (fun _ i _ => zc.length - (intOf i).toNat)
  case atStart => exact ⟨0, Nat.zero_le _, rfl, ⟨World.ownsRow_nil _ _ _ _⟩, Below.refl _ _⟩
  case round =>
    obtain ⟨k, hk, rfl, ho, hb⟩ := hrel
    have hbw : Below w.heap.size w wr := hB1.trans (hb.mono hB1.size)
    have hBs := p1.out.lt
    by_cases hlt2 : k < zc.length
    · have HK := ShY.mk (fun w' (hq : Below w1.heap.size w1 w') => show w'.cell? ⟨w.heap.size, 0, none⟩ = some (.string L) ∧ w'.cell? ⟨w.heap.size, 1, none⟩ = some (.slice (some ⟨bv, ov, none⟩) zv.length cv) ∧ w'.cell? ⟨bv, ov + k, none⟩ = some (.int .i64 (zv.getD k 0)) from by
        have c := (p1.out.kept hq hBs).cells
        exact ⟨c 0, c 1, ((hB1.trans (hq.mono hB1.size)).cell (p := ⟨bv, ov + k, none⟩) hbv).trans (HCV.out k (by omega))⟩)
      have ec : wr.cell? ⟨bc, oc + k, none⟩ = some (.int .i64 (zc.getD k 0)) := (hbw.cell (p := ⟨bc, oc + k, none⟩) hbc).trans (HCC.out k hlt2)
      have hlt3 : k < L.size := by omega
      have hnb := numB_parts.1 (nums_atY HN.out hlt3)
      have hxl := txtY_two hnb.1
      have hzl := txtY_two (y := zc.getD k 0) (by omega)
      have hps := parts_succ L zv zc k
      have hpl := parts_len L zv zc k
      have hpb := fun E X Z hE hX hZ => part_bytes L (zv := zv) (zc := zc) k hlt3 (E := E) (X := X) (Z := Z) hE hX hZ
      have hel : (L.extract k (k + 1)).size ≤ 1 := by rw [ByteArray.size_extract]; omega
      have hsl := fun (E : ByteArray) hE => sl_Y L k hlt3 (E := E) hE
      obtain ⟨E, hE⟩ : ∃ E, L.extract k (k + 1) = E := ⟨_, rfl⟩
      replace hsl := hsl E hE
      rw [hE] at hel
      obtain ⟨Pt, hPt⟩ : ∃ P', (⟨(partT L zv zc k).toArray⟩ : ByteArray) = P' := ⟨_, rfl⟩
      rw [hPt] at hps hpb
      clear hPt
      obtain ⟨S, hS⟩ : ∃ S, partsTo L zv zc k = S := ⟨_, rfl⟩
      rw [hS] at hps hpl ho
      obtain ⟨y, hy⟩ : ∃ y, zv.getD k 0 = y := ⟨_, rfl⟩
      obtain ⟨z, hz⟩ : ∃ z, zc.getD k 0 = z := ⟨_, rfl⟩
      rw [hy] at HK hnb hxl hpb
      rw [hz] at ec hnb hzl hpb
      obtain ⟨X, hX⟩ : ∃ X, txtY y = X := ⟨_, rfl⟩
      obtain ⟨Z, hZ⟩ : ∃ Z, txtY z = Z := ⟨_, rfl⟩
      rw [hX] at hxl
      rw [hZ] at hzl
      have HPB := ShY.mk (hpb E X Z hE hX hZ)
      have HX := ShY.mk hX
      have HZ := ShY.mk hZ
      have HY1 := ShY.mk hnb.1
      have HZ1 := ShY.mk (show 0 ≤ z ∧ z ≤ 20 by omega)
      have HPS := ShY.mk hps
      clear hpb hX hZ hy hz hps hnb hE hS
      have hk0 : (0 : Int) ≤ (k : Int) := Int.natCast_nonneg _
      have hwk : IntKind.i64.wrap ((k : Int) + 1) = (k : Int) + 1 := IntWalk.i64_in _ (by omega)
      have a1 : ¬ 9223372036854775807 < E.size + X.size := by omega
      have a2 : ¬ 9223372036854775807 < E.size + X.size + 1 := by omega
      have a3 : ¬ 9223372036854775807 < E.size + X.size + 1 + Z.size := by omega
      have hkv : (k : Int) < (zv.length : Int) := by omega
      have hkc : (k : Int) < (zc.length : Int) := by omega
      have HSZ := ShY.mk hb.size
      have HSL := ShY.mk (show S.length ≤ 1000 by omega)
      go_wp2_with fail
      go_region_held3 (fun w' => w'.cell? ⟨w.heap.size, 0, none⟩ = some (.string L) ∧ w'.cell? ⟨w.heap.size, 1, none⟩ = some (.slice (some ⟨bv, ov, none⟩) zv.length cv) ∧ w'.cell? ⟨bv, ov + k, none⟩ = some (.int .i64 y))
        (exact HK.out _ (by first | exact hb.drew | exact hb.trans (Below.mono (by assumption) HSZ.out) | exact (hb.trans (Below.mono (by assumption) HSZ.out)).alloc (Nat.le_trans HSZ.out (Below.size (by assumption))) _ | exact hb4 _ (hb.trans (Below.mono (by assumption) HSZ.out))))
        (first
          | (go_at_call 27; with_reducible refine (dec_impl w wr hT hbw y X HX.out HY1.out _ (by first | assumption | exact (Below.refl _ _).drew)).mono ?_; rintro e w2 ⟨rfl, hb2⟩)
          | (go_at_call 27; with_reducible refine (dec_impl w wr hT hbw z Z HZ.out HZ1.out _ (by first | assumption | exact (Below.refl _ _).drew)).mono ?_; rintro e w3 ⟨rfl, hb3⟩)
          | (refine step_appendY (by rfl) _ _ (by rfl) _ S _ (by rfl) (by rfl) (OwnS.keptY ho.out (by assumption)) HSL.out (Nat.le_trans HSZ.out (Below.size (by assumption))) ?_; intro v' w4 ho4 hb4))
      all_goals
        go_wp2
        go_roundw
        case rel => exact ⟨k + 1, by omega, by go_num, ⟨by rw [HPS.out, ← HPB.out]; exact ho4⟩, hb4 _ (hb.trans (Below.mono (by assumption) hb.size))⟩
        case measure => simp [intOf]; omega
    · have hkL : k = L.size := by omega
      have hlen := all_lenY (L := L) (zv := zv) (zc := zc) (b := b) HN.out hb04 h26
      have hyes := fun X (hX : txtY b = X) hb0 => parts_all_yes (L := L) (zv := zv) (zc := zc) (b := b) hb0 h1 hX
      have hno := fun hb0 => parts_all_no (L := L) (zv := zv) (zc := zc) (b := b) hb0 h1
      have hpl := parts_len L zv zc k
      rw [← hkL] at hyes hno
      obtain ⟨S, hS⟩ : ∃ S, partsTo L zv zc k = S := ⟨_, rfl⟩
      rw [hS] at hyes hno ho hpl
      obtain ⟨TT, hTT⟩ : ∃ T, textAll L zv zc b = T := ⟨_, rfl⟩
      rw [hTT] at hyes hno hlen
      have HTT := ShY.mk (congrArg (fun x : List UInt8 => Ending.returned (.string ⟨x.toArray⟩)) hTT.symm)
      have hBr := (p1.out.kept hb hBs).cells
      have k3 : wr.cell? ⟨w.heap.size, 3, none⟩ = some (.int .i64 b) := hBr 3
      have HSL := ShY.mk (show 0 < S.length ∧ S.length ≤ 900 by omega)
      have HLN := ShY.mk hlen
      clear hS hTT hBr hpl hkL hlen
      by_cases hb0 : 0 < b
      · have hxl := txtY_two (y := b) (by omega)
        obtain ⟨X, hX⟩ : ∃ X, txtY b = X := ⟨_, rfl⟩
        rw [hX] at hxl
        have HX := ShY.mk hX
        have HJ := ShY.mk (hyes X hX hb0)
        clear hX hyes hno
        have a1 : ¬ 9223372036854775807 < 2 + X.size := by omega
        go_wp2_with (first
          | (go_at_call 27; refine (dec_impl w wr hT hbw b X HX.out (by omega) _ (Below.refl _ _)).mono ?_; rintro e w2 ⟨rfl, hb2⟩)
          | (at_builtin; refine append_strY rfl _ _ rfl _ S _ rfl rfl (OwnS.keptY ho.out hb2) (by have := HSL.out; omega) (Nat.le_trans hb.size hb2.size) ?_; intro v' w4 ho4 hb4)
          | (go_at_call 28; refine (join_own w4 ho4 (by simp) (by have := HSL.out; simp; omega) HJ.out (by have := HLN.out; omega)).mono ?_; rintro e w5 ⟨rfl, hb5⟩))
        have hB4 := hb4 _ (hb.trans (hb2.mono hb.size))
        go_ret
        exact ⟨HTT.out, hB1.trans ((hB4.trans (hb5.mono hB4.size)).mono hB1.size)⟩
      · have HJ := ShY.mk (hno hb0)
        clear hyes hno
        go_wp2_with (go_at_call 28; refine (join_own wr ho.out HSL.out.1 (by have := HSL.out; omega) HJ.out (by have := HLN.out; omega)).mono ?_; rintro e w5 ⟨rfl, hb5⟩)
        go_ret
        exact ⟨HTT.out, hB1.trans ((hb.trans (hb5.mono hb.size)).mono hB1.size)⟩

set_option maxHeartbeats 1000000 in
theorem implTilesText_any (L : ByteArray) {vv vc : Value} {zv zc : List Int} (b : Int) (w : World) (hL : L.size ≤ maxLen) (hv : Ints .i64 w vv zv) (hc : Ints .i64 w vc zc)
    (hT : ShY (Lib.TabIs Tryd.prog w "internal/strconv.uint64pow10" .u64 Lib.pow10Tab)) :
    Calls Tryd.prog 14 #[.agg #[.string L, vv, vc, .int .i64 b]] w fun e w' => e = .returned (.string ⟨(textOut L zv zc b).toArray⟩) ∧ Below w.heap.size w w' := by
  cases hok : okT L.data.toList zv zc b
  · have HR := hid (show textOut L zv zc b = [] by simp [textOut, hok])
    have HK := hid hok
    clear hok
    rw [HR.out]
    go_enter Tryd.func14, Tryd.ntmps14
    go_wp2_with fail
    refine (implValidTiles_any L b _ hL (hv.alloc _) (hc.alloc _)).mono ?_
    rw [HK.out]
    rintro e w1 ⟨rfl, hb1⟩
    have hB1 := ((Below.refl w.heap.size w).alloc (Nat.le_refl _) _).trans (hb1.mono (by simp))
    go_wp2
    go_ret
    exact ⟨rfl, hB1⟩
  · rw [show textOut L zv zc b = textAll L zv zc b by simp [textOut, hok]]
    exact implTilesText_yes L b w hL hv hc hT hok

set_option maxHeartbeats 1000000 in
theorem specTilesText_any (L : ByteArray) {vv vc : Value} {zv zc : List Int} (b : Int) (w : World) (hL : L.size ≤ maxLen) (hv : Ints .i64 w vv zv) (hc : Ints .i64 w vc zc) :
    Calls Tryd.prog 12 #[.agg #[.string L, vv, vc, .int .i64 b]] w fun e w' => e = .returned (.string ⟨(textOut L zv zc b).toArray⟩) ∧ Below w.heap.size w w' := by
  cases hok : okT L.data.toList zv zc b
  · have HR := hid (show textOut L zv zc b = [] by simp [textOut, hok])
    have HK := hid hok
    clear hok
    rw [HR.out]
    go_enter Tryd.func12, Tryd.ntmps12
    go_wp2_with fail
    refine (l02Ok_any _ L b _ hL (Blk.made _ _ _) (hv.alloc _) (hc.alloc _)).mono ?_
    rw [HK.out]
    rintro e w1 ⟨rfl, n1, rfl⟩
    go_wp2
    go_ret
    exact ⟨rfl, below_drewN ((Below.refl _ _).alloc (Nat.le_refl _) _) _⟩
  · have HR := hid (show textOut L zv zc b = textAll L zv zc b by simp [textOut, hok])
    have HK := hid hok
    clear hok
    rw [HR.out]
    go_enter Tryd.func12, Tryd.ntmps12
    go_wp2_with fail
    refine (l02Ok_any _ L b _ hL (Blk.made _ _ _) (hv.alloc _) (hc.alloc _)).mono ?_
    rw [HK.out]
    rintro e w1 ⟨rfl, n1, rfl⟩
    go_wp2_with fail
    refine (l02Text_any _ L b _ hL ((Blk.made w _ _).drewN n1) ((hv.alloc _).drewN n1) ((hc.alloc _).drewN n1) HK.out).mono ?_
    rintro e w2 ⟨rfl, hb2⟩
    go_wp2
    go_ret
    exact ⟨rfl, (below_drewN ((Below.refl w.heap.size w).alloc (Nat.le_refl _) (.cells #[.string L, vv, vc, .int .i64 b] 24)) n1).trans (hb2.mono (by show w.heap.size ≤ (w.alloc _).heap.size; simp))⟩

end Go.Proofs.YtaipfampkgpnpaaDoor
