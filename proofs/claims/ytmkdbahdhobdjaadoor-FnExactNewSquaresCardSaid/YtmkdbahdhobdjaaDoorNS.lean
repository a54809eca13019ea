/-
  Placements: the squares on which a play places tiles: NewSquares of the model.
-/
import Derived.Test.YtmkdbahdhobdjaaDoorFR
import Derived.Test.YtmkdbahdhobdjaaDoorCY
namespace Go.Proofs.YtmkdbahdhobdjaaDoor
open Go.RowKit Go.Deep

/-- A square more on a row of the call's own. -/
theorem wpList_append_sqN {ops : Array Oper} {rest : List Oper} {o : Oper} {a : Act} {Q : Exit → Act → World → Prop} {B H : Nat} {W : World} (hgd : o.guard = none) (s x : Operand)
    (ho : o.op = .call { callee := .builtin .append, args := #[s, x], argTypes := #[47, 47] })
    (v : Value) (ls : List Sq) (c : Sq) (hs : a.eval s = v) (hx : a.eval x = .slice (some ⟨H, 0, none⟩) 1 1) (hc : Blk W H 104 #[.int .i64 c.1, .int .i64 c.2])
    (hown : OwnQ B W v ls) (hlen : ls.length ≤ 1000) (hB : B ≤ W.heap.size)
    (h : ∀ v' w', OwnQ B w' v' (ls ++ [c]) → Below B W w' → wpList Tryd.prog ops Q rest (a.put o.dst v') w') :
    wpList Tryd.prog ops Q (o :: rest) a W := by
  obtain ⟨i0, hi, hz0, hz1, hz2⟩ := info_parts info_sq
  refine wpList_append_lies _ hgd s x 47 ho B 104 i0 (.agg #[.int .i64 0, .int .i64 0]) 2 16 Tryd.underlying47 hi hz0 hz1 hz2 rfl (by decide) v ls.length (sqCells ls) hs hown ⟨H, 0, none⟩ 1 1 [.int .i64 c.1, .int .i64 c.2] hx rfl (World.news_of_block hc) ?_ (by decide) ?_ ?_ hB _ rfl ?_
  · intro u hu
    simp at hu
    rcases hu with rfl | rfl <;> rfl
  · simp [maxLen]; omega
  · omega
  · intro g cap w' ho' hg hl _
    refine h _ w' ?_ ((Below.refl _ _).grown hg hB (fun k hk => (hown.lt k hk).1))
    unfold OwnQ
    rw [List.length_append, sqCells_app]
    exact ho'
theorem OwnQ.made {B : Nat} {w : World} (h : B ≤ w.heap.size) : OwnQ B (w.alloc (.cells #[] 104)) (.slice (some ⟨w.heap.size, 0, none⟩) 0 0) [] :=
  ⟨rfl, .inr ⟨w.heap.size, 0, #[], rfl, h, heap_alloc_new w _, Nat.le_refl _, by simp, rfl, rfl⟩⟩
theorem newL_take {d : Bool} {A B : Nat} {fr : List Nat} {j : Nat} (h : j < fr.length) : newL d A B (fr.take (j + 1)) = newL d A B (fr.take j) ++ [sqOf d A B fr[j]] := by
  unfold newL
  rw [List.take_succ_eq_append_getElem h, List.map_append]
  rfl
theorem OwnQ.keptN {B : Nat} {w w' : World} {v : Value} {ls : List Sq} (h : OwnQ B w v ls) (hb : ∀ g, v.ownBlock = some g → w'.heap[g]? = w.heap[g]?) : OwnQ B w' v ls := by
  refine ⟨h.1, ?_⟩
  rcases h.2 with h | ⟨g, cap, cur, rfl, h2, hg, r⟩
  · exact .inl h
  · exact .inr ⟨g, cap, cur, rfl, h2, (hb g rfl).trans hg, r⟩
def newOut (n : Int) (p c : ByteArray) (r k : Int) (d : Bool) (s : ByteArray) : List Sq × Int :=
  if okPl n p c r k d s = true then (newL d (flR d r k).toNat (flC d r k).toNat (frL (flS d n.toNat c) ((flR d r k).toNat * n.toNat + (flC d r k).toNat) s.size), 0) else ([], 1)
theorem newOut_no {n : Int} {p c s : ByteArray} {r k : Int} {d : Bool} (h : okPl n p c r k d s = false) : newOut n p c r k d s = ([], 1) := by
  unfold newOut
  rw [if_neg (by rw [h]; decide)]
theorem newOut_yes {N A B : Nat} {p c s f : ByteArray} {r k : Int} {d : Bool} (h : Fits N p c r k d s A B f) : newOut (N : Int) p c r k d s = (newL d A B (frL f (A * N + B) s.size), 0) := by
  unfold newOut
  rw [if_pos h.okP, h.r_is, h.k_is, flR_flR, flC_flC, h.f_is]
  simp
set_option maxRecDepth 100000 in
set_option maxHeartbeats 4000000 in
theorem specNewSquares_any (n : Int) (p c s : ByteArray) (r k : Int) (d : Bool) (W : World) (hs : s.size ≤ 1048576) :
    Calls Tryd.prog 31 #[.agg #[.int .i64 n, .string p, .string c], .agg #[.int .i64 r, .int .i64 k, .bool d, .string s]] W fun e w' => ∃ v, e = .returned (.tuple #[v, .int .i64 (newOut n p c r k d s).2]) ∧ OwnQ W.heap.size w' v (newOut n p c r k d s).1 ∧ Below W.heap.size W w' := by
  have b0 := below_two (W := W) (.cells #[.int .i64 n, .string p, .string c] 27) (.cells #[.int .i64 r, .int .i64 k, .bool d, .string s] 44)
  have g0 := (Blk.made W 27 #[.int .i64 n, .string p, .string c]).alloc (.cells #[.int .i64 r, .int .i64 k, .bool d, .string s] 44)
  have q0 := Blk.made (W.alloc (.cells #[.int .i64 n, .string p, .string c] 27)) 44 #[.int .i64 r, .int .i64 k, .bool d, .string s]
  simp only [World.size_alloc] at q0
  have B0 := ShO.mk b0
  have G0 := ShO.mk g0
  have Q0 := ShO.mk q0
  clear b0 g0 q0
  go_enter Tryd.func31, Tryd.ntmps31
  go_wp2_with fail
  refine (l12Ok_any r k d s _ hs G0.out).mono ?_
  rintro e w1 ⟨rfl, hb1⟩
  have B1 := ShO.mk (B0.out.trans (hb1.mono B0.out.size))
  have g1 := G0.out.kept hb1 G0.out.lt
  have q1 := Q0.out.kept hb1 Q0.out.lt
  have c1 := q1.cells
  have HQ1 := ShO.mk q1
  clear hb1
  cases hok : okPl n p c r k d s
  · have HR := ShO.mk (newOut_no hok)
    clear hok g1 q1
    go_wp2
    refine bodyPost_ret (v := .tuple #[.slice none 0 0, .int .i64 1]) (by simp [results, Tryd.results31, go_sem]) rfl ?_
    rw [HR.out]
    exact ⟨_, rfl, OwnQ.nil _ _, B1.out⟩
  · obtain ⟨N, A, B, f, rfl, h5, h15, hp, hc, hz⟩ := okPl_fits hok
    have HR := ShO.mk (newOut_yes hz)
    have e1 : flR d r k = (A : Int) := by rw [hz.r_is, hz.k_is, flR_flR]
    have e2 : flC d r k = (B : Int) := by rw [hz.r_is, hz.k_is, flC_flC]
    have HFL := ShO.mk (fun w hg => l12Flat_any (g := W.heap.size) r k d s w h15 hp hc hg)
    rw [e1, e2, ← hz.f_is] at HFL
    obtain ⟨P', hP'⟩ : ∃ P', flS d N p = P' := ⟨_, rfl⟩
    rw [hP'] at HFL
    have hf := (lay_ok hz hc rfl).2
    have HFRE := ShO.mk (fun g w hg => l12Fresh_any (g := g) (P' := P') w h5 h15 hf hz.hA hz.hn hg)
    have hln := frL_len f (A * N + B) s.size
    have hmem : ∀ i ∈ frL f (A * N + B) s.size, i < s.size := fun i hi => (frL_mem.1 hi).1
    have hne := List.length_pos_iff.2 hz.some
    obtain ⟨fr, hfr⟩ : ∃ fr, frL f (A * N + B) s.size = fr := ⟨_, rfl⟩
    rw [hfr] at HR HFRE hmem hln hne
    have hs15 : s.size ≤ 15 := by have := hz.hn; omega
    have HLN := ShO.mk (show fr.length ≤ 15 by omega)
    have HBI := ShO.mk (show ∀ i ∈ fr, B + i < 15 from fun i hi => by have := hmem i hi; have := hz.hn; omega)
    have HNE := ShO.mk hne
    have G1 := ShO.mk g1
    clear hok hz h5 h15 hp hc g1 q1 e1 e2 hP' hf hmem hln hfr hs15 hne
    go_wp2_with fail
    refine (HFL.out _ G1.out).mono ?_
    rintro e w2 ⟨rfl, hb2⟩
    have b2 := B1.out.trans (hb2.mono B1.out.size)
    have b3 := (b2.alloc b2.size (.cells #[.int .i64 (N : Int), .string P', .string f] 27)).alloc (by have := b2.size; simp; omega) (.cells #[.int .i64 (A : Int), .int .i64 (B : Int), .bool false, .string s] 44)
    have g3 := (Blk.made w2 27 #[.int .i64 (N : Int), .string P', .string f]).alloc (.cells #[.int .i64 (A : Int), .int .i64 (B : Int), .bool false, .string s] 44)
    have q3 := Blk.made (w2.alloc (.cells #[.int .i64 (N : Int), .string P', .string f] 27)) 44 #[.int .i64 (A : Int), .int .i64 (B : Int), .bool false, .string s]
    have d3 := ((HQ1.out.kept hb2 HQ1.out.lt).alloc (.cells #[.int .i64 (N : Int), .string P', .string f] 27)).alloc (.cells #[.int .i64 (A : Int), .int .i64 (B : Int), .bool false, .string s] 44)
    have HW2 := ShO.mk b2.size
    rw [World.size_alloc] at q3
    obtain ⟨w3, hw3⟩ : ∃ w3, (w2.alloc (.cells #[.int .i64 (N : Int), .string P', .string f] 27)).alloc (.cells #[.int .i64 (A : Int), .int .i64 (B : Int), .bool false, .string s] 44) = w3 := ⟨_, rfl⟩
    rw [hw3] at b3 g3 q3 d3
    have B3 := ShO.mk b3
    have G3 := ShO.mk g3
    have Q3 := ShO.mk q3
    have D3 := ShO.mk d3
    have c3 := q3.cells
    clear b2 b3 g3 q3 d3 hb2 c1
    go_wp2_with fail
    (try rw [hw3])
    clear hw3
    refine (HFRE.out _ _ G3.out).mono ?_
    rintro e w4 ⟨lv, rfl, hrow, hb4⟩
    obtain ⟨la, lc, rfl, -, -, hcell⟩ := hrow.form
    obtain ⟨lg, rfl, -, hlg, hcell⟩ := hcell HNE.out
    have HCELL := ShO.mk hcell
    have HLG := ShO.mk hlg
    have B4 := ShO.mk (B3.out.trans (hb4.mono B3.out.size))
    have Q4 := ShO.mk (Q3.out.kept hb4 Q3.out.lt)
    have D4 := ShO.mk (D3.out.kept hb4 D3.out.lt)
    have HQL := ShO.mk Q4.out.lt
    have HDL := ShO.mk D4.out.lt
    clear hrow hcell hlg hb4 c3
    go_wp2
    go_loopw [9, 10, 11] (fun v i _ wr => ∃ (j : Nat), j ≤ fr.length ∧ i = .int .i64 (j : Int) ∧ ShO (OwnQ w4.heap.size wr v (newL d A B (fr.take j))) ∧ ShO (Below w4.heap.size w4 wr))
      (fun _ i _ _ => fr.length - (intOf i).toNat)
    case atStart => exact ⟨0, Nat.zero_le _, rfl, ⟨OwnQ.made (Nat.le_refl _)⟩, ⟨(Below.refl _ _).alloc (Nat.le_refl _) _⟩⟩
    case round =>
      obtain ⟨j, hj, rfl, ho, hbw⟩ := hrel
      have hln := HLN.out
      by_cases hlt : j < fr.length
      · obtain ⟨i, hi⟩ : ∃ i, fr[j] = i := ⟨_, rfl⟩
        have hbi : B + i < 15 := HBI.out i (by rw [← hi]; exact List.getElem_mem hlt)
        have HTK := ShO.mk (newL_take (d := d) (A := A) (B := B) hlt)
        rw [hi] at HTK
        have HBZ := ShO.mk (Below.alloc hbw.out hbw.out.size (.cells #[.int .i64 0, .int .i64 0] 104))
        have z5 := Blk.made wr 104 #[.int .i64 0, .int .i64 0]
        obtain ⟨wz, hwz⟩ : ∃ wz, wr.alloc (.cells #[.int .i64 0, .int .i64 0] 104) = wz := ⟨_, rfl⟩
        rw [hwz] at HBZ z5
        have cq : ∀ m, wz.drew.cell? ⟨w2.heap.size + 1, m, none⟩ = (#[Value.int .i64 (A : Int), Value.int .i64 (B : Int), Value.bool false, Value.string s] : Array Value)[m]? := (Q4.out.kept HBZ.out HQL.out).cells
        have cl : wz.cell? ⟨lg, j, none⟩ = some (.int .i64 (i : Int)) := by
          rw [World.cell?_of_block (HBZ.out.block lg HLG.out), HCELL.out j hlt, hi]
        have cl2 : wz.drew.cell? ⟨lg, j, none⟩ = some (.int .i64 (i : Int)) := cl
        have cq2 : ∀ m, wz.cell? ⟨w2.heap.size + 1, m, none⟩ = (#[Value.int .i64 (A : Int), Value.int .i64 (B : Int), Value.bool false, Value.string s] : Array Value)[m]? := cq
        have cl3 : wr.cell? ⟨lg, j, none⟩ = some (.int .i64 (i : Int)) := by
          rw [World.cell?_of_block (hbw.out.block lg HLG.out), HCELL.out j hlt, hi]
        have cl4 : wr.drew.cell? ⟨lg, j, none⟩ = some (.int .i64 (i : Int)) := cl3
        have cq3 : ∀ m, wr.cell? ⟨w2.heap.size + 1, m, none⟩ = (#[Value.int .i64 (A : Int), Value.int .i64 (B : Int), Value.bool false, Value.string s] : Array Value)[m]? := (Q4.out.kept hbw.out HQL.out).cells
        have cq4 : ∀ m, wr.drew.cell? ⟨w2.heap.size + 1, m, none⟩ = (#[Value.int .i64 (A : Int), Value.int .i64 (B : Int), Value.bool false, Value.string s] : Array Value)[m]? := cq3
        have z5c := z5.cells
        have z5m := z5.marks
        have z5d : ∀ m, wz.drew.cell? ⟨wr.heap.size, m, none⟩ = (#[Value.int .i64 0, Value.int .i64 0] : Array Value)[m]? := z5c
        have z5e : ∀ m, wz.drew.frozen? ⟨wr.heap.size, m, none⟩ = false := z5m
        have hw : IntKind.i64.wrap ((B : Int) + (i : Int)) = ((B + i : Nat) : Int) := by rw [show (B : Int) + (i : Int) = ((B + i : Nat) : Int) by omega]; exact IntWalk.i64_in _ (by omega)
        obtain ⟨b, hb⟩ : ∃ b, ((B + i : Nat) : Int) = b := ⟨_, rfl⟩
        rw [hb] at hw
        have hj0 : (0 : Int) ≤ (j : Int) := by omega
        have hj1 : (j : Int) < (fr.length : Int) := by omega
        have HLT := ShO.mk hlt
        clear hi
        obtain ⟨va, vc, rfl, -⟩ := ho.out.form
        go_wp2
        go_region
        have hb5 : Below wr.heap.size wr (((wz.setCell ⟨wr.heap.size, 0, none⟩ (.int .i64 (A : Int))).setCell ⟨wr.heap.size, 1, none⟩ (.int .i64 b)).drew) := by
          rw [← hwz]
          exact ((((Below.refl _ _).alloc (Nat.le_refl _) _).setCell (p := ⟨wr.heap.size, 0, none⟩) (Nat.le_refl _) _).setCell (p := ⟨wr.heap.size, 1, none⟩) (Nat.le_refl _) _).drew
        have x5 : Blk (((wz.setCell ⟨wr.heap.size, 0, none⟩ (.int .i64 (A : Int))).setCell ⟨wr.heap.size, 1, none⟩ (.int .i64 b)).drew) wr.heap.size 104 #[.int .i64 (A : Int), .int .i64 b] := ((z5.stored 0 _).stored 1 _).drew
        obtain ⟨w5, hw5⟩ : ∃ w5, ((wz.setCell ⟨wr.heap.size, 0, none⟩ (.int .i64 (A : Int))).setCell ⟨wr.heap.size, 1, none⟩ (.int .i64 b)).drew = w5 := ⟨_, rfl⟩
        rw [hw5] at hb5 x5 ⊢
        have HB5 := ShO.mk hb5
        have X5 := ShO.mk x5
        have hbw5 := hbw.out.trans (hb5.mono hbw.out.size)
        have HBW5 := ShO.mk hbw5
        have O5 := ShO.mk (ho.out.kept hb5)
        have D5 := ShO.mk (D4.out.kept hbw5 HDL.out)
        have HZ5 := ShO.mk hbw5.size
        have HLE := ShO.mk (show (newL d A B (fr.take j)).length ≤ 1000 by rw [newL_len, List.length_take]; omega)
        have HSQ := ShO.mk (show sqOf d A B i = (flR d (A : Int) b, flC d (A : Int) b) by unfold sqOf; rw [hb])
        rw [HSQ.out] at HTK
        have HBR := ShO.mk hbw.out.size
        have HBO := ShO.mk (show ∀ g, (Value.slice va (newL d A B (fr.take j)).length vc).ownBlock = some g → g < wr.heap.size from fun g hg => (ownQ_lt ho.out g hg).2)
        obtain ⟨L, hL⟩ : ∃ L, newL d A B (fr.take j) = L := ⟨_, rfl⟩
        rw [hL] at HTK HLE O5 HBO ⊢
        clear hw5 hb5 x5 hbw5 hb hL hwz z5 z5c z5m z5d z5e cl cl2 cl3 cl4 cq cq2 cq3 cq4 hw ho hbw hbi HSQ
        have c5 := X5.out.cells
        have m5 := X5.out.marks
        have k5 := D5.out.cells
        cases d
        · go_wp2_with (at_builtin; refine wpList_append_sqN (B := w4.heap.size) (H := w5.heap.size) rfl _ _ rfl _ L ((A : Int), b) rfl rfl (Blk.made _ _ _) (O5.out.kept ((Below.refl _ _).alloc (Nat.le_refl _) _)) HLE.out (by have := HZ5.out; simp; omega) ?_)
          intro v' w6 hrow hb6
          have hb56 : Below w4.heap.size w5 w6 := ((Below.refl _ _).alloc HZ5.out _).trans hb6
          have O6 := ShO.mk hrow
          have B6 := ShO.mk (HBW5.out.trans hb56)
          obtain ⟨va', vc', rfl, -⟩ := hrow.form
          clear hrow hb6 hb56
          go_wp2
          go_roundw
          case rel => exact ⟨j + 1, HLT.out, by go_num, ⟨by rw [HTK.out]; exact O6.out⟩, B6⟩
          case measure => simp [intOf]; have := HLT.out; omega
        · have x6 := (X5.out.stored 0 (.int .i64 b)).stored 1 (.int .i64 (A : Int))
          have hb6 : Below wr.heap.size w5 ((w5.setCell ⟨wr.heap.size, 0, none⟩ (.int .i64 b)).setCell ⟨wr.heap.size, 1, none⟩ (.int .i64 (A : Int))) := ((Below.refl _ _).setCell (p := ⟨wr.heap.size, 0, none⟩) (Nat.le_refl _) _).setCell (p := ⟨wr.heap.size, 1, none⟩) (Nat.le_refl _) _
          obtain ⟨w6, hw6⟩ : ∃ w6, (w5.setCell ⟨wr.heap.size, 0, none⟩ (.int .i64 b)).setCell ⟨wr.heap.size, 1, none⟩ (.int .i64 (A : Int)) = w6 := ⟨_, rfl⟩
          rw [hw6] at x6 hb6
          have c6 : ∀ m, w6.cell? ⟨wr.heap.size, m, none⟩ = (#[Value.int .i64 b, Value.int .i64 (A : Int)] : Array Value)[m]? := x6.cells
          have HO6 := ShO.mk (show OwnQ w4.heap.size w6 (.slice va L.length vc) L from O5.out.keptN (fun g hg => by
            exact hb6.block g (HBO.out g hg)))
          have HB6 := ShO.mk (HBW5.out.trans (hb6.mono HBR.out))
          have HZ6 := ShO.mk HB6.out.size
          clear x6 hb6
          go_wp2_with (at_builtin; refine wpList_append_sqN (B := w4.heap.size) (H := w6.heap.size) rfl _ _ rfl _ L (b, (A : Int)) rfl rfl (Blk.made _ _ _) (HO6.out.kept ((Below.refl _ _).alloc (Nat.le_refl _) _)) HLE.out (by have := HZ6.out; simp; omega) ?_)
          intro v' w7 hrow hb7
          have hb67 : Below w4.heap.size w6 w7 := ((Below.refl _ _).alloc HZ6.out _).trans hb7
          have O7 := ShO.mk hrow
          have B7 := ShO.mk (HB6.out.trans hb67)
          obtain ⟨va', vc', rfl, -⟩ := hrow.form
          clear hrow hb7 hb67
          go_wp2
          go_roundw
          case rel => exact ⟨j + 1, HLT.out, by go_num, ⟨by rw [HTK.out]; exact O7.out⟩, B7⟩
          case measure => simp [intOf]; have := HLT.out; omega
      · obtain rfl : j = fr.length := by omega
        rw [List.take_length] at ho
        have HO := ShO.mk ho.out
        have HBW := ShO.mk (B4.out.trans (hbw.out.mono B4.out.size))
        have HL := ShO.mk (show OwnQ W.heap.size wr u9 (newL d A B fr) from ⟨ho.out.1, ho.out.2.imp id fun ⟨g, cap, cur, h1, h2, h3⟩ => ⟨g, cap, cur, h1, Nat.le_trans B4.out.size h2, h3⟩⟩)
        obtain ⟨va, vc, rfl, -⟩ := ho.out.form
        clear ho hbw
        go_wp2
        refine bodyPost_ret (v := .tuple #[.slice va (newL d A B fr).length vc, .int .i64 0]) (by simp [results, Tryd.results31, go_sem]) rfl ?_
        rw [HR.out]
        exact ⟨_, rfl, HL.out, HBW.out⟩
end Go.Proofs.YtmkdbahdhobdjaaDoor
