/-
  Placements: the tiles that a play places: the model's l12Placed, PlacedTiles of the model.
-/
import Derived.Test.YtmkdbahdhobdjaaDoorFR
import Derived.Test.YtmkdbahdhobdjaaDoorO1
import Derived.Test.YtmkdbahdhobdjaaDoorO2
import Derived.Test.YtmkdbahdhobdjaaDoorD5
import Derived.Deep.RegionHeld3
namespace Go.Proofs.YtmkdbahdhobdjaaDoor
open Go.RowKit Go.Deep

/-- A byte more on a row of the call's own, as a step of a region that draws. -/
theorem step_append_P {ops : Array Oper} {o : Oper} {a : Act} {K : Act → World → Prop} {Q : Exit → Act → World → Prop} {E : Prop} {B : Nat} {W : World} (hgd : o.guard = none) (s x : Operand)
    (ho : o.op = .call { callee := .builtin .append, args := #[s, x], argTypes := #[79, 79] })
    (v : Value) (l : List UInt8) (c : UInt8) (hs : a.eval s = v) (hx : a.eval x = .slice (some ⟨W.heap.size, 0, none⟩) 1 1)
    (hown : OwnB B W v l) (hlen : l.length ≤ 1000) (hB : B ≤ W.heap.size)
    (h : ∀ v' w', OwnB B w' v' (l ++ [c]) → (∀ w0, Below B w0 W → Below B w0 w') → K (a.put o.dst v') w') :
    if Region.wanted o (yielded ops a.tmps) = true then Oper.wp Tryd.prog o a (W.alloc (.cells #[.int .u8 (c.toNat : Int)] 5)) K Q else E := by
  obtain ⟨i0, hi, hz0, hz1, hz2⟩ := info_parts info8Q
  refine step_append_lies _ hgd s x 79 ho B 5 i0 (.int .u8 0) 1 1 Tryd.underlying79 hi hz0 hz1 hz2 rfl (by decide) v l.length (Lib.byteCells l) hs (World.ownsRow.alloc hown _) ⟨W.heap.size, 0, none⟩ 1 1 [.int .u8 (c.toNat : Int)] hx rfl ?_ ?_ (by decide) ?_ ?_ ?_ _ rfl ?_
  · exact cell_one_new _ _ _
  · intro u hu; simp at hu; subst hu; rfl
  · simp [maxLen]; omega
  · omega
  · simp; omega
  · intro g cap w' ho' hg _ _
    refine h _ w' ?_ fun w0 h0 => (h0.alloc hB _).grown hg (by simp; omega) (own_blockQ hown)
    unfold OwnB
    rw [← byte_cells_snoc, List.length_append]
    exact ho'
/-- The letters on the fresh places. -/
def plcL (s : ByteArray) (fr : List Nat) : List UInt8 := fr.map (atB s)
theorem plcL_take {s : ByteArray} {fr : List Nat} {j : Nat} (h : j < fr.length) : plcL s (fr.take (j + 1)) = plcL s (fr.take j) ++ [atB s fr[j]] := by
  unfold plcL
  rw [List.take_succ_eq_append_getElem h, List.map_append]
  rfl
theorem own_slice {B : Nat} {w : World} {v : Value} {l : List UInt8} (h : OwnB B w v l) : ∃ a cap, v = .slice a l.length cap := by
  rcases h.2 with ⟨rfl, h0⟩ | ⟨g, cap, cur, rfl, _⟩
  · exact ⟨none, 0, by rw [h0]⟩
  · exact ⟨_, _, rfl⟩
set_option maxRecDepth 100000 in
set_option maxHeartbeats 4000000 in
theorem l12Placed_any {g N A B : Nat} {P' f s : ByteArray} (W : World) (h5 : 5 ≤ N) (h15 : N ≤ 15) (hf : f.size = N * N) (hA : A < N) (hn : B + s.size ≤ N) (hne : frL f (A * N + B) s.size ≠ []) (hg : Blk W g 27 #[.int .i64 (N : Int), .string P', .string f]) :
    Calls Tryd.prog 75 #[.pointer (some ⟨g, 0, none⟩), .agg #[.int .i64 (A : Int), .int .i64 (B : Int), .bool false, .string s]] W fun e w' => e = .returned (.string ⟨(plcL s (frL f (A * N + B) s.size)).toArray⟩) ∧ Below W.heap.size W w' := by
  have hA0 : Below W.heap.size W (W.alloc (.cells #[.int .i64 (A : Int), .int .i64 (B : Int), .bool false, .string s] 44)) := (Below.refl _ _).alloc (Nat.le_refl _) _
  have g1 := hg.alloc (.cells #[.int .i64 (A : Int), .int .i64 (B : Int), .bool false, .string s] 44)
  have q1 := Blk.made W 44 #[.int .i64 (A : Int), .int .i64 (B : Int), .bool false, .string s]
  obtain ⟨w0, hw0⟩ : ∃ w0, W.alloc (.cells #[.int .i64 (A : Int), .int .i64 (B : Int), .bool false, .string s] 44) = w0 := ⟨_, rfl⟩
  rw [hw0] at hA0 g1 q1
  have HC := ShO.mk (l12Fresh_any (g := g) (N := N) (A := A) (B := B) (P' := P') (f := f) (s := s) w0 h5 h15 hf hA hn g1)
  have Q := ShO.mk q1
  have B0 := ShO.mk hA0
  have c0 := q1.cells
  have hs15 : s.size ≤ 15 := by omega
  have HMEM := ShO.mk (show ∀ i ∈ frL f (A * N + B) s.size, i < s.size from fun i hi => (frL_mem.1 hi).1)
  have HLN := ShO.mk (Nat.le_trans (frL_len f (A * N + B) s.size) hs15)
  obtain ⟨fr, hfr⟩ : ∃ fr, frL f (A * N + B) s.size = fr := ⟨_, rfl⟩
  rw [hfr] at HC HMEM HLN hne ⊢
  have HNE := ShO.mk (List.length_pos_iff.2 hne)
  clear g1 q1 hA0 hg hf h5 h15 hA hn hfr hne
  go_enter Tryd.func75, Tryd.ntmps75
  go_wp2_with fail
  (try rw [hw0])
  clear hw0 c0
  refine HC.out.mono ?_
  rintro e w1 ⟨lv, rfl, hrow, hb1⟩
  obtain ⟨la, lc, rfl, -, -, hcell⟩ := hrow.form
  obtain ⟨lg, rfl, -, hlg, hcell⟩ := hcell HNE.out
  have HCELL := ShO.mk hcell
  have HLG := ShO.mk hlg
  have B1 := ShO.mk (B0.out.trans (hb1.mono B0.out.size))
  have Q1 := ShO.mk (Q.out.kept hb1 Q.out.lt)
  have HQL := ShO.mk Q1.out.lt
  clear hrow hcell hlg hb1
  go_wp2
  go_loopw [6, 7] (fun v i wr => ∃ (j : Nat), j ≤ fr.length ∧ i = .int .i64 (j : Int) ∧ ShO (OwnB w1.heap.size wr v (plcL s (fr.take j))) ∧ ShO (Below w1.heap.size w1 wr))
    (fun _ i _ => fr.length - (intOf i).toNat)
  case atStart => exact ⟨0, Nat.zero_le _, rfl, ⟨World.ownsRow_lit w1 _ 0 (Nat.le_refl _) (by unfold maxLen; omega) rfl⟩, ⟨(Below.refl _ _).alloc (Nat.le_refl _) _⟩⟩
  case round =>
    obtain ⟨j, hj, rfl, ho, hbw⟩ := hrel
    have hln := HLN.out
    by_cases hlt : j < fr.length
    · obtain ⟨i, hi⟩ : ∃ i, fr[j] = i := ⟨_, rfl⟩
      have hin : i < s.size := HMEM.out i (by rw [← hi]; exact List.getElem_mem hlt)
      have HTK := ShO.mk (plcL_take (s := s) hlt)
      rw [hi, atB_get hin] at HTK
      obtain ⟨x, hx⟩ : ∃ x, s[i] = x := ⟨_, rfl⟩
      rw [hx] at HTK
      have HK := ShO.mk (show ∀ w', Below w1.heap.size wr w' → w'.cell? ⟨W.heap.size, 3, none⟩ = some (.string s) ∧ w'.cell? ⟨lg, j, none⟩ = some (.int .i64 (i : Int)) from fun w' hb => by
        have hb' := hbw.out.trans hb
        refine ⟨(Q1.out.kept hb' HQL.out).cells 3, ?_⟩
        rw [World.cell?_of_block (hb'.block lg HLG.out), HCELL.out j hlt, hi])
      have HTL := ShO.mk (show (plcL s (fr.take j)).length ≤ 1000 by unfold plcL; rw [List.length_map, List.length_take]; omega)
      have HBZ := ShO.mk hbw.out.size
      have hi0 : (0 : Int) ≤ (i : Int) := by omega
      have hi1 : (i : Int) < (s.size : Int) := by omega
      have hj0 : (0 : Int) ≤ (j : Int) := by omega
      have hj1 : (j : Int) < (fr.length : Int) := by omega
      have HLT := ShO.mk hlt
      have HBW := ShO.mk hbw.out
      clear hi hbw
      obtain ⟨va, vc, rfl⟩ := own_slice ho.out
      obtain ⟨L, hL⟩ : ∃ L, plcL s (fr.take j) = L := ⟨_, rfl⟩
      rw [hL] at HTK HTL ho
      rw [hL]
      obtain ⟨ln, hln2⟩ : ∃ ln, L.length = ln := ⟨_, rfl⟩
      rw [hln2]
      clear hL
      have HO := ShO.mk ho.out
      rw [hln2] at HO
      clear ho
      go_wp2
      go_region_held3 (fun w' => w'.cell? ⟨W.heap.size, 3, none⟩ = some (.string s) ∧ w'.cell? ⟨lg, j, none⟩ = some (.int .i64 (i : Int)))
        (exact HK.out _ (by first | exact (Below.refl _ _).drew | exact (Below.refl _ _).drew.alloc HBZ.out _ | exact hb4 _ (Below.refl _ _).drew | exact hb4 _ (Below.refl _ _)))
        (first | (refine step_append_P (B := w1.heap.size) (by rfl) _ _ (by rfl) (.slice va ln vc) L x (by rfl) (by rfl) (show OwnB w1.heap.size wr.drew (.slice va ln vc) L from HO.out) HTL.out HBZ.out ?_; intro v' w4 ho4 hb4))
      all_goals
        have O4 := ShO.mk ho4
        have B4 := ShO.mk (HBW.out.trans (hb4 wr (Below.refl _ _).drew))
        clear ho4 hb4 HK
        go_wp2
        go_roundw
        case rel => exact ⟨j + 1, HLT.out, by go_num, ⟨by rw [HTK.out]; exact O4.out⟩, B4⟩
        case measure => simp [intOf]; have := HLT.out; omega
    · obtain rfl : j = fr.length := by omega
      have hcv := conv_rowQ ho.out
      rw [List.take_length] at hcv
      have HBW := ShO.mk (B1.out.trans (hbw.out.mono B1.out.size))
      clear ho hbw
      go_wp2
      go_ret
      exact ⟨rfl, HBW.out⟩
end Go.Proofs.YtmkdbahdhobdjaaDoor
