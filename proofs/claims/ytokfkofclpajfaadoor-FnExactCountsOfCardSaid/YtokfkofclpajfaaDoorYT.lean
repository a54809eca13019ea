/-
  CountsOf: the model's and the program's answers; the law's marks on a list of numbers of the call's own.
-/
import Derived.Test.YtokfkofclpajfaaDoorYI
import Derived.Test.YtokfkofclpajfaaDoorYM
import Derived.BigRegion
namespace Go.Proofs.YtokfkofclpajfaaDoor
open Go.RowKit Go.Maps Go.WideMaps

/-! ### Marks -/
def marksI (k n : Nat) : List Int := (List.range n).map fun j => ((k + j : Nat) : Int)
theorem marksI_len (k n : Nat) : (marksI k n).length = n := by simp [marksI]
theorem marksI_ints {B k n : Nat} {w : World} {v : Value} (h : RowI B w v (marksI k n)) (hk : k + n ≤ 4000000000) : Ints .i64 w v (marksI k n) := RowI.ints h fun z hz => by
  obtain ⟨j, hj, rfl⟩ := List.mem_map.1 hz
  have := List.mem_range.1 hj
  exact wf_cnt (by omega)
def markedI (zs : List Int) (k j : Nat) : List Int := marksI k j ++ zs.drop j
theorem markedI_zero (zs : List Int) (k : Nat) : markedI zs k 0 = zs := by simp [markedI, marksI]
theorem markedI_len (zs : List Int) (k : Nat) {j : Nat} (h : j ≤ zs.length) : (markedI zs k j).length = zs.length := by simp [markedI, marksI]; omega
theorem markedI_all (zs : List Int) (k : Nat) : markedI zs k zs.length = marksI k zs.length := by simp [markedI]
theorem markedI_set (zs : List Int) (k : Nat) {j : Nat} (h : j < zs.length) : (markedI zs k j).set j ((k + j : Nat) : Int) = markedI zs k (j + 1) := by
  have e : marksI k (j + 1) = marksI k j ++ [((k + j : Nat) : Int)] := by simp [marksI, List.range_succ]
  unfold markedI
  rw [List.drop_eq_getElem_cons h, e, List.set_append_right _ _ (by rw [marksI_len]; exact Nat.le_refl _), marksI_len, Nat.sub_self, List.append_assoc]
  rfl
set_option maxHeartbeats 2000000 in
theorem markInt_any {B : Nat} {v : Value} {zs : List Int} (k : Nat) (w : World) (h : RowI B w v zs) (hkn : k + zs.length ≤ 4000000000) :
    Calls Tryd.prog 50 #[v, .int .i64 (k : Int)] w fun e w' => e = .returned (.int .i64 ((k + zs.length : Nat) : Int)) ∧ RowI B w' v (marksI k zs.length) ∧ w.grownBy w' v.ownBlock := by
  obtain ⟨a, cap, hv, h1, h2, h3⟩ := own_form h
  unfold maxLen at h2
  have h0 : RowI B w v (markedI zs k 0) := by rw [markedI_zero]; exact h
  obtain ⟨row, hrow⟩ : ∃ row, v.ownBlock = row := ⟨_, rfl⟩
  have HR := Shh.mk hrow
  have HV := Shh.mk hv
  rw [hrow]
  subst hv
  have HH0 := Shh.mk h0
  have HML := Shh.mk (fun {j : Nat} (hj : j ≤ zs.length) => markedI_len zs k hj)
  clear hrow h h0
  go_enter Tryd.func50, Tryd.ntmps50
  go_wp2
  go_loopw [1, 5] (fun x i wr => ∃ j K : Nat, j ≤ zs.length ∧ i = .int .i64 j ∧ x = .int .i64 (K : Int) ∧ Shh (K = k + j) ∧ Shh (RowI B wr (.slice a zs.length cap) (markedI zs k j)) ∧ Shh (w.grownBy wr row)) (fun _ i _ => zs.length - (intOf i).toNat)
  case atStart => exact ⟨0, k, Nat.zero_le _, rfl, rfl, ⟨rfl⟩, HH0, ⟨World.grownBy.refl w _⟩⟩
  case round =>
    obtain ⟨j, K, hj, rfl, rfl, hK, ho, hg⟩ := hrel
    clear HH0
    by_cases hlt : j < zs.length
    · obtain ⟨g, rfl, hBg, hgl⟩ := h3 (by omega)
      have hrr : row = some g := by rw [← HR.out]; rfl
      have hKK := hK.out
      have hK2 : K + 1 ≤ 4000000000 := by omega
      have HK3 := Shh.mk (show K + 1 = k + (j + 1) by omega)
      have ho' := ho.out
      unfold RowI at ho'
      rw [HML.out hj] at ho'
      have cg : ∃ y, wr.cell? ⟨g, j, none⟩ = some y := by
        have h9 := ho'.cellAt j (by omega)
        rw [List.getElem?_map, List.getElem?_eq_getElem (by rw [HML.out hj]; exact hlt)] at h9
        exact ⟨_, h9⟩
      obtain ⟨y, cg⟩ := cg
      have cf := ho'.frozenAt j
      have HS := Shh.mk (show RowI B (wr.setCell ⟨g, j, none⟩ (.int .i64 (K : Int))) (.slice (some ⟨g, 0, none⟩) zs.length cap) (markedI zs k (j + 1)) from by
        unfold RowI
        rw [HML.out (j := j + 1) hlt, ← markedI_set zs k hlt, List.map_set, ← hKK]
        exact (ho'.stored j (.int .i64 (K : Int))).1)
      have HG1 := Shh.mk (show w.grownBy (wr.setCell ⟨g, j, none⟩ (.int .i64 (K : Int))) row from by
        have h9 := hg.out
        rw [hrr] at h9 ⊢
        exact grown_store h9 j _)
      clear ho' hKK hrr
      go_wp2
      go_roundw
      case rel => exact ⟨j + 1, K + 1, by omega, by go_num, by first | rfl | go_num, HK3, HS, HG1⟩
      case measure => simp [intOf]; omega
    · obtain rfl : j = zs.length := by omega
      have HE := hK.out
      have HO := Shh.mk (show RowI B wr (.slice a zs.length cap) (marksI k zs.length) from by rw [← markedI_all]; exact ho.out)
      clear h3
      go_wp2
      go_ret
      exact ⟨by (rw [HE]; try rfl), HO.out, hg.out⟩

/-! ### The contracts -/
noncomputable def countsOut (xs : List Nod) : List Int × Int := if okDw xs = true then (cntL xs, 0) else ([], 1)
theorem countsOut_no {xs : List Nod} (h : okDw xs = false) : countsOut xs = ([], 1) := by unfold countsOut; rw [h]; rfl
theorem countsOut_yes {xs : List Nod} (h : okDw xs = true) : countsOut xs = (cntL xs, 0) := by unfold countsOut; rw [h]; rfl
theorem cntL_wf {xs : List Nod} (h : DawgOk xs) : ∀ z ∈ cntL xs, (Lit.int .i64 z).wf = true := fun z hz => by
  obtain ⟨i, hi, rfl⟩ := List.mem_map.1 hz
  have := h.cnt_few (List.mem_range.1 hi)
  exact wf_cnt (by omega)
theorem countsOut_wf (xs : List Nod) : ∀ z ∈ (countsOut xs).1, (Lit.int .i64 z).wf = true := by
  cases h : okDw xs
  · rw [countsOut_no h]; simp
  · rw [countsOut_yes h]; exact cntL_wf (okDw_of h)
theorem countsOut_len (xs : List Nod) : (countsOut xs).1.length ≤ 3000 := by
  cases h : okDw xs
  · rw [countsOut_no h]; simp
  · rw [countsOut_yes h]
    show (cntL xs).length ≤ 3000
    unfold cntL
    rw [rowN_len]
    exact (okDw_of h).shp.len

set_option maxHeartbeats 2000000 in
theorem specCountsOf_any {vd : Value} {xs : List Nod} (W : World) (hx : Nds W vd xs) :
    Calls Tryd.prog 47 #[.agg #[vd]] W fun e w' => ∃ v, e = .returned (.tuple #[v, .int .i64 (countsOut xs).2]) ∧ Ints .i64 w' v (countsOut xs).1 ∧ Below W.heap.size W w' := by
  have HX := Shh.mk (hx.alloc (.cells #[vd] 29))
  have HBD := Shh.mk (Blk.made W 29 #[vd])
  have H := Shh.mk (l06Ok_any (W.alloc (.cells #[vd] 29)) HBD.out HX.out)
  obtain ⟨b, hb⟩ : ∃ b, okDw xs = b := ⟨_, rfl⟩
  rw [hb] at H
  have HO := Shh.mk hb
  clear hb hx
  cases b
  · rw [countsOut_no HO.out]
    go_enter Tryd.func47, Tryd.ntmps47
    go_wp2_with (go_at_call 65; refine (H.out).mono ?_; rintro e w2 ⟨rfl, hb2⟩; obtain ⟨d0, hB2⟩ := okD_cell hb2; clear hb2)
    go_ret2
    exact ⟨_, rfl, ⟨none, 0, rfl, Nat.le_refl _, Nat.zero_le _, fun h => absurd h (by simp), by simp⟩, hB2⟩
  · have HD := Shh.mk (okDw_of HO.out)
    rw [countsOut_yes HO.out]
    go_enter Tryd.func47, Tryd.ntmps47
    go_wp2_with (first
      | (go_at_call 65; refine (H.out).mono ?_; rintro e w2 ⟨rfl, hb2⟩; obtain ⟨d0, hB2⟩ := okD_cell hb2; have HC := Shh.mk (l07Counts_any w2 (HBD.out.kept hb2 HBD.out.lt) (HX.out.below hb2) HD.out); have HB2 := Shh.mk hB2; clear hb2 hB2)
      | (go_at_call 90; refine (HC.out).mono ?_; rintro e w4 ⟨g, c, rfl, hr4, hb4⟩))
    go_ret2
    exact ⟨_, rfl, RowI.ints hr4 (cntL_wf HD.out), HB2.out.trans (hb4.mono HB2.out.size)⟩

theorem lensN_step {n k : Nat} (c : Nat → Nat) : (lensN n (fun i => if i < k then c i else 0)).set k (c k : Int) = lensN n (fun i => if i < k + 1 then c i else 0) := by
  rw [lensN_set]
  unfold lensN setF
  refine List.map_congr_left fun i _ => ?_
  by_cases h : i = k
  · subst h
    simp
  · have h1 : (i < k) = (i < k + 1) := propext ⟨fun h => by omega, fun h => by omega⟩
    simp [h, h1]
set_option maxRecDepth 100000 in
set_option maxHeartbeats 4000000 in
theorem implCountsOf_any {vd : Value} {xs : List Nod} (W : World) (hT : TabW W) (hx : Nds W vd xs) :
    Calls Tryd.prog 48 #[.agg #[vd]] W fun e w' => ∃ v, e = .returned (.tuple #[v, .int .i64 (countsOut xs).2]) ∧ RowI W.heap.size w' v (countsOut xs).1 ∧ Below W.heap.size W w' := by
  have HB0 := Shh.mk (show Below W.heap.size W (W.alloc (.cells #[vd] 29)) from (Below.refl _ _).alloc (Nat.le_refl _) _)
  have HBD := Shh.mk (Blk.made W 29 #[vd])
  have HX := Shh.mk (hx.alloc (.cells #[vd] 29))
  have H := Shh.mk (rankedDawg_any (W.alloc (.cells #[vd] 29)) (hT.on HB0.out) HX.out)
  obtain ⟨na, nc, rfl, -⟩ := hx
  obtain ⟨b, hb⟩ : ∃ b, okDw xs = b := ⟨_, rfl⟩
  rw [hb] at H
  have HO := Shh.mk hb
  clear hb hT
  cases b
  · rw [countsOut_no HO.out]
    go_enter Tryd.func48, Tryd.ntmps48
    go_wp2_with (go_at_call 91; refine (H.out).mono ?_; rintro e w2 ⟨r, m, rfl, hb2, hno, -⟩; obtain ⟨rfl, rfl⟩ := hno rfl; have HB2 := Shh.mk (HB0.out.trans (hb2.mono HB0.out.size)); clear hb2 hno)
    go_ret2
    exact ⟨_, rfl, RowI.nil _ _, HB2.out.alloc HB2.out.size _⟩
  · have HD := Shh.mk (okDw_of HO.out)
    have hpos := HD.out.shp.pos
    have hlen := HD.out.shp.len
    have hmk := run_make_row' (P := Tryd.prog) 53 2 (.int .i64 0) 8 Tryd.underlying53 info_i64D rfl .i64 .i64 xs.length (by omega) (by omega)
    have hsm := fun i (hi : i < xs.length) => HD.out.cnt_few hi
    have HSM := Shh.mk hsm
    rw [countsOut_yes HO.out]
    clear hsm
    go_enter Tryd.func48, Tryd.ntmps48
    go_wp2_with (go_at_call 91; refine (H.out).mono ?_; rintro e w2 ⟨r, m, rfl, hb2, -, hyes⟩; obtain ⟨rfl, bm, rfl, hcn⟩ := hyes rfl; have HCN := Shh.mk hcn; have HB2 := Shh.mk (HB0.out.trans (hb2.mono HB0.out.size)); have d0 : (w2.alloc (.cells #[.slice na xs.length nc, .map (some bm)] 106)).cell? ⟨W.heap.size, 0, none⟩ = some (.slice na xs.length nc) := ((HBD.out.kept hb2 HBD.out.lt).alloc _).cells 0; have HRK := Shh.mk (Blk.made w2 106 #[.slice na xs.length nc, .map (some bm)]); have h0 := lens_lit (w2.alloc (.cells #[.slice na xs.length nc, .map (some bm)] 106)) xs.length W.heap.size (by have := HB2.out.size; rw [World.size_alloc]; omega) hlen; have H0 := Shh.mk h0; clear hb2 hyes hcn h0)
    obtain ⟨wA, hwA⟩ : ∃ wA, (w2.alloc (.cells #[.slice na xs.length nc, .map (some bm)] 106)).alloc (.cells (madeCells #[.int .i64 0] xs.length) 2) = wA := ⟨_, rfl⟩
    have HWA := Shh.mk hwA
    rw [World.size_alloc] at H0
    have HRA := Shh.mk (show Blk wA w2.heap.size 106 #[.slice na xs.length nc, .map (some bm)] from by rw [← hwA]; exact HRK.out.alloc _)
    have HBA := Shh.mk (show Below W.heap.size W wA from by rw [← hwA]; exact (HB2.out.alloc HB2.out.size _).alloc (by have := HB2.out.size; rw [World.size_alloc]; omega) _)
    have HCA := Shh.mk (show Cnts wA bm xs from by rw [← hwA]; exact (HCN.out.below ((Below.refl _ _).alloc (Nat.le_refl _) _)).below ((Below.refl _ _).alloc (Nat.le_refl _) _))
    have hbml : bm < w2.heap.size := by obtain ⟨ks, D, h1, -, -⟩ := HCN.out; exact h1.lt
    rw [hwA] at H0
    have HBM := Shh.mk hbml
    go_loopw [7, 21] (fun _ z wr => ∃ k : Nat, k ≤ xs.length ∧ z = .int .i64 k ∧ Shh (wA.grownBy wr (some (w2.heap.size + 1))) ∧ Shh (RowI W.heap.size wr (.slice (some ⟨w2.heap.size + 1, 0, none⟩) xs.length xs.length) (lensN xs.length (fun i => if i < k then (gphD xs).cnt i else 0)))) (fun _ z _ => xs.length - (intOf z).toNat)
    case atStart => exact ⟨0, Nat.zero_le _, rfl, ⟨by rw [← HWA.out]; exact World.grownBy.refl _ _⟩, ⟨by rw [HWA.out]; simpa using H0.out⟩⟩
    case round =>
      obtain ⟨k, hkl, rfl, hg, hr⟩ := hrel
      clear d0 hwA
      have hrk := grown_blk HRA.out hg.out (fun j hj e => by have := Option.some.inj hj; omega)
      have d1 : wr.cell? ⟨w2.heap.size, 1, none⟩ = some (.map (some bm)) := hrk.cells 1
      by_cases hk : k < xs.length
      · have hcw : Cnts wr bm xs := by
          obtain ⟨ks, D, h1, h2, h3⟩ := HCA.out
          exact ⟨ks, D, h1.kept hg.out (fun e => by have := Option.some.inj e; have := HBM.out; omega), h2, h3⟩
        have hlook := hcw.look hlen hk
        obtain ⟨cc, cf⟩ := row_at hr.out hk
        have HP := Shh.mk (row_put hr.out k ((gphD xs).cnt k))
        have HG2 := Shh.mk (grown_store hg.out k (.int .i64 ((gphD xs).cnt k : Int)))
        have HRN := Shh.mk (show RowI W.heap.size (wr.setCell ⟨w2.heap.size + 1, k, none⟩ (.int .i64 ((gphD xs).cnt k : Int))) (.slice (some ⟨w2.heap.size + 1, 0, none⟩) xs.length xs.length) (lensN xs.length (fun i => if i < k + 1 then (gphD xs).cnt i else 0)) from by
          rw [← lensN_step, lensN_set]
          exact HP.out)
        obtain ⟨C2, hC2⟩ : ∃ C2, (gphD xs).cnt k = C2 := ⟨_, rfl⟩
        rw [hC2] at hlook HG2 HRN
        clear hcw hC2 HP hrk
        go_wp2
        go_roundw
        case rel => exact ⟨k + 1, by omega, by go_num, HG2, HRN⟩
        case measure => simp [intOf]; omega
      · obtain rfl : k = xs.length := by omega
        have HRR := Shh.mk (show RowI W.heap.size wr (.slice (some ⟨w2.heap.size + 1, 0, none⟩) xs.length xs.length) (cntL xs) from by
          have e : cntL xs = lensN xs.length (fun i => if i < xs.length then (gphD xs).cnt i else 0) := by
            unfold cntL rowN lensN
            refine List.map_congr_left fun i hi => ?_
            show ((gphD xs).cnt i : Int) = ((if i < xs.length then (gphD xs).cnt i else 0 : Nat) : Int)
            rw [if_pos (List.mem_range.1 hi)]
          rw [e]
          exact hr.out)
        have HBR := Shh.mk (HBA.out.grown hg.out HBA.out.size (fun j hj => by have := Option.some.inj hj; have := HB2.out.size; omega))
        clear hr hg hrk
        go_wp2
        go_ret2
        exact ⟨_, rfl, HRR.out, HBR.out⟩
end Go.Proofs.YtokfkofclpajfaaDoor
