/-
  EdgeCount and LongestWord: the model's and the program's answers.
-/
import Derived.Test.YtokfkofclpajfaaDoorYC
namespace Go.Proofs.YtokfkofclpajfaaDoor
open Go.RowKit

set_option maxRecDepth 100000 in
set_option maxHeartbeats 4000000 in
theorem specEdgeCount_any {vd : Value} {xs : List Nod} (W : World) (hx : Nds W vd xs) :
    Calls Tryd.prog 41 #[.agg #[vd]] W fun e w' => e = .returned (.tuple #[.int .i64 (edgeOut xs).1, .int .i64 (edgeOut xs).2]) ∧ Below W.heap.size W w' := by
  have HX := Shh.mk (hx.alloc (.cells #[vd] 29))
  have HBD := Shh.mk (Blk.made W 29 #[vd])
  have H := Shh.mk (l06Ok_any (W.alloc (.cells #[vd] 29)) HBD.out HX.out)
  obtain ⟨na, nc, rfl, hn1, hn2, -⟩ := hx
  obtain ⟨b, hb⟩ : ∃ b, okDw xs = b := ⟨_, rfl⟩
  rw [hb] at H
  have HO := Shh.mk hb
  clear hb
  cases b
  · have HR := Shh.mk (show edgeOut xs = (0, 1) from by unfold edgeOut; rw [HO.out]; rfl)
    go_enter Tryd.func41, Tryd.ntmps41
    go_wp2_with (go_at_call 65; refine (H.out).mono ?_; rintro e w2 ⟨rfl, hb2⟩; obtain ⟨d0, hB2⟩ := okD_cell hb2; clear hb2)
    go_ret2
    exact ⟨by (rw [HR.out]; try rfl), hB2⟩
  · have hs := (okDw_of HO.out).shp
    have hpos := hs.pos
    have hlen := hs.len
    have HES := Shh.mk (fun {k : Nat} (hk : k ≤ xs.length) => edges_small hs hk)
    have HR := Shh.mk (show edgeOut xs = (((edgesN xs xs.length : Nat) : Int), (0 : Int)) from by unfold edgeOut; rw [HO.out]; rfl)
    clear hs
    go_enter Tryd.func41, Tryd.ntmps41
    go_wp2_with (go_at_call 65; refine (H.out).mono ?_; rintro e w2 ⟨rfl, hb2⟩; obtain ⟨d0, hB2⟩ := okD_cell hb2; have HX2 := Shh.mk (HX.out.below hb2); have HD2 := Shh.mk d0; have HB2 := Shh.mk hB2; clear hb2 hB2)
    clear d0
    go_loopw [4, 5] (fun t z wr => ∃ k q m : Nat, k ≤ xs.length ∧ z = .int .i64 k ∧ t = .int .i64 (m : Int) ∧ wr = w2.drewN q ∧ Shh (edgesN xs k = m)) (fun _ z _ => xs.length - (intOf z).toNat)
    case atStart => exact ⟨0, 0, 0, Nat.zero_le _, rfl, rfl, rfl, ⟨rfl⟩⟩
    case round =>
      obtain ⟨k, q, m, hkl, rfl, rfl, hwq, hm⟩ := hrel
      have HWQ := Shh.mk hwq
      have d0 : wr.cell? ⟨W.heap.size, 0, none⟩ = some (.slice na xs.length nc) := by rw [hwq]; exact HD2.out
      by_cases hk : k < xs.length
      · obtain ⟨na2, nc2, he, -, -, hnn⟩ := HX2.out.drewN q
        rw [← hwq] at hnn
        simp only [Value.slice.injEq] at he
        obtain ⟨rfl, -, rfl⟩ := he
        obtain ⟨bn, on, rfl, hbn, hcn⟩ := hnn (by omega)
        obtain ⟨n0, n1, -⟩ := hcn k hk
        have h27 := HES.out (k := k + 1) (by omega)
        have HM := Shh.mk (show edgesN xs (k + 1) = m + (nodG xs k).ls.size from by rw [edgesN_succ, hm.out])
        rw [HM.out] at h27
        obtain ⟨L, hL⟩ : ∃ L, (nodG xs k).ls = L := ⟨_, rfl⟩
        rw [hL] at n1 h27 HM
        have hsum : m + L.size ≤ 100000 := by omega
        clear hcn hnn n0 hL h27 hwq
        go_wp2
        go_roundw
        case rel => exact ⟨k + 1, q, m + L.size, by omega, by go_num, by go_num, HWQ.out, HM⟩
        case measure => simp [intOf]; omega
      · obtain rfl : k = xs.length := by omega
        have HM := Shh.mk hm.out
        clear hwq hm
        go_wp2
        go_ret2
        exact ⟨by (rw [HR.out, HM.out]; try rfl), by rw [HWQ.out]; exact below_drewN HB2.out _⟩

set_option maxRecDepth 100000 in
set_option maxHeartbeats 4000000 in
theorem implEdgeCount_any {vd : Value} {xs : List Nod} (W : World) (hT : TabW W) (hx : Nds W vd xs) :
    Calls Tryd.prog 42 #[.agg #[vd]] W fun e w' => e = .returned (.tuple #[.int .i64 (edgeOut xs).1, .int .i64 (edgeOut xs).2]) ∧ Below W.heap.size W w' := by
  have HB0 := Shh.mk (show Below W.heap.size W (W.alloc (.cells #[vd] 29)) from (Below.refl _ _).alloc (Nat.le_refl _) _)
  have HX := Shh.mk (hx.alloc (.cells #[vd] 29))
  have H := Shh.mk (implValidDawg_any (W.alloc (.cells #[vd] 29)) (hT.on HB0.out) HX.out)
  obtain ⟨na, nc, rfl, hn1, hn2, -⟩ := hx
  obtain ⟨b, hb⟩ : ∃ b, okDw xs = b := ⟨_, rfl⟩
  rw [hb] at H
  have HO := Shh.mk hb
  clear hb hT
  cases b
  · have HR := Shh.mk (show edgeOut xs = (0, 1) from by unfold edgeOut; rw [HO.out]; rfl)
    go_enter Tryd.func42, Tryd.ntmps42
    go_wp2_with (go_at_call 22; refine (H.out).mono ?_; rintro e w2 ⟨rfl, hb2⟩; obtain ⟨d0, hB2⟩ := okD_cell hb2; clear hb2)
    go_ret2
    exact ⟨by (rw [HR.out]; try rfl), hB2⟩
  · have hs := (okDw_of HO.out).shp
    have hpos := hs.pos
    have hlen := hs.len
    have HES := Shh.mk (fun {k : Nat} (hk : k ≤ xs.length) => edges_small hs hk)
    have HR := Shh.mk (show edgeOut xs = (((edgesN xs xs.length : Nat) : Int), (0 : Int)) from by unfold edgeOut; rw [HO.out]; rfl)
    clear hs
    go_enter Tryd.func42, Tryd.ntmps42
    go_wp2_with (go_at_call 22; refine (H.out).mono ?_; rintro e w2 ⟨rfl, hb2⟩; obtain ⟨d0, hB2⟩ := okD_cell hb2; have HX2 := Shh.mk (HX.out.below hb2); have HB2 := Shh.mk hB2; clear hb2 hB2)
    clear d0
    go_loopw [4, 6, 13] (fun t _ z wr => ∃ k m : Nat, k ≤ xs.length ∧ z = .int .i64 k ∧ t = .int .i64 (m : Int) ∧ Below w2.heap.size w2 wr ∧ Shh (edgesN xs k = m)) (fun _ _ z _ => xs.length - (intOf z).toNat)
    case atStart => exact ⟨0, 0, Nat.zero_le _, rfl, rfl, Below.refl _ _, ⟨rfl⟩⟩
    case round =>
      obtain ⟨k, m, hkl, rfl, rfl, hbr, hm⟩ := hrel
      have HBR := Shh.mk hbr
      by_cases hk : k < xs.length
      · obtain ⟨na2, nc2, he, -, -, hnn⟩ := HX2.out.below hbr
        simp only [Value.slice.injEq] at he
        obtain ⟨rfl, -, rfl⟩ := he
        obtain ⟨bn, on, rfl, hbn, hcn⟩ := hnn (by omega)
        obtain ⟨n0, n1, u, n2, hu⟩ := hcn k hk
        obtain ⟨ua, uc, rfl, -⟩ := hu
        have h27 := HES.out (k := k + 1) (by omega)
        have HM := Shh.mk (show edgesN xs (k + 1) = m + (nodG xs k).ls.size from by rw [edgesN_succ, hm.out])
        rw [HM.out] at h27
        obtain ⟨L, hL⟩ : ∃ L, (nodG xs k).ls = L := ⟨_, rfl⟩
        rw [hL] at n1 h27 HM
        obtain ⟨F, hF⟩ : ∃ F, (nodG xs k).f = F := ⟨_, rfl⟩
        rw [hF] at n0
        have hsum : m + L.size ≤ 100000 := by omega
        have HB3 := Shh.mk (hbr.alloc hbr.size (.cells #[.bool F, .string L, .slice ua (nodG xs k).ns.length uc] 71))
        clear hcn hnn hL hF h27 hbr
        go_wp2
        go_roundw
        case rel => exact ⟨k + 1, m + L.size, by omega, by go_num, by go_num, HB3.out, HM⟩
        case measure => simp [intOf]; omega
      · obtain rfl : k = xs.length := by omega
        have HM := Shh.mk hm.out
        clear hm hbr
        go_wp2
        go_ret2
        exact ⟨by (rw [HR.out, HM.out]; try rfl), HB2.out.trans (HBR.out.mono HB2.out.size)⟩

theorem maxN_any (a b : Nat) (w : World) : Calls Tryd.prog 85 #[.int .i64 (a : Int), .int .i64 (b : Int)] w fun e w' => e = .returned (.int .i64 ((max a b : Nat) : Int)) ∧ w = w' := by
  by_cases h : b < a
  · have hi : (b : Int) < (a : Int) := by omega
    have HR := Shh.mk (show max a b = a from by omega)
    go_enter Tryd.func85, Tryd.ntmps85
    go_wp2
    go_ret
    exact ⟨by (rw [HR.out]; try rfl), rfl⟩
  · have hi : ¬ (b : Int) < (a : Int) := by omega
    have HR := Shh.mk (show max a b = b from by omega)
    go_enter Tryd.func85, Tryd.ntmps85
    go_wp2
    go_ret
    exact ⟨by (rw [HR.out]; try rfl), rfl⟩
set_option maxRecDepth 100000 in
set_option maxHeartbeats 4000000 in
theorem specLongestWord_any {vd : Value} {xs : List Nod} (W : World) (hx : Nds W vd xs) :
    Calls Tryd.prog 43 #[.agg #[vd]] W fun e w' => e = .returned (.tuple #[.int .i64 (longOut xs).1, .int .i64 (longOut xs).2]) ∧ Below W.heap.size W w' := by
  have HX := Shh.mk (hx.alloc (.cells #[vd] 29))
  have HBD := Shh.mk (Blk.made W 29 #[vd])
  have H := Shh.mk (l06Ok_any (W.alloc (.cells #[vd] 29)) HBD.out HX.out)
  obtain ⟨b, hb⟩ : ∃ b, okDw xs = b := ⟨_, rfl⟩
  rw [hb] at H
  have HO := Shh.mk hb
  clear hb hx
  cases b
  · have HR := Shh.mk (show longOut xs = (0, 1) from by unfold longOut; rw [HO.out]; rfl)
    go_enter Tryd.func43, Tryd.ntmps43
    go_wp2_with (go_at_call 65; refine (H.out).mono ?_; rintro e w2 ⟨rfl, hb2⟩; obtain ⟨d0, hB2⟩ := okD_cell hb2; clear hb2)
    go_ret2
    exact ⟨by (rw [HR.out]; try rfl), hB2⟩
  · have hd := okDw_of HO.out
    have HS := Shh.mk hd.shp
    have hpos := hd.shp.pos
    have HOK := Shh.mk (show (gphD xs).okN 14 0 0 from ⟨hd.short, by have := hd.few; show 0 + ((gphD xs).W 13 0).length ≤ 3000; omega⟩)
    have hfew := hd.few
    have HR := Shh.mk (show longOut xs = (((maxLen8 ((gphD xs).W 13 0) : Nat) : Int), (0 : Int)) from by unfold longOut; rw [HO.out]; rfl)
    clear hd
    go_enter Tryd.func43, Tryd.ntmps43
    go_wp2_with (first
      | (go_at_call 65; refine (H.out).mono ?_; rintro e w2 ⟨rfl, hb2⟩; obtain ⟨d0, hB2⟩ := okD_cell hb2; have HC := Shh.mk (l06Words_any w2 (HBD.out.kept hb2 HBD.out.lt) (HX.out.below hb2) HS.out hpos); have HB2 := Shh.mk hB2; clear hb2 hB2)
      | (go_at_call 79; refine (HC.out).mono ?_; rintro e w4 ⟨vw, us, f, rfl, ho4, hf1, hf2, hb4⟩; obtain rfl : f = false := hf1.2 HOK.out; obtain rfl := hf2 rfl; have HO4 := Shh.mk (OwnS.strs ho4); have HB4 := Shh.mk (HB2.out.trans (hb4.mono HB2.out.size)); clear hf1 hf2 ho4 hb4))
    obtain ⟨L, hL⟩ : ∃ L, (gphD xs).W 13 0 = L := ⟨_, rfl⟩
    rw [hL] at HO4 hfew HR
    obtain ⟨sa, sc, rfl, hs1, hs2, hcc⟩ := HO4.out
    have HCC := Shh.mk hcc
    rw [List.length_map] at HCC hs1 ⊢
    clear hcc hL
    go_wp2
    go_loopw [6, 7] (fun t z wr => ∃ k q m : Nat, k ≤ L.length ∧ z = .int .i64 k ∧ t = .int .i64 (m : Int) ∧ wr = w4.drewN q ∧ Shh (maxLen8 (L.take k) = m)) (fun _ z _ => L.length - (intOf z).toNat)
    case atStart => exact ⟨0, 0, 0, Nat.zero_le _, rfl, rfl, rfl, ⟨rfl⟩⟩
    case round =>
      obtain ⟨k, q, m, hkl, rfl, rfl, hwq, hm⟩ := hrel
      have HWQ := Shh.mk hwq
      by_cases hk : k < L.length
      · obtain ⟨bs, os, rfl, hbs, hcs⟩ := HCC.out (by omega)
        have cs : wr.cell? ⟨bs, os + k, none⟩ = some (.string (strAt (L.map txt) k)) := by rw [hwq]; exact hcs k hk
        have HM := Shh.mk (show maxLen8 (L.take (k + 1)) = max m (strAt (L.map txt) k).size from by
          rw [List.take_add_one, List.getElem?_eq_getElem hk]
          show maxLen8 (L.take k ++ [L[k]]) = _
          rw [maxLen8_snoc, hm.out]
          unfold strAt
          rw [List.getD_eq_getElem?_getD, List.getElem?_map, List.getElem?_eq_getElem hk]
          show _ = max m (txt L[k]).size
          rw [txt_size])
        obtain ⟨X, hX⟩ : ∃ X, strAt (L.map txt) k = X := ⟨_, rfl⟩
        rw [hX] at cs HM
        clear hcs hX hwq
        go_wp2_with (go_at_call 85; refine (maxN_any m X.size _).mono ?_; rintro e w5 ⟨rfl, rfl⟩)
        go_roundw
        case rel => exact ⟨k + 1, q, _, by omega, by go_num, rfl, HWQ.out, HM⟩
        case measure => simp [intOf]; omega
      · obtain rfl : k = L.length := by omega
        have HM := Shh.mk (show maxLen8 L = m from by rw [← hm.out, List.take_of_length_le (Nat.le_refl _)])
        clear hwq hm
        go_wp2
        go_ret2
        exact ⟨by (rw [HR.out, HM.out]; try rfl), by rw [HWQ.out]; exact below_drewN HB4.out _⟩

set_option maxRecDepth 100000 in
set_option maxHeartbeats 4000000 in
theorem implLongestWord_any {vd : Value} {xs : List Nod} (W : World) (hT : TabW W) (hx : Nds W vd xs) :
    Calls Tryd.prog 44 #[.agg #[vd]] W fun e w' => e = .returned (.tuple #[.int .i64 (longOut xs).1, .int .i64 (longOut xs).2]) ∧ Below W.heap.size W w' := by
  have HB0 := Shh.mk (show Below W.heap.size W (W.alloc (.cells #[vd] 29)) from (Below.refl _ _).alloc (Nat.le_refl _) _)
  have HX := Shh.mk (hx.alloc (.cells #[vd] 29))
  have HBD := Shh.mk (Blk.made W 29 #[vd])
  have H := Shh.mk (implValidDawg_any (W.alloc (.cells #[vd] 29)) (hT.on HB0.out) HX.out)
  obtain ⟨b, hb⟩ : ∃ b, okDw xs = b := ⟨_, rfl⟩
  rw [hb] at H
  have HO := Shh.mk hb
  clear hb hT hx
  cases b
  · have HR := Shh.mk (show longOut xs = (0, 1) from by unfold longOut; rw [HO.out]; rfl)
    go_enter Tryd.func44, Tryd.ntmps44
    go_wp2_with (go_at_call 22; refine (H.out).mono ?_; rintro e w2 ⟨rfl, hb2⟩; obtain ⟨d0, hB2⟩ := okD_cell hb2; clear hb2)
    go_ret2
    exact ⟨by (rw [HR.out]; try rfl), hB2⟩
  · have HD := Shh.mk (okDw_of HO.out)
    have HS := Shh.mk HD.out.shp
    have h0' := HS.out.pos
    obtain ⟨o0, ho0⟩ := HD.out.order
    have HORD := Shh.mk (Ord.of ho0)
    have HO0 := Shh.mk ho0
    have HR := Shh.mk (show longOut xs = (((maxLen8 ((gphD xs).W 13 0) : Nat) : Int), (0 : Int)) from by unfold longOut; rw [HO.out]; rfl)
    clear ho0
    go_enter Tryd.func44, Tryd.ntmps44
    go_wp2_with (first
      | (go_at_call 22; refine (H.out).mono ?_; rintro e w2 ⟨rfl, hb2⟩; obtain ⟨d0, hB2⟩ := okD_cell hb2; have HB2 := Shh.mk hB2; have HBX := Shh.mk hb2; clear hb2 hB2)
      | (go_at_call 68; refine (orderUpward_any _ (HX.out.below HBX.out) HS.out).mono ?_; rintro e w3 ⟨vo, o, b, rfl, ho, hb3, hyes, hno⟩; obtain rfl : b = true := (by cases b; exact absurd HO0.out (hno rfl _); exact rfl); obtain rfl : o = o0 := (by have h1 := (hyes rfl).2; rw [HO0.out] at h1; simpa using h1.symm); clear hyes hno d0; have HBE := Shh.mk (HBX.out.trans (hb3.mono HBX.out.size)); have d3 : w3.cell? ⟨W.heap.size, 0, none⟩ = some vd := (HBD.out.kept HBE.out HBD.out.lt).cells 0)
      | (go_at_call 69; refine (lengthsUpward_any _ (HX.out.below HBE.out) HS.out ho HORD.out.topo HORD.out.nodup HORD.out.below).mono ?_; rintro e w4 ⟨vl, h, rfl, hr, hl, hb4⟩; obtain ⟨g, cc, rfl, hc0⟩ := row_first hr h0'; have HL := Shh.mk (HD.out.longest (h := h) fun i hi => hl.eq i (HORD.out.full i hi)); have hlen1 : (0 : Int) < (xs.length : Int) := (by omega); clear hr hl))
    go_ret2
    have hbb := hb4
    exact ⟨by (rw [HR.out, HL.out]; try rfl), (HB0.out.trans (HBE.out.mono HB0.out.size)).trans (hb4.mono (HB0.out.trans (HBE.out.mono HB0.out.size)).size)⟩
end Go.Proofs.YtokfkofclpajfaaDoor
