/-
  WordAt and NextWord: the model's and the program's answers.
-/
import Derived.Test.YtokfkofclpajfaaDoorYN
import Derived.Test.YtokfkofclpajfaaDoorYP
namespace Go.Proofs.YtokfkofclpajfaaDoor
open Go.RowKit Go.Maps Go.WideMaps

noncomputable def wordOut (xs : List Nod) (i : Int) : ByteArray × Int := if okDw xs = true then (if 0 ≤ i ∧ i < ((gphD xs).cnt 0 : Int) then (txt ((gphD xs).word 14 0 i.toNat), 0) else (ByteArray.empty, 2)) else (ByteArray.empty, 1)
theorem wordOut_no {xs : List Nod} {i : Int} (h : okDw xs = false) : wordOut xs i = (ByteArray.empty, 1) := by unfold wordOut; rw [h]; rfl
theorem wordOut_out {xs : List Nod} {i : Int} (h : okDw xs = true) (hi : ¬ (0 ≤ i ∧ i < ((gphD xs).cnt 0 : Int))) : wordOut xs i = (ByteArray.empty, 2) := by unfold wordOut; rw [if_pos h, if_neg hi]
theorem wordOut_in {xs : List Nod} {i : Nat} (h : okDw xs = true) (hi : i < (gphD xs).cnt 0) : wordOut xs (i : Int) = (txt ((gphD xs).word 14 0 i), 0) := by unfold wordOut; rw [if_pos h, if_pos ⟨by omega, by omega⟩, Int.toNat_natCast]
/-- How many strings stand up to s, s itself among them. -/
noncomputable def upTo (xs : List Nod) (s : ByteArray) : Nat := (gphD xs).rank 0 s.data.toList + (if (gphD xs).acc 0 s.data.toList = true then 1 else 0)
theorem upTo_le {xs : List Nod} (ho : DawgOk xs) (s : ByteArray) : upTo xs s ≤ (gphD xs).cnt 0 := Gph.rank_le ho.short
theorem upTo_no {xs : List Nod} {s : ByteArray} (h : (gphD xs).acc 0 s.data.toList = false) : upTo xs s = (gphD xs).rank 0 s.data.toList := by unfold upTo; rw [h]; rfl
theorem upTo_yes {xs : List Nod} {s : ByteArray} (h : (gphD xs).acc 0 s.data.toList = true) : upTo xs s = (gphD xs).rank 0 s.data.toList + 1 := by unfold upTo; rw [h]; rfl
noncomputable def nextOut (xs : List Nod) (s : ByteArray) : ByteArray × Int := if okDw xs = true then (if upTo xs s < (gphD xs).cnt 0 then (txt ((gphD xs).word 14 0 (upTo xs s)), 0) else (ByteArray.empty, 3)) else (ByteArray.empty, 1)
theorem nextOut_no {xs : List Nod} {s : ByteArray} (h : okDw xs = false) : nextOut xs s = (ByteArray.empty, 1) := by unfold nextOut; rw [h]; rfl
theorem nextOut_out {xs : List Nod} {s : ByteArray} (h : okDw xs = true) (hi : ¬ upTo xs s < (gphD xs).cnt 0) : nextOut xs s = (ByteArray.empty, 3) := by unfold nextOut; rw [if_pos h, if_neg hi]
theorem nextOut_in {xs : List Nod} {s : ByteArray} (h : okDw xs = true) (hi : upTo xs s < (gphD xs).cnt 0) : nextOut xs s = (txt ((gphD xs).word 14 0 (upTo xs s)), 0) := by unfold nextOut; rw [if_pos h, if_pos hi]

set_option maxRecDepth 100000 in
set_option maxHeartbeats 4000000 in
theorem specWordAt_any {vd : Value} {xs : List Nod} (i : Int) (_hi : (Lit.int .i64 i).wf = true) (W : World) (hx : Nds W vd xs) :
    Calls Tryd.prog 54 #[.agg #[vd], .int .i64 i] W fun e w' => e = .returned (.tuple #[.string (wordOut xs i).1, .int .i64 (wordOut xs i).2]) ∧ Below W.heap.size W w' := by
  have HB0 := Shh.mk (show Below W.heap.size W (W.alloc (.cells #[vd] 29)) from (Below.refl _ _).alloc (Nat.le_refl _) _)
  have HX := Shh.mk (hx.alloc (.cells #[vd] 29))
  have HBD := Shh.mk (Blk.made W 29 #[vd])
  have H := Shh.mk (l06Ok_any (W.alloc (.cells #[vd] 29)) HBD.out HX.out)
  obtain ⟨na, nc, rfl, -⟩ := hx
  obtain ⟨b, hb⟩ : ∃ b, okDw xs = b := ⟨_, rfl⟩
  rw [hb] at H
  have HO := Shh.mk hb
  clear hb
  cases b
  · have HR := Shh.mk (show wordOut xs i = (ByteArray.empty, 1) from wordOut_no HO.out)
    go_enter Tryd.func54, Tryd.ntmps54
    go_wp2_with (go_at_call 65; refine (H.out).mono ?_; rintro e w2 ⟨rfl, hb2⟩; have HB2 := Shh.mk (HB0.out.trans (hb2.mono HB0.out.size)); clear hb2)
    go_ret2
    exact ⟨by (rw [HR.out]; try rfl), HB2.out⟩
  · have HD := Shh.mk (okDw_of HO.out)
    have hpos := HD.out.shp.pos
    have hlen := HD.out.shp.len
    have hpi : (0 : Int) < (xs.length : Int) := by omega
    have hcf := HD.out.cnt_few hpos
    obtain ⟨C0, hC0⟩ : ∃ C, (gphD xs).cnt 0 = C := ⟨_, rfl⟩
    rw [hC0] at hcf
    have HC0 := Shh.mk hC0
    clear hC0
    have hwn : IntKind.i64.wrap ((C0 : Int) - 1) = (C0 : Int) - 1 := IntWalk.i64_in _ (by omega)
    have HNXT := Shh.mk (fun (w' w'' : World) (h : Below (W.alloc (.cells #[.slice na xs.length nc] 29)).heap.size (W.alloc (.cells #[.slice na xs.length nc] 29)) w') (h2 : Below w'.heap.size w' w'') => h.trans (h2.mono h.size))
    have HCT := Shh.mk (fun (w' : World) (h' : Below (W.alloc (.cells #[.slice na xs.length nc] 29)).heap.size (W.alloc (.cells #[.slice na xs.length nc] 29)) w') => l07Counts_any w' (HBD.out.kept h' HBD.out.lt) (HX.out.below h') HD.out)
    by_cases hi : 0 ≤ i ∧ i < (C0 : Int)
    · obtain ⟨t, rfl⟩ : ∃ t : Nat, i = (t : Int) := ⟨i.toNat, by omega⟩
      have HR := Shh.mk (wordOut_in (xs := xs) (i := t) HO.out (by rw [HC0.out]; omega))
      have HIN := Shh.mk (show inB (t : Int) 0 ((C0 : Int) - 1) = true from by unfold inB; simp; omega)
      have HAT := Shh.mk (fun (w' : World) (h' : Below (W.alloc (.cells #[.slice na xs.length nc] 29)).heap.size (W.alloc (.cells #[.slice na xs.length nc] 29)) w') => l07At_any w' (HBD.out.kept h' HBD.out.lt) (HX.out.below h') HD.out t (by rw [HC0.out]; omega))
      clear hi
      go_enter Tryd.func54, Tryd.ntmps54
      go_wp2_with (first
        | (go_at_call 65; refine (H.out).mono ?_; rintro e w2 ⟨rfl, hb2⟩; have HBX := Shh.mk hb2; clear hb2)
        | (go_at_call 90; refine (HCT.out _ HBX.out).mono ?_; rintro e w3 ⟨g, cp, rfl, hr, hb⟩; have cr := (rowI_at (m := fun i => ((gphD xs).cnt i : Int)) hr hpos).1; rw [HC0.out] at cr; have HBX := Shh.mk (HNXT.out _ _ HBX.out hb); clear hr hb)
        | (go_at_call 72; refine (in_is HIN.out _).mono ?_; rintro e w4 ⟨rfl, rfl⟩)
        | (go_at_call 94; refine (HAT.out _ HBX.out).mono ?_; rintro e w9 ⟨rfl, hb⟩; have HBX := Shh.mk (HNXT.out _ _ HBX.out hb); clear hb))
      go_ret2
      exact ⟨by (rw [HR.out]; try rfl), HB0.out.trans (HBX.out.mono HB0.out.size)⟩
    · have HR := Shh.mk (wordOut_out (xs := xs) (i := i) HO.out (by rw [HC0.out]; exact hi))
      have HIN := Shh.mk (show inB i 0 ((C0 : Int) - 1) = false from by unfold inB; simp; omega)
      clear hi
      go_enter Tryd.func54, Tryd.ntmps54
      go_wp2_with (first
        | (go_at_call 65; refine (H.out).mono ?_; rintro e w2 ⟨rfl, hb2⟩; have HBX := Shh.mk hb2; clear hb2)
        | (go_at_call 90; refine (HCT.out _ HBX.out).mono ?_; rintro e w3 ⟨g, cp, rfl, hr, hb⟩; have cr := (rowI_at (m := fun i => ((gphD xs).cnt i : Int)) hr hpos).1; rw [HC0.out] at cr; have HBX := Shh.mk (HNXT.out _ _ HBX.out hb); clear hr hb)
        | (go_at_call 72; refine (in_is HIN.out _).mono ?_; rintro e w4 ⟨rfl, rfl⟩))
      go_ret2
      exact ⟨by (rw [HR.out]; try rfl), HB0.out.trans (HBX.out.mono HB0.out.size)⟩

set_option maxRecDepth 100000 in
set_option maxHeartbeats 4000000 in
theorem specNextWord_any {vd : Value} {xs : List Nod} (s : ByteArray) (hsz : s.size ≤ 1048576) (W : World) (hx : Nds W vd xs) :
    Calls Tryd.prog 58 #[.agg #[vd], .string s] W fun e w' => e = .returned (.tuple #[.string (nextOut xs s).1, .int .i64 (nextOut xs s).2]) ∧ Below W.heap.size W w' := by
  have HB0 := Shh.mk (show Below W.heap.size W (W.alloc (.cells #[vd] 29)) from (Below.refl _ _).alloc (Nat.le_refl _) _)
  have HX := Shh.mk (hx.alloc (.cells #[vd] 29))
  have HBD := Shh.mk (Blk.made W 29 #[vd])
  have H := Shh.mk (l06Ok_any (W.alloc (.cells #[vd] 29)) HBD.out HX.out)
  obtain ⟨na, nc, rfl, -⟩ := hx
  obtain ⟨b, hb⟩ : ∃ b, okDw xs = b := ⟨_, rfl⟩
  rw [hb] at H
  have HO := Shh.mk hb
  clear hb
  cases b
  · have HR := Shh.mk (show nextOut xs s = (ByteArray.empty, 1) from nextOut_no HO.out)
    go_enter Tryd.func58, Tryd.ntmps58
    go_wp2_with (go_at_call 65; refine (H.out).mono ?_; rintro e w2 ⟨rfl, hb2⟩; have HB2 := Shh.mk (HB0.out.trans (hb2.mono HB0.out.size)); clear hb2)
    go_ret2
    exact ⟨by (rw [HR.out]; try rfl), HB2.out⟩
  · have HD := Shh.mk (okDw_of HO.out)
    have hpos := HD.out.shp.pos
    have hlen := HD.out.shp.len
    have hpi : (0 : Int) < (xs.length : Int) := by omega
    have hcf := HD.out.cnt_few hpos
    obtain ⟨C0, hC0⟩ : ∃ C, (gphD xs).cnt 0 = C := ⟨_, rfl⟩
    rw [hC0] at hcf
    have HC0 := Shh.mk hC0
    clear hC0
    have hwn : IntKind.i64.wrap ((C0 : Int) - 1) = (C0 : Int) - 1 := IntWalk.i64_in _ (by omega)
    have HNXT := Shh.mk (fun (w' w'' : World) (h : Below (W.alloc (.cells #[.slice na xs.length nc] 29)).heap.size (W.alloc (.cells #[.slice na xs.length nc] 29)) w') (h2 : Below w'.heap.size w' w'') => h.trans (h2.mono h.size))
    have HCT := Shh.mk (fun (w' : World) (h' : Below (W.alloc (.cells #[.slice na xs.length nc] 29)).heap.size (W.alloc (.cells #[.slice na xs.length nc] 29)) w') => l07Counts_any w' (HBD.out.kept h' HBD.out.lt) (HX.out.below h') HD.out)
    have hul := upTo_le HD.out s
    rw [HC0.out] at hul
    obtain ⟨R, hR⟩ : ∃ R, (gphD xs).rank 0 s.data.toList = R := ⟨_, rfl⟩
    obtain ⟨a, ha⟩ : ∃ a, (gphD xs).acc 0 s.data.toList = a := ⟨_, rfl⟩
    have HA := Shh.mk ha
    obtain ⟨K, hK⟩ : ∃ K, upTo xs s = K := ⟨_, rfl⟩
    have HK := Shh.mk hK
    rw [hK] at hul
    have hrk : K = R + (if a = true then 1 else 0) := by rw [← hK, ← hR, ← ha]; rfl
    have HAC := Shh.mk (fun (w' : World) (h' : Below (W.alloc (.cells #[.slice na xs.length nc] 29)).heap.size (W.alloc (.cells #[.slice na xs.length nc] 29)) w') => l06Accepts_any w' (HBD.out.kept h' HBD.out.lt) (HX.out.below h') HD.out.shp s hsz)
    rw [ha] at HAC
    have HLS := Shh.mk (fun (w' : World) (h' : Below (W.alloc (.cells #[.slice na xs.length nc] 29)).heap.size (W.alloc (.cells #[.slice na xs.length nc] 29)) w') => l07Less_any w' (HBD.out.kept h' HBD.out.lt) (HX.out.below h') HD.out s hsz)
    rw [hR] at HLS
    clear hR ha hK
    have hz : ((0 : Nat) : Int) = 0 := rfl
    cases a
    case' false =>
      obtain rfl : K = R := by simpa using hrk
      have hw2 := hz
    case' true =>
      have hw2 : IntKind.i64.wrap ((R : Int) + 1) = (K : Int) := by rw [show (R : Int) + 1 = (K : Int) by have : K = R + 1 := (by simpa using hrk); omega]; exact IntWalk.i64_in _ (by omega)
    all_goals
      clear hrk
      by_cases hi : K < C0
      · have HR := Shh.mk (show nextOut xs s = (txt ((gphD xs).word 14 0 K), 0) from by rw [nextOut_in HO.out (by rw [HK.out, HC0.out]; exact hi), HK.out])
        have HAT := Shh.mk (fun (w' : World) (h' : Below (W.alloc (.cells #[.slice na xs.length nc] 29)).heap.size (W.alloc (.cells #[.slice na xs.length nc] 29)) w') => l07At_any w' (HBD.out.kept h' HBD.out.lt) (HX.out.below h') HD.out K (by rw [HC0.out]; exact hi))
        have hge : ¬ (C0 : Int) ≤ (K : Int) := by omega
        clear hi
        go_enter Tryd.func58, Tryd.ntmps58
        go_wp2_with (first
          | (go_at_call 65; refine (H.out).mono ?_; rintro e w2 ⟨rfl, hb2⟩; have HBX := Shh.mk hb2; clear hb2)
          | (go_at_call 92; refine (HLS.out _ HBX.out).mono ?_; rintro e w3 ⟨rfl, hb⟩; have HBX := Shh.mk (HNXT.out _ _ HBX.out hb); clear hb)
          | (go_at_call 77; refine (HAC.out _ HBX.out).mono ?_; rintro e w4 ⟨rfl, k, rfl⟩; have HBX := Shh.mk (below_drewN HBX.out k))
          | (go_at_call 90; refine (HCT.out _ HBX.out).mono ?_; rintro e w5 ⟨g, cp, rfl, hr, hb⟩; have cr := (rowI_at (m := fun i => ((gphD xs).cnt i : Int)) hr hpos).1; rw [HC0.out] at cr; have HBX := Shh.mk (HNXT.out _ _ HBX.out hb); clear hr hb)
          | (go_at_call 94; refine (HAT.out _ HBX.out).mono ?_; rintro e w9 ⟨rfl, hb⟩; have HBX := Shh.mk (HNXT.out _ _ HBX.out hb); clear hb))
        go_ret2
        exact ⟨by (rw [HR.out]; try rfl), HB0.out.trans (HBX.out.mono HB0.out.size)⟩
      · have HR := Shh.mk (nextOut_out (xs := xs) (s := s) HO.out (by rw [HK.out, HC0.out]; exact hi))
        have hge : (C0 : Int) ≤ (K : Int) := by omega
        clear hi
        go_enter Tryd.func58, Tryd.ntmps58
        go_wp2_with (first
          | (go_at_call 65; refine (H.out).mono ?_; rintro e w2 ⟨rfl, hb2⟩; have HBX := Shh.mk hb2; clear hb2)
          | (go_at_call 92; refine (HLS.out _ HBX.out).mono ?_; rintro e w3 ⟨rfl, hb⟩; have HBX := Shh.mk (HNXT.out _ _ HBX.out hb); clear hb)
          | (go_at_call 77; refine (HAC.out _ HBX.out).mono ?_; rintro e w4 ⟨rfl, k, rfl⟩; have HBX := Shh.mk (below_drewN HBX.out k))
          | (go_at_call 90; refine (HCT.out _ HBX.out).mono ?_; rintro e w5 ⟨g, cp, rfl, hr, hb⟩; have cr := (rowI_at (m := fun i => ((gphD xs).cnt i : Int)) hr hpos).1; rw [HC0.out] at cr; have HBX := Shh.mk (HNXT.out _ _ HBX.out hb); clear hr hb))
        go_ret2
        exact ⟨by (rw [HR.out]; try rfl), HB0.out.trans (HBX.out.mono HB0.out.size)⟩

theorem look_zero {w : World} {b : Nat} {xs : List Nod} {C0 : Nat} (h : Cnts w b xs) (hn : xs.length ≤ 3000) (hpos : 0 < xs.length) (h0 : (gphD xs).cnt 0 = C0) : (Instr.lookup 75 (.map (some b)) (.int .i64 0) false).run Tryd.prog w = .ok (.int .i64 (C0 : Int)) w := by
  have h1 := h.look hn hpos
  rw [h0] at h1
  exact h1

set_option maxRecDepth 100000 in
set_option maxHeartbeats 4000000 in
theorem implWordAt_any {vd : Value} {xs : List Nod} (i : Int) (_hi : (Lit.int .i64 i).wf = true) (W : World) (hT : TabW W) (hx : Nds W vd xs) :
    Calls Tryd.prog 55 #[.agg #[vd], .int .i64 i] W fun e w' => e = .returned (.tuple #[.string (wordOut xs i).1, .int .i64 (wordOut xs i).2]) ∧ Below W.heap.size W w' := by
  have HB0 := Shh.mk (show Below W.heap.size W (W.alloc (.cells #[vd] 29)) from (Below.refl _ _).alloc (Nat.le_refl _) _)
  have HX := Shh.mk (hx.alloc (.cells #[vd] 29))
  have H := Shh.mk (rankedDawg_any (W.alloc (.cells #[vd] 29)) (hT.on HB0.out) HX.out)
  obtain ⟨na, nc, rfl, -⟩ := hx
  obtain ⟨b, hb⟩ : ∃ b, okDw xs = b := ⟨_, rfl⟩
  rw [hb] at H
  have HO := Shh.mk hb
  clear hb hT
  cases b
  · have HR := Shh.mk (show wordOut xs i = (ByteArray.empty, 1) from wordOut_no HO.out)
    go_enter Tryd.func55, Tryd.ntmps55
    go_wp2_with (go_at_call 91; refine (H.out).mono ?_; rintro e w2 ⟨r, m, rfl, hb2, hno, -⟩; obtain ⟨rfl, rfl⟩ := hno rfl; have HB2 := Shh.mk (HB0.out.trans (hb2.mono HB0.out.size)); clear hb2 hno)
    go_ret2
    exact ⟨by (rw [HR.out]; try rfl), HB2.out.alloc HB2.out.size _⟩
  · have HD := Shh.mk (okDw_of HO.out)
    have hpos := HD.out.shp.pos
    have hlen := HD.out.shp.len
    have hpi : (0 : Int) < (xs.length : Int) := by omega
    have hcf := HD.out.cnt_few hpos
    obtain ⟨C0, hC0⟩ : ∃ C, (gphD xs).cnt 0 = C := ⟨_, rfl⟩
    rw [hC0] at hcf
    have HC0 := Shh.mk hC0
    clear hC0
    have hwn : IntKind.i64.wrap ((C0 : Int) - 1) = (C0 : Int) - 1 := IntWalk.i64_in _ (by omega)
    have HNXT := Shh.mk (fun (w' w'' : World) (h : Below (W.alloc (.cells #[.slice na xs.length nc] 29)).heap.size (W.alloc (.cells #[.slice na xs.length nc] 29)) w') (h2 : Below w'.heap.size w' w'') => h.trans (h2.mono h.size))
    by_cases hi : 0 ≤ i ∧ i < (C0 : Int)
    · obtain ⟨t, rfl⟩ : ∃ t : Nat, i = (t : Int) := ⟨i.toNat, by omega⟩
      have HR := Shh.mk (wordOut_in (xs := xs) (i := t) HO.out (by rw [HC0.out]; omega))
      have HLT := Shh.mk (show t < C0 by omega)
      have hn0 : ¬ (t : Int) < 0 := by omega
      have hn1 : ¬ (C0 : Int) ≤ (t : Int) := by omega
      clear hi
      go_enter Tryd.func55, Tryd.ntmps55
      go_wp2_with (first
        | (go_at_call 91; refine (H.out).mono ?_; rintro e w2 ⟨r, m, rfl, hb2, -, hyes⟩; obtain ⟨rfl, bm, rfl, hcn⟩ := hyes rfl; have HB2 := Shh.mk (HB0.out.trans (hb2.mono HB0.out.size)); have HRK := Shh.mk (Blk.made w2 106 #[.slice na xs.length nc, .map (some bm)]); have HCN := Shh.mk (hcn.below ((Below.refl _ _).alloc (Nat.le_refl _) (.cells #[.slice na xs.length nc, .map (some bm)] 106))); have HXR := Shh.mk ((HX.out.below hb2).alloc (.cells #[.slice na xs.length nc, .map (some bm)] 106)); have HBX := Shh.mk ((HNXT.out _ _ (Below.refl _ _) hb2).alloc hb2.size (.cells #[.slice na xs.length nc, .map (some bm)] 106)); have c2 := HRK.out.cells; have hl := look_zero HCN.out hlen hpos HC0.out; clear hb2 hyes hcn)
        | (go_at_call 95; refine (wordAt_any _ HXR.out HD.out HCN.out t (by rw [HC0.out]; have := HLT.out; omega)).mono ?_; rintro e w9 ⟨rfl, hb⟩; have HBX := Shh.mk (HNXT.out _ _ HBX.out hb); clear hb))
      go_ret2
      exact ⟨by (rw [HR.out]; try rfl), HB0.out.trans (HBX.out.mono HB0.out.size)⟩
    · have HR := Shh.mk (wordOut_out (xs := xs) (i := i) HO.out (by rw [HC0.out]; exact hi))
      by_cases hn0 : i < 0
      case' neg => have hn1 : (C0 : Int) ≤ i := by omega
      all_goals
        clear hi
        go_enter Tryd.func55, Tryd.ntmps55
        go_wp2_with (first
          | (go_at_call 91; refine (H.out).mono ?_; rintro e w2 ⟨r, m, rfl, hb2, -, hyes⟩; obtain ⟨rfl, bm, rfl, hcn⟩ := hyes rfl; have HB2 := Shh.mk (HB0.out.trans (hb2.mono HB0.out.size)); have HRK := Shh.mk (Blk.made w2 106 #[.slice na xs.length nc, .map (some bm)]); have HCN := Shh.mk (hcn.below ((Below.refl _ _).alloc (Nat.le_refl _) (.cells #[.slice na xs.length nc, .map (some bm)] 106))); have HXR := Shh.mk ((HX.out.below hb2).alloc (.cells #[.slice na xs.length nc, .map (some bm)] 106)); have HBX := Shh.mk ((HNXT.out _ _ (Below.refl _ _) hb2).alloc hb2.size (.cells #[.slice na xs.length nc, .map (some bm)] 106)); have c2 := HRK.out.cells; have hl := look_zero HCN.out hlen hpos HC0.out; clear hb2 hyes hcn))
        go_ret2
        exact ⟨by (rw [HR.out]; try rfl), HB0.out.trans (HBX.out.mono HB0.out.size)⟩

set_option maxRecDepth 100000 in
set_option maxHeartbeats 4000000 in
theorem implNextWord_any {vd : Value} {xs : List Nod} (s : ByteArray) (hsz : s.size ≤ 1048576) (W : World) (hT : TabW W) (hx : Nds W vd xs) :
    Calls Tryd.prog 59 #[.agg #[vd], .string s] W fun e w' => e = .returned (.tuple #[.string (nextOut xs s).1, .int .i64 (nextOut xs s).2]) ∧ Below W.heap.size W w' := by
  have HB0 := Shh.mk (show Below W.heap.size W (W.alloc (.cells #[vd] 29)) from (Below.refl _ _).alloc (Nat.le_refl _) _)
  have HX := Shh.mk (hx.alloc (.cells #[vd] 29))
  have H := Shh.mk (rankedDawg_any (W.alloc (.cells #[vd] 29)) (hT.on HB0.out) HX.out)
  obtain ⟨na, nc, rfl, -⟩ := hx
  obtain ⟨b, hb⟩ : ∃ b, okDw xs = b := ⟨_, rfl⟩
  rw [hb] at H
  have HO := Shh.mk hb
  clear hb hT
  cases b
  · have HR := Shh.mk (show nextOut xs s = (ByteArray.empty, 1) from nextOut_no HO.out)
    go_enter Tryd.func59, Tryd.ntmps59
    go_wp2_with (go_at_call 91; refine (H.out).mono ?_; rintro e w2 ⟨r, m, rfl, hb2, hno, -⟩; obtain ⟨rfl, rfl⟩ := hno rfl; have HB2 := Shh.mk (HB0.out.trans (hb2.mono HB0.out.size)); clear hb2 hno)
    go_ret2
    exact ⟨by (rw [HR.out]; try rfl), HB2.out.alloc HB2.out.size _⟩
  · have HD := Shh.mk (okDw_of HO.out)
    have hpos := HD.out.shp.pos
    have hlen := HD.out.shp.len
    have hpi : (0 : Int) < (xs.length : Int) := by omega
    have hcf := HD.out.cnt_few hpos
    obtain ⟨C0, hC0⟩ : ∃ C, (gphD xs).cnt 0 = C := ⟨_, rfl⟩
    rw [hC0] at hcf
    have HC0 := Shh.mk hC0
    clear hC0
    have hwn : IntKind.i64.wrap ((C0 : Int) - 1) = (C0 : Int) - 1 := IntWalk.i64_in _ (by omega)
    have HNXT := Shh.mk (fun (w' w'' : World) (h : Below (W.alloc (.cells #[.slice na xs.length nc] 29)).heap.size (W.alloc (.cells #[.slice na xs.length nc] 29)) w') (h2 : Below w'.heap.size w' w'') => h.trans (h2.mono h.size))
    have hul := upTo_le HD.out s
    rw [HC0.out] at hul
    obtain ⟨R, hR⟩ : ∃ R, (gphD xs).rank 0 s.data.toList = R := ⟨_, rfl⟩
    obtain ⟨a, ha⟩ : ∃ a, (gphD xs).acc 0 s.data.toList = a := ⟨_, rfl⟩
    have HA := Shh.mk ha
    obtain ⟨K, hK⟩ : ∃ K, upTo xs s = K := ⟨_, rfl⟩
    have HK := Shh.mk hK
    rw [hK] at hul
    have hrk : K = R + (if a = true then 1 else 0) := by rw [← hK, ← hR, ← ha]; rfl
    have HAC := Shh.mk (fun (w' : World) (h' : Nds w' (.slice na xs.length nc) xs) => show Calls Tryd.prog 78 #[.agg #[.slice na xs.length nc], .int .i64 0, .string s] w' fun e w3 => e = .returned (.bool a) ∧ Below w'.heap.size w' w3 from by rw [← ha]; exact accepts_any w' h' HD.out.shp s hsz)
    have HRG := Shh.mk (fun (w' : World) (bm : Nat) (h' : Nds w' (.slice na xs.length nc) xs) (hc : Cnts w' bm xs) => show Calls Tryd.prog 93 #[.agg #[.slice na xs.length nc, .map (some bm)], .string s] w' fun e w3 => e = .returned (.tuple #[.int .i64 (R : Int), .int .i64 ((gphD xs).cntAt s.data.toList : Int)]) ∧ Below w'.heap.size w' w3 from by rw [← hR]; exact rangeOf_any w' h' HD.out hc s hsz)
    clear hR ha hK
    have hz : ((0 : Nat) : Int) = 0 := rfl
    cases a
    case' false =>
      obtain rfl : K = R := by simpa using hrk
      have hw2 := hz
    case' true =>
      have hw2 : IntKind.i64.wrap ((R : Int) + 1) = (K : Int) := by rw [show (R : Int) + 1 = (K : Int) by have : K = R + 1 := (by simpa using hrk); omega]; exact IntWalk.i64_in _ (by omega)
    all_goals
      clear hrk
      by_cases hi : K < C0
      · have HR := Shh.mk (show nextOut xs s = (txt ((gphD xs).word 14 0 K), 0) from by rw [nextOut_in HO.out (by rw [HK.out, HC0.out]; exact hi), HK.out])
        have HLT := Shh.mk hi
        have hne : ((K : Int) == (C0 : Int)) = false := beq_eq_false_iff_ne.2 (by omega)
        clear hi hul
        go_enter Tryd.func59, Tryd.ntmps59
        go_wp2_with (first
          | (go_at_call 91; refine (H.out).mono ?_; rintro e w2 ⟨r, m, rfl, hb2, -, hyes⟩; obtain ⟨rfl, bm, rfl, hcn⟩ := hyes rfl; have HB2 := Shh.mk (HB0.out.trans (hb2.mono HB0.out.size)); have HRK := Shh.mk (Blk.made w2 106 #[.slice na xs.length nc, .map (some bm)]); have HCN := Shh.mk (hcn.below ((Below.refl _ _).alloc (Nat.le_refl _) (.cells #[.slice na xs.length nc, .map (some bm)] 106))); have HXR := Shh.mk ((HX.out.below hb2).alloc (.cells #[.slice na xs.length nc, .map (some bm)] 106)); have HBX := Shh.mk ((HNXT.out _ _ (Below.refl _ _) hb2).alloc hb2.size (.cells #[.slice na xs.length nc, .map (some bm)] 106)); have c2 := HRK.out.cells; have hl := look_zero HCN.out hlen hpos HC0.out; clear hb2 hyes hcn)
          | (go_at_call 93; refine (HRG.out _ _ HXR.out HCN.out).mono ?_; rintro e w3 ⟨rfl, hb⟩; have HRK := Shh.mk (HRK.out.kept hb HRK.out.lt); have cw3 := HRK.out.cells; have HCN := Shh.mk (HCN.out.below hb); have HXR := Shh.mk (HXR.out.below hb); have HBX := Shh.mk (HNXT.out _ _ HBX.out hb); have hlw3 := look_zero HCN.out hlen hpos HC0.out; clear hb)
          | (go_at_call 78; refine (HAC.out _ HXR.out).mono ?_; rintro e w4 ⟨rfl, hb⟩; have HRK := Shh.mk (HRK.out.kept hb HRK.out.lt); have cw4 := HRK.out.cells; have HCN := Shh.mk (HCN.out.below hb); have HXR := Shh.mk (HXR.out.below hb); have HBX := Shh.mk (HNXT.out _ _ HBX.out hb); have hlw4 := look_zero HCN.out hlen hpos HC0.out; clear hb)
          | (go_at_call 95; refine (wordAt_any _ HXR.out HD.out HCN.out K (by rw [HC0.out]; have := HLT.out; omega)).mono ?_; rintro e w9 ⟨rfl, hb⟩; have HBX := Shh.mk (HNXT.out _ _ HBX.out hb); clear hb))
        go_ret2
        exact ⟨by (rw [HR.out]; try rfl), HB0.out.trans (HBX.out.mono HB0.out.size)⟩
      · have HR := Shh.mk (nextOut_out (xs := xs) (s := s) HO.out (by rw [HK.out, HC0.out]; exact hi))
        have hne : ((K : Int) == (C0 : Int)) = true := beq_iff_eq.2 (by omega)
        clear hi hul
        go_enter Tryd.func59, Tryd.ntmps59
        go_wp2_with (first
          | (go_at_call 91; refine (H.out).mono ?_; rintro e w2 ⟨r, m, rfl, hb2, -, hyes⟩; obtain ⟨rfl, bm, rfl, hcn⟩ := hyes rfl; have HB2 := Shh.mk (HB0.out.trans (hb2.mono HB0.out.size)); have HRK := Shh.mk (Blk.made w2 106 #[.slice na xs.length nc, .map (some bm)]); have HCN := Shh.mk (hcn.below ((Below.refl _ _).alloc (Nat.le_refl _) (.cells #[.slice na xs.length nc, .map (some bm)] 106))); have HXR := Shh.mk ((HX.out.below hb2).alloc (.cells #[.slice na xs.length nc, .map (some bm)] 106)); have HBX := Shh.mk ((HNXT.out _ _ (Below.refl _ _) hb2).alloc hb2.size (.cells #[.slice na xs.length nc, .map (some bm)] 106)); have c2 := HRK.out.cells; have hl := look_zero HCN.out hlen hpos HC0.out; clear hb2 hyes hcn)
          | (go_at_call 93; refine (HRG.out _ _ HXR.out HCN.out).mono ?_; rintro e w3 ⟨rfl, hb⟩; have HRK := Shh.mk (HRK.out.kept hb HRK.out.lt); have cw3 := HRK.out.cells; have HCN := Shh.mk (HCN.out.below hb); have HXR := Shh.mk (HXR.out.below hb); have HBX := Shh.mk (HNXT.out _ _ HBX.out hb); have hlw3 := look_zero HCN.out hlen hpos HC0.out; clear hb)
          | (go_at_call 78; refine (HAC.out _ HXR.out).mono ?_; rintro e w4 ⟨rfl, hb⟩; have HRK := Shh.mk (HRK.out.kept hb HRK.out.lt); have cw4 := HRK.out.cells; have HCN := Shh.mk (HCN.out.below hb); have HXR := Shh.mk (HXR.out.below hb); have HBX := Shh.mk (HNXT.out _ _ HBX.out hb); have hlw4 := look_zero HCN.out hlen hpos HC0.out; clear hb))
        go_ret2
        exact ⟨by (rw [HR.out]; try rfl), HB0.out.trans (HBX.out.mono HB0.out.size)⟩
end Go.Proofs.YtokfkofclpajfaaDoor
