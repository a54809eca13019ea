/-
  An automaton with its numbers; NumberOf and RangeOf: the model's and the program's answers.
-/
import Derived.Test.YtokfkofclpajfaaDoorYH
import Derived.Test.YtokfkofclpajfaaDoorYC
import Derived.Deep.RegionHeld3
namespace Go.Proofs.YtokfkofclpajfaaDoor
open Go.RowKit Go.Maps Go.WideMaps

set_option maxRecDepth 100000 in
set_option maxHeartbeats 4000000 in
theorem rankedDawg_any {vd : Value} {xs : List Nod} (W : World) (hT : TabW W) (hx : Nds W vd xs) :
    Calls Tryd.prog 91 #[.agg #[vd]] W fun e w' => ∃ (r m : Value), e = .returned (.tuple #[.agg #[r, m], .bool (okDw xs)]) ∧ Below W.heap.size W w' ∧ (okDw xs = false → r = .slice none 0 0 ∧ m = .map none) ∧ (okDw xs = true → r = vd ∧ ∃ b, m = .map (some b) ∧ Cnts w' b xs) := by
  have HB0 := Shh.mk (show Below W.heap.size W ((W.alloc (.cells #[vd] 29)).alloc (.cells #[.slice none 0 0, .map none] 106)) from ((Below.refl _ _).alloc (Nat.le_refl _) _).alloc (by rw [World.size_alloc]; omega) _)
  have HX := Shh.mk ((hx.alloc (.cells #[vd] 29)).alloc (.cells #[.slice none 0 0, .map none] 106))
  have HBD := Shh.mk ((Blk.made W 29 #[vd]).alloc (.cells #[.slice none 0 0, .map none] 106))
  have hrb := Blk.made (W.alloc (.cells #[vd] 29)) 106 #[.slice none 0 0, .map none]
  rw [World.size_alloc] at hrb
  have HRB := Shh.mk hrb
  obtain ⟨W1, hW1⟩ : ∃ W1, (W.alloc (.cells #[vd] 29)).alloc (.cells #[.slice none 0 0, .map none] 106) = W1 := ⟨_, rfl⟩
  rw [hW1] at HB0 HX HBD HRB
  have H := Shh.mk (implValidDawg_any W1 (hT.on HB0.out) HX.out)
  obtain ⟨na, nc, rfl, hn1, hn2, -⟩ := hx
  obtain ⟨b, hb⟩ : ∃ b, okDw xs = b := ⟨_, rfl⟩
  rw [hb] at H ⊢
  have HO := Shh.mk hb
  have d00 : W1.cell? ⟨W.heap.size, 0, none⟩ = some (.slice na xs.length nc) := HBD.out.cells 0
  clear hb hT hrb
  cases b
  · subst hW1
    go_enter Tryd.func91, Tryd.ntmps91
    go_wp2_with (go_at_call 22; refine (H.out).mono ?_; rintro e w2 ⟨rfl, hb2⟩; have HB2 := Shh.mk hb2; have r2 := HRB.out.kept hb2 HRB.out.lt; have R2 := Shh.mk r2; have c0 := r2.cells; have m0 := r2.marks; clear hb2 r2)
    have c9 := ((R2.out.stored 0 (.slice none 0 0)).stored 1 (.map none)).cells
    refine bodyPost_ret (v := .tuple #[.agg #[.slice none 0 0, .map none], .bool false]) (by simp [results, Tryd.results91, go_sem, c9]) rfl ?_
    exact ⟨_, _, rfl, ((HB0.out.trans (HB2.out.mono HB0.out.size)).setCell (by show W.heap.size ≤ W.heap.size + 1; omega) _).setCell (by show W.heap.size ≤ W.heap.size + 1; omega) _, fun _ => ⟨rfl, rfl⟩, fun h => nomatch h⟩
  · have hd := okDw_of HO.out
    have HD := Shh.mk hd
    have hpos := hd.shp.pos
    obtain ⟨rk, hrk⟩ := dawg_rank hd
    have HCF := Shh.mk (fun (w' : World) (h' : Below W1.heap.size W1 w') => countsFrom_any (rk := rk) w' (HX.out.below h') HD.out.shp (fun i hi => HD.out.short_all hi) hrk 0 HD.out.shp.pos)
    clear hd hrk
    subst hW1
    go_enter Tryd.func91, Tryd.ntmps91
    go_wp2_with (go_at_call 22; refine (H.out).mono ?_; rintro e w2 ⟨rfl, hb2⟩; have HB2 := Shh.mk hb2; have d0 : w2.cell? ⟨W.heap.size, 0, none⟩ = some (.slice na xs.length nc) := (HBD.out.kept hb2 HBD.out.lt).cells 0; clear hb2)
    have HK := Shh.mk (fun (w' : World) (h' : Below w2.heap.size w2 w') => show w'.cell? ⟨W.heap.size, 0, none⟩ = some (.slice na xs.length nc) ∧ Blk w' (W.heap.size + 1) 106 #[.slice none 0 0, .map none] ∧ Blk w' W.heap.size 29 #[.slice na xs.length nc] from
      ⟨(HBD.out.kept (HB2.out.trans (h'.mono HB2.out.size)) HBD.out.lt).cells 0, HRB.out.kept (HB2.out.trans (h'.mono HB2.out.size)) HRB.out.lt, HBD.out.kept (HB2.out.trans (h'.mono HB2.out.size)) HBD.out.lt⟩)
    go_wp2
    go_region_held3 (fun w' => w'.cell? ⟨W.heap.size, 0, none⟩ = some (.slice na xs.length nc))
      (first | exact (HK.out _ (Below.refl _ _).drew).1 | exact (HK.out _ (Below.refl _ _)).1 | exact (HK.out _ hbx).1 | exact K5.out _ _ | exact K6.out _)
      (first | (go_at_call 70; refine (HCF.out _ (by first | exact HB2.out.drew | exact HB2.out)).mono ?_; rintro e w5 ⟨b5, ks, D, rfl, hbb, hmap, hcm, h0k, hnd, hkn, hcl, hb5⟩; have hbx : Below w2.heap.size w2 w5 := (by first | exact (Below.refl _ _).drew.trans hb5 | exact hb5); obtain ⟨-, r5, s5⟩ := HK.out _ hbx; have R5 := Shh.mk r5; have c5 := r5.cells; have m5 := r5.marks; have K6 := Shh.mk (fun u1 => (s5.other (p := ⟨W.heap.size + 1, 0, none⟩) (by show W.heap.size ≠ W.heap.size + 1; omega) u1).cells 0); have K5 := Shh.mk (fun u1 u2 => ((s5.other (p := ⟨W.heap.size + 1, 0, none⟩) (by show W.heap.size ≠ W.heap.size + 1; omega) u1).other (p := ⟨W.heap.size + 1, 1, none⟩) (by show W.heap.size ≠ W.heap.size + 1; omega) u2).cells 0); have HC5 := Shh.mk (show Cnts w5 b5 xs from ⟨ks, D, hmap, hcm, fun i hi => HD.out.all (D := fun i => i ∈ ks) h0k hcl hi⟩); clear hmap hcm h0k hnd hkn hcl))
    all_goals
      have c9 := ((R5.out.stored 0 (.slice na xs.length nc)).stored 1 (.map (some b5))).cells
      go_wp2
      refine bodyPost_ret (v := .tuple #[.agg #[.slice na xs.length nc, .map (some b5)], .bool true]) (by simp [results, Tryd.results91, go_sem, c9]) rfl ?_
      refine ⟨_, _, rfl, ?_, (fun h => nomatch h), fun _ => ⟨rfl, b5, rfl, ?_⟩⟩
      · exact ((HB0.out.trans ((HB2.out.trans (hbx.mono HB2.out.size)).mono HB0.out.size)).setCell (by show W.heap.size ≤ W.heap.size + 1; omega) _).setCell (by show W.heap.size ≤ W.heap.size + 1; omega) _
      · obtain ⟨ks, D, h1, h2, h3⟩ := HC5.out
        exact ⟨ks, D, h1.kept (grown_store (grown_store (World.grownBy.refl _ _) 0 _) 1 _) (fun e => map_not_blk h1 R5.out (Option.some.inj e)), h2, h3⟩

noncomputable def numOut (xs : List Nod) (s : ByteArray) : Int × Int := if okDw xs = true then (if (gphD xs).acc 0 s.data.toList = true then (((gphD xs).rank 0 s.data.toList : Nat), 0) else (0, 3)) else (0, 1)
noncomputable def rangeOut (xs : List Nod) (s : ByteArray) : Int × Int × Int := if okDw xs = true then (((gphD xs).rank 0 s.data.toList : Nat), ((gphD xs).cntAt s.data.toList : Nat), 0) else (0, 0, 1)

set_option maxHeartbeats 2000000 in
theorem specNumberOf_any {vd : Value} {xs : List Nod} (s : ByteArray) (hsz : s.size ≤ 1048576) (W : World) (hx : Nds W vd xs) :
    Calls Tryd.prog 52 #[.agg #[vd], .string s] W fun e w' => e = .returned (.tuple #[.int .i64 (numOut xs s).1, .int .i64 (numOut xs s).2]) ∧ Below W.heap.size W w' := by
  have HX := Shh.mk (hx.alloc (.cells #[vd] 29))
  have HBD := Shh.mk (Blk.made W 29 #[vd])
  have H := Shh.mk (l06Ok_any (W.alloc (.cells #[vd] 29)) HBD.out HX.out)
  obtain ⟨b, hb⟩ : ∃ b, okDw xs = b := ⟨_, rfl⟩
  rw [hb] at H
  have HO := Shh.mk hb
  clear hb hx
  cases b
  · have HR := Shh.mk (show numOut xs s = (0, 1) from by unfold numOut; rw [HO.out]; rfl)
    go_enter Tryd.func52, Tryd.ntmps52
    go_wp2_with (go_at_call 65; refine (H.out).mono ?_; rintro e w2 ⟨rfl, hb2⟩; obtain ⟨d0, hB2⟩ := okD_cell hb2; clear hb2)
    go_ret2
    exact ⟨by (rw [HR.out]; try rfl), hB2⟩
  · have HD := Shh.mk (okDw_of HO.out)
    obtain ⟨a, ha⟩ : ∃ a, (gphD xs).acc 0 s.data.toList = a := ⟨_, rfl⟩
    have HA := Shh.mk ha
    clear ha
    have HAC := Shh.mk (fun (w' : World) (h' : Below (W.alloc (.cells #[vd] 29)).heap.size (W.alloc (.cells #[vd] 29)) w') => l06Accepts_any w' (HBD.out.kept h' HBD.out.lt) (HX.out.below h') HD.out.shp s hsz)
    rw [HA.out] at HAC
    cases a
    · have HR := Shh.mk (show numOut xs s = (0, 3) from by unfold numOut; rw [HO.out, HA.out]; rfl)
      go_enter Tryd.func52, Tryd.ntmps52
      go_wp2_with (first
        | (go_at_call 65; refine (H.out).mono ?_; rintro e w2 ⟨rfl, hb2⟩; obtain ⟨d0, hB2⟩ := okD_cell hb2; have HBX := Shh.mk hb2; clear hb2)
        | (go_at_call 77; refine (HAC.out _ HBX.out).mono ?_; rintro e w3 ⟨rfl, k, rfl⟩))
      go_ret2
      exact ⟨by (rw [HR.out]; try rfl), below_drewN hB2 k⟩
    · have HR := Shh.mk (show numOut xs s = ((((gphD xs).rank 0 s.data.toList : Nat) : Int), (0 : Int)) from by unfold numOut; rw [HO.out, HA.out]; rfl)
      have HLS := Shh.mk (fun (w' : World) (h' : Below (W.alloc (.cells #[vd] 29)).heap.size (W.alloc (.cells #[vd] 29)) w') => l07Less_any w' (HBD.out.kept h' HBD.out.lt) (HX.out.below h') HD.out s hsz)
      go_enter Tryd.func52, Tryd.ntmps52
      go_wp2_with (first
        | (go_at_call 65; refine (H.out).mono ?_; rintro e w2 ⟨rfl, hb2⟩; obtain ⟨d0, hB2⟩ := okD_cell hb2; have HBX := Shh.mk hb2; have HB2 := Shh.mk hB2; clear hb2 hB2)
        | (go_at_call 77; refine (HAC.out _ HBX.out).mono ?_; rintro e w3 ⟨rfl, k, rfl⟩)
        | (go_at_call 92; refine (HLS.out _ (below_drewN HBX.out k)).mono ?_; rintro e w4 ⟨rfl, hb4⟩))
      go_ret2
      exact ⟨by (rw [HR.out]; try rfl), (below_drewN HB2.out k).trans (hb4.mono (below_drewN HB2.out k).size)⟩

set_option maxHeartbeats 2000000 in
theorem specRangeOf_any {vd : Value} {xs : List Nod} (s : ByteArray) (hsz : s.size ≤ 1048576) (W : World) (hx : Nds W vd xs) :
    Calls Tryd.prog 56 #[.agg #[vd], .string s] W fun e w' => e = .returned (.tuple #[.int .i64 (rangeOut xs s).1, .int .i64 (rangeOut xs s).2.1, .int .i64 (rangeOut xs s).2.2]) ∧ Below W.heap.size W w' := by
  have HX := Shh.mk (hx.alloc (.cells #[vd] 29))
  have HBD := Shh.mk (Blk.made W 29 #[vd])
  have H := Shh.mk (l06Ok_any (W.alloc (.cells #[vd] 29)) HBD.out HX.out)
  obtain ⟨b, hb⟩ : ∃ b, okDw xs = b := ⟨_, rfl⟩
  rw [hb] at H
  have HO := Shh.mk hb
  clear hb hx
  cases b
  · have HR := Shh.mk (show rangeOut xs s = (0, 0, 1) from by unfold rangeOut; rw [HO.out]; rfl)
    go_enter Tryd.func56, Tryd.ntmps56
    go_wp2_with (go_at_call 65; refine (H.out).mono ?_; rintro e w2 ⟨rfl, hb2⟩; obtain ⟨d0, hB2⟩ := okD_cell hb2; clear hb2)
    go_ret3
    exact ⟨by (rw [HR.out]; try rfl), hB2⟩
  · have HD := Shh.mk (okDw_of HO.out)
    have hpos := HD.out.shp.pos
    obtain ⟨a, ha⟩ : ∃ a, (gphD xs).after 0 s.data.toList = a := ⟨_, rfl⟩
    have HA := Shh.mk ha
    clear ha
    have HAF := Shh.mk (fun (w' : World) (h' : Below (W.alloc (.cells #[vd] 29)).heap.size (W.alloc (.cells #[vd] 29)) w') => l06After_any w' (HBD.out.kept h' HBD.out.lt) (HX.out.below h') HD.out.shp 0 hpos s hsz)
    have HLS := Shh.mk (fun (w' : World) (h' : Below (W.alloc (.cells #[vd] 29)).heap.size (W.alloc (.cells #[vd] 29)) w') => l07Less_any w' (HBD.out.kept h' HBD.out.lt) (HX.out.below h') HD.out s hsz)
    rw [HA.out] at HAF
    cases a with
    | none =>
      have HR := Shh.mk (show rangeOut xs s = ((((gphD xs).rank 0 s.data.toList : Nat) : Int), (0 : Int), (0 : Int)) from by unfold rangeOut Gph.cntAt; rw [HO.out, HA.out]; rfl)
      rw [optI_none] at HAF
      go_enter Tryd.func56, Tryd.ntmps56
      go_wp2_with (first
        | (go_at_call 65; refine (H.out).mono ?_; rintro e w2 ⟨rfl, hb2⟩; obtain ⟨d0, hB2⟩ := okD_cell hb2; have HBX := Shh.mk hb2; have HB2 := Shh.mk hB2; clear hb2 hB2)
        | (go_at_call 75; refine (HAF.out _ HBX.out).mono ?_; rintro e w3 ⟨rfl, k, rfl⟩)
        | (go_at_call 92; refine (HLS.out _ (below_drewN HBX.out k)).mono ?_; rintro e w4 ⟨rfl, hb4⟩))
      go_ret3
      exact ⟨by (rw [HR.out]; try rfl), (below_drewN HB2.out k).trans (hb4.mono (below_drewN HB2.out k).size)⟩
    | some j =>
      have hj := HD.out.shp.after_lt hpos HA.out
      have hj0 : (0 : Int) ≤ (j : Int) := by omega
      have HR := Shh.mk (show rangeOut xs s = ((((gphD xs).rank 0 s.data.toList : Nat) : Int), (((gphD xs).cnt j : Nat) : Int), (0 : Int)) from by unfold rangeOut Gph.cntAt; rw [HO.out, HA.out]; rfl)
      have HCO := Shh.mk (fun (w' : World) (h' : Below (W.alloc (.cells #[vd] 29)).heap.size (W.alloc (.cells #[vd] 29)) w') => l07Counts_any w' (HBD.out.kept h' HBD.out.lt) (HX.out.below h') HD.out)
      rw [optI_some] at HAF
      go_enter Tryd.func56, Tryd.ntmps56
      go_wp2_with (first
        | (go_at_call 65; refine (H.out).mono ?_; rintro e w2 ⟨rfl, hb2⟩; obtain ⟨d0, hB2⟩ := okD_cell hb2; have HBX := Shh.mk hb2; have HB2 := Shh.mk hB2; clear hb2 hB2)
        | (go_at_call 75; refine (HAF.out _ HBX.out).mono ?_; rintro e w3 ⟨rfl, k, rfl⟩)
        | (go_at_call 90; refine (HCO.out _ (below_drewN HBX.out k)).mono ?_; rintro e w4 ⟨g, cp, rfl, hrow, hb4⟩; have crow := (rowI_at (m := fun i => ((gphD xs).cnt i : Int)) hrow hj).1; have HBY := Shh.mk ((below_drewN HBX.out k).trans (hb4.mono (below_drewN HBX.out k).size)); have HB4 := Shh.mk ((below_drewN HB2.out k).trans (hb4.mono (below_drewN HB2.out k).size)); clear hrow hb4)
        | (go_at_call 92; refine (HLS.out _ HBY.out).mono ?_; rintro e w5 ⟨rfl, hb5⟩))
      go_ret3
      exact ⟨by (rw [HR.out]; try rfl), HB4.out.trans (hb5.mono HB4.out.size)⟩

set_option maxHeartbeats 2000000 in
theorem implRangeOf_any {vd : Value} {xs : List Nod} (s : ByteArray) (hsz : s.size ≤ 1048576) (W : World) (hT : TabW W) (hx : Nds W vd xs) :
    Calls Tryd.prog 57 #[.agg #[vd], .string s] W fun e w' => e = .returned (.tuple #[.int .i64 (rangeOut xs s).1, .int .i64 (rangeOut xs s).2.1, .int .i64 (rangeOut xs s).2.2]) ∧ Below W.heap.size W w' := by
  have HB0 := Shh.mk (show Below W.heap.size W (W.alloc (.cells #[vd] 29)) from (Below.refl _ _).alloc (Nat.le_refl _) _)
  have HX := Shh.mk (hx.alloc (.cells #[vd] 29))
  have H := Shh.mk (rankedDawg_any (W.alloc (.cells #[vd] 29)) (hT.on HB0.out) HX.out)
  obtain ⟨na, nc, rfl, -⟩ := hx
  obtain ⟨b, hb⟩ : ∃ b, okDw xs = b := ⟨_, rfl⟩
  rw [hb] at H
  have HO := Shh.mk hb
  clear hb hT
  cases b
  · have HR := Shh.mk (show rangeOut xs s = (0, 0, 1) from by unfold rangeOut; rw [HO.out]; rfl)
    go_enter Tryd.func57, Tryd.ntmps57
    go_wp2_with (go_at_call 91; refine (H.out).mono ?_; rintro e w2 ⟨r, m, rfl, hb2, hno, -⟩; obtain ⟨rfl, rfl⟩ := hno rfl; have HB2 := Shh.mk (HB0.out.trans (hb2.mono HB0.out.size)); clear hb2 hno)
    go_ret3
    exact ⟨by (rw [HR.out]; try rfl), HB2.out.alloc HB2.out.size _⟩
  · have HD := Shh.mk (okDw_of HO.out)
    have HR := Shh.mk (show rangeOut xs s = ((((gphD xs).rank 0 s.data.toList : Nat) : Int), (((gphD xs).cntAt s.data.toList : Nat) : Int), (0 : Int)) from by unfold rangeOut; rw [HO.out]; rfl)
    go_enter Tryd.func57, Tryd.ntmps57
    go_wp2_with (first
      | (go_at_call 91; refine (H.out).mono ?_; rintro e w2 ⟨r, m, rfl, hb2, -, hyes⟩; obtain ⟨rfl, bm, rfl, hcn⟩ := hyes rfl; have HBX := Shh.mk hb2; have HCN := Shh.mk hcn; have HB2 := Shh.mk (HB0.out.trans (hb2.mono HB0.out.size)); clear hb2 hyes hcn)
      | (go_at_call 93; refine (rangeOf_any _ ((HX.out.below HBX.out).alloc _) HD.out (HCN.out.below ((Below.refl _ _).alloc (Nat.le_refl _) _)) s hsz).mono ?_; rintro e w4 ⟨rfl, hb4⟩))
    go_ret3
    exact ⟨by (rw [HR.out]; try rfl), (HB2.out.alloc HB2.out.size _).trans (hb4.mono (HB2.out.alloc HB2.out.size (.cells #[.slice na xs.length nc, .map (some bm)] 106)).size)⟩

set_option maxHeartbeats 2000000 in
theorem implNumberOf_any {vd : Value} {xs : List Nod} (s : ByteArray) (hsz : s.size ≤ 1048576) (W : World) (hT : TabW W) (hx : Nds W vd xs) :
    Calls Tryd.prog 53 #[.agg #[vd], .string s] W fun e w' => e = .returned (.tuple #[.int .i64 (numOut xs s).1, .int .i64 (numOut xs s).2]) ∧ Below W.heap.size W w' := by
  have HB0 := Shh.mk (show Below W.heap.size W (W.alloc (.cells #[vd] 29)) from (Below.refl _ _).alloc (Nat.le_refl _) _)
  have HX := Shh.mk (hx.alloc (.cells #[vd] 29))
  have H := Shh.mk (rankedDawg_any (W.alloc (.cells #[vd] 29)) (hT.on HB0.out) HX.out)
  obtain ⟨na, nc, rfl, -⟩ := hx
  obtain ⟨b, hb⟩ : ∃ b, okDw xs = b := ⟨_, rfl⟩
  rw [hb] at H
  have HO := Shh.mk hb
  clear hb hT
  cases b
  · have HR := Shh.mk (show numOut xs s = (0, 1) from by unfold numOut; rw [HO.out]; rfl)
    go_enter Tryd.func53, Tryd.ntmps53
    go_wp2_with (go_at_call 91; refine (H.out).mono ?_; rintro e w2 ⟨r, m, rfl, hb2, hno, -⟩; obtain ⟨rfl, rfl⟩ := hno rfl; have HB2 := Shh.mk (HB0.out.trans (hb2.mono HB0.out.size)); clear hb2 hno)
    go_ret2
    exact ⟨by (rw [HR.out]; try rfl), HB2.out.alloc HB2.out.size _⟩
  · have HD := Shh.mk (okDw_of HO.out)
    obtain ⟨a, ha⟩ : ∃ a, (gphD xs).acc 0 s.data.toList = a := ⟨_, rfl⟩
    have HA := Shh.mk ha
    have HAC := Shh.mk (fun (w' : World) (h' : Nds w' (.slice na xs.length nc) xs) => show Calls Tryd.prog 78 #[.agg #[.slice na xs.length nc], .int .i64 0, .string s] w' fun e w3 => e = .returned (.bool a) ∧ Below w'.heap.size w' w3 from by rw [← ha]; exact accepts_any w' h' HD.out.shp s hsz)
    clear ha
    cases a
    · have HR := Shh.mk (show numOut xs s = (0, 3) from by unfold numOut; rw [HO.out, HA.out]; rfl)
      go_enter Tryd.func53, Tryd.ntmps53
      go_wp2_with (first
        | (go_at_call 91; refine (H.out).mono ?_; rintro e w2 ⟨r, m, rfl, hb2, -, hyes⟩; obtain ⟨rfl, bm, rfl, hcn⟩ := hyes rfl; have HBX := Shh.mk hb2; have HB2 := Shh.mk (HB0.out.trans (hb2.mono HB0.out.size)); clear hb2 hyes hcn)
        | (go_at_call 78; refine (HAC.out _ ((HX.out.below HBX.out).alloc _)).mono ?_; rintro e w4 ⟨rfl, hb4⟩))
      go_ret2
      exact ⟨by (rw [HR.out]; try rfl), (HB2.out.alloc HB2.out.size _).trans (hb4.mono (HB2.out.alloc HB2.out.size (.cells #[.slice na xs.length nc, .map (some bm)] 106)).size)⟩
    · have HR := Shh.mk (show numOut xs s = ((((gphD xs).rank 0 s.data.toList : Nat) : Int), (0 : Int)) from by unfold numOut; rw [HO.out, HA.out]; rfl)
      go_enter Tryd.func53, Tryd.ntmps53
      go_wp2_with (first
        | (go_at_call 91; refine (H.out).mono ?_; rintro e w2 ⟨r, m, rfl, hb2, -, hyes⟩; obtain ⟨rfl, bm, rfl, hcn⟩ := hyes rfl; have HBX := Shh.mk hb2; have HCN := Shh.mk hcn; have HB2 := Shh.mk (HB0.out.trans (hb2.mono HB0.out.size)); have HRK := Shh.mk (Blk.made w2 106 #[.slice na xs.length nc, .map (some bm)]); clear hb2 hyes hcn)
        | (go_at_call 78; refine (HAC.out _ ((HX.out.below HBX.out).alloc _)).mono ?_; rintro e w4 ⟨rfl, hb4⟩; have HB4 := Shh.mk hb4; have r4 := (HRK.out.kept hb4 HRK.out.lt).cells; clear hb4)
        | (go_at_call 93; refine (rangeOf_any _ (((HX.out.below HBX.out).alloc _).below HB4.out) HD.out ((HCN.out.below ((Below.refl _ _).alloc (Nat.le_refl _) _)).below HB4.out) s hsz).mono ?_; rintro e w5 ⟨rfl, hb5⟩))
      go_ret2
      have hq := (HB2.out.alloc HB2.out.size (.cells #[.slice na xs.length nc, .map (some bm)] 106)).trans (HB4.out.mono (HB2.out.alloc HB2.out.size (.cells #[.slice na xs.length nc, .map (some bm)] 106)).size)
      exact ⟨by (rw [HR.out]; try rfl), hq.trans (hb5.mono hq.size)⟩
end Go.Proofs.YtokfkofclpajfaaDoor
