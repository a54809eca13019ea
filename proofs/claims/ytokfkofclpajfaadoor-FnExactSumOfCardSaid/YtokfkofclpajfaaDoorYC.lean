/-
  StepDawg, NodeAfter, AcceptsWord, EdgeCount, LongestWord: the model's and the program's answers.
-/
import Derived.Test.YtokfkofclpajfaaDoorYB
import Derived.Test.YtokfkofclpajfaaDoorWM
namespace Go.Proofs.YtokfkofclpajfaaDoor
open Go.RowKit

noncomputable def stepOut (xs : List Nod) (i : Int) (c : UInt8) : Int := if okDw xs = true ∧ 0 ≤ i ∧ i < (xs.length : Int) then optI ((gphD xs).step i.toNat c) else -1
theorem stepOut_no {xs : List Nod} {i : Int} {c : UInt8} (h : okDw xs = false) : stepOut xs i c = -1 := by unfold stepOut; rw [if_neg]; rw [h]; rintro ⟨h1, -⟩; cases h1
theorem stepOut_out {xs : List Nod} {i : Int} {c : UInt8} (h : ¬ (0 ≤ i ∧ i < (xs.length : Int))) : stepOut xs i c = -1 := by unfold stepOut; rw [if_neg]; rintro ⟨-, h2⟩; exact h h2
theorem stepOut_in {xs : List Nod} {i : Nat} {c : UInt8} (h : okDw xs = true) (hi : i < xs.length) : stepOut xs (i : Int) c = optI ((gphD xs).step i c) := by unfold stepOut; rw [if_pos ⟨h, by omega, by omega⟩, Int.toNat_natCast]
noncomputable def afterOut (xs : List Nod) (s : ByteArray) : Int := if okDw xs = true then optI ((gphD xs).after 0 s.data.toList) else -1
noncomputable def accOut (xs : List Nod) (s : ByteArray) : Bool := okDw xs && (gphD xs).acc 0 s.data.toList
def edgesN (xs : List Nod) (k : Nat) : Nat := sumTo (fun j => (nodG xs j).ls.size) k
noncomputable def edgeOut (xs : List Nod) : Int × Int := if okDw xs = true then ((edgesN xs xs.length : Nat), 0) else (0, 1)
noncomputable def longOut (xs : List Nod) : Int × Int := if okDw xs = true then ((maxLen8 ((gphD xs).W 13 0) : Nat), 0) else (0, 1)
theorem edgesN_succ (xs : List Nod) (k : Nat) : edgesN xs (k + 1) = edgesN xs k + (nodG xs k).ls.size := rfl
theorem edges_small {xs : List Nod} (hs : Shp xs) : ∀ {k : Nat}, k ≤ xs.length → edgesN xs k ≤ k * 27
  | 0, _ => Nat.le_refl _
  | k + 1, h => by
    have h1 := edges_small hs (k := k) (by omega)
    have h2 := hs.few (i := k) (by omega)
    rw [hs.E_len (by omega), ← (hs.node k (by omega)).len] at h2
    rw [edgesN_succ]
    omega
theorem okD_cell {W w2 : World} {v : Value} (hb : Below (W.alloc (.cells #[v] 29)).heap.size (W.alloc (.cells #[v] 29)) w2) : w2.cell? ⟨W.heap.size, 0, none⟩ = some v ∧ Below W.heap.size W w2 :=
  ⟨((Blk.made W 29 #[v]).kept hb (Blk.made W 29 #[v]).lt).cells 0, ((Below.refl _ _).alloc (Nat.le_refl _) _).trans (hb.mono (by rw [World.size_alloc]; omega))⟩

set_option maxHeartbeats 2000000 in
theorem specStepDawg_any {vd : Value} {xs : List Nod} (i : Int) (hwi : (Lit.int .i64 i).wf = true) (c : UInt8) (W : World) (hx : Nds W vd xs) :
    Calls Tryd.prog 24 #[.agg #[vd], .int .i64 i, .int .u8 (c.toNat : Int)] W fun e w' => e = .returned (.int .i64 (stepOut xs i c)) ∧ Below W.heap.size W w' := by
  have HX := Shh.mk (hx.alloc (.cells #[vd] 29))
  have HBD := Shh.mk (Blk.made W 29 #[vd])
  have H := Shh.mk (l06Ok_any (W.alloc (.cells #[vd] 29)) HBD.out HX.out)
  obtain ⟨na, nc, rfl, hn1, hn2, -⟩ := hx
  obtain ⟨b, hb⟩ : ∃ b, okDw xs = b := ⟨_, rfl⟩
  rw [hb] at H
  have HO := Shh.mk hb
  clear hb
  cases b
  · have HR := Shh.mk (stepOut_no (i := i) (c := c) HO.out)
    go_enter Tryd.func24, Tryd.ntmps24
    go_wp2_with (go_at_call 65; refine (H.out).mono ?_; rintro e w2 ⟨rfl, hb2⟩; obtain ⟨d0, hB2⟩ := okD_cell hb2; clear hb2)
    go_ret
    exact ⟨by (rw [HR.out]; try rfl), hB2⟩
  · have hd := okDw_of HO.out
    have HS := Shh.mk hd.shp
    have hpos := hd.shp.pos
    have hlen := hd.shp.len
    have hwn : IntKind.i64.wrap ((xs.length : Int) - 1) = (xs.length : Int) - 1 := IntWalk.i64_in _ (by omega)
    clear hd
    by_cases hi : 0 ≤ i ∧ i < (xs.length : Int)
    · obtain ⟨j, rfl⟩ : ∃ j : Nat, i = (j : Int) := ⟨i.toNat, by omega⟩
      have hj : j < xs.length := by omega
      have HR := Shh.mk (stepOut_in (c := c) HO.out hj)
      have HIN := Shh.mk (show inB (j : Int) 0 ((xs.length : Int) - 1) = true from by unfold inB; simp; omega)
      clear hi
      go_enter Tryd.func24, Tryd.ntmps24
      go_wp2_with (first
        | (go_at_call 65; refine (H.out).mono ?_; rintro e w2 ⟨rfl, hb2⟩; obtain ⟨d0, hB2⟩ := okD_cell hb2; have HC := Shh.mk (l06Step_any w2 (HBD.out.kept hb2 HBD.out.lt) (HX.out.below hb2) HS.out j hj c); clear hb2)
        | (go_at_call 72; refine (in_is HIN.out _).mono ?_; rintro e w3 ⟨rfl, rfl⟩)
        | (go_at_call 73; refine (HC.out).mono ?_; rintro e w4 ⟨rfl, m, rfl⟩))
      go_ret
      exact ⟨by (rw [HR.out]; try rfl), below_drewN hB2 m⟩
    · have HR := Shh.mk (stepOut_out (c := c) hi)
      have HIN := Shh.mk (show inB i 0 ((xs.length : Int) - 1) = false from by unfold inB; simp; omega)
      clear hi
      go_enter Tryd.func24, Tryd.ntmps24
      go_wp2_with (first
        | (go_at_call 65; refine (H.out).mono ?_; rintro e w2 ⟨rfl, hb2⟩; obtain ⟨d0, hB2⟩ := okD_cell hb2; clear hb2)
        | (go_at_call 72; refine (in_is HIN.out _).mono ?_; rintro e w3 ⟨rfl, rfl⟩))
      go_ret
      exact ⟨by (rw [HR.out]; try rfl), hB2⟩

set_option maxHeartbeats 2000000 in
theorem implStepDawg_any {vd : Value} {xs : List Nod} (i : Int) (hwi : (Lit.int .i64 i).wf = true) (c : UInt8) (W : World) (hT : TabW W) (hx : Nds W vd xs) :
    Calls Tryd.prog 25 #[.agg #[vd], .int .i64 i, .int .u8 (c.toNat : Int)] W fun e w' => e = .returned (.int .i64 (stepOut xs i c)) ∧ Below W.heap.size W w' := by
  have HB0 := Shh.mk (show Below W.heap.size W (W.alloc (.cells #[vd] 29)) from (Below.refl _ _).alloc (Nat.le_refl _) _)
  have HX := Shh.mk (hx.alloc (.cells #[vd] 29))
  have H := Shh.mk (implValidDawg_any (W.alloc (.cells #[vd] 29)) (hT.on HB0.out) HX.out)
  obtain ⟨na, nc, rfl, hn1, hn2, -⟩ := hx
  obtain ⟨b, hb⟩ : ∃ b, okDw xs = b := ⟨_, rfl⟩
  rw [hb] at H
  have HO := Shh.mk hb
  clear hb hT
  cases b
  · have HR := Shh.mk (stepOut_no (i := i) (c := c) HO.out)
    go_enter Tryd.func25, Tryd.ntmps25
    go_wp2_with (go_at_call 22; refine (H.out).mono ?_; rintro e w2 ⟨rfl, hb2⟩; obtain ⟨d0, hB2⟩ := okD_cell hb2; clear hb2)
    go_ret
    exact ⟨by (rw [HR.out]; try rfl), hB2⟩
  · by_cases h0 : i < 0
    · have HR := Shh.mk (stepOut_out (xs := xs) (i := i) (c := c) (by omega))
      go_enter Tryd.func25, Tryd.ntmps25
      go_wp2_with (go_at_call 22; refine (H.out).mono ?_; rintro e w2 ⟨rfl, hb2⟩; obtain ⟨d0, hB2⟩ := okD_cell hb2; clear hb2)
      go_ret
      exact ⟨by (rw [HR.out]; try rfl), hB2⟩
    · by_cases hi : (xs.length : Int) ≤ i
      · have HR := Shh.mk (stepOut_out (xs := xs) (i := i) (c := c) (by omega))
        go_enter Tryd.func25, Tryd.ntmps25
        go_wp2_with (go_at_call 22; refine (H.out).mono ?_; rintro e w2 ⟨rfl, hb2⟩; obtain ⟨d0, hB2⟩ := okD_cell hb2; clear hb2)
        go_ret
        exact ⟨by (rw [HR.out]; try rfl), hB2⟩
      · obtain ⟨j, rfl⟩ : ∃ j : Nat, i = (j : Int) := ⟨i.toNat, by omega⟩
        have hj : j < xs.length := by omega
        have HR := Shh.mk (stepOut_in (c := c) HO.out hj)
        have HIS := Shh.mk (step_is (okDw_of HO.out).shp hj c)
        have hj2 : (j : Int) < (xs.length : Int) := by omega
        go_enter Tryd.func25, Tryd.ntmps25
        go_wp2_with (first
          | (go_at_call 22; refine (H.out).mono ?_; rintro e w2 ⟨rfl, hb2⟩; obtain ⟨d0, hB2⟩ := okD_cell hb2; obtain ⟨na2, nc2, he, -, -, hnn⟩ := HX.out.below hb2; simp only [Value.slice.injEq] at he; obtain ⟨rfl, -, rfl⟩ := he; obtain ⟨bn, on, rfl, hbn, hcn⟩ := hnn (by omega); obtain ⟨n0, n1, u, n2, hu⟩ := hcn j hj; have HB2 := Shh.mk hB2; clear hb2 hcn hnn)
          | (go_at_call 74; refine (step_any _ hu c _ HIS.out).mono ?_; rintro e w3 ⟨rfl, hb3⟩))
        go_ret
        exact ⟨by (rw [HR.out]; try rfl), HB2.out.trans (hb3.mono HB2.out.size)⟩

set_option maxHeartbeats 2000000 in
theorem specNodeAfter_any {vd : Value} {xs : List Nod} (s : ByteArray) (hsz : s.size ≤ 1048576) (W : World) (hx : Nds W vd xs) :
    Calls Tryd.prog 26 #[.agg #[vd], .string s] W fun e w' => e = .returned (.int .i64 (afterOut xs s)) ∧ Below W.heap.size W w' := by
  have HX := Shh.mk (hx.alloc (.cells #[vd] 29))
  have HBD := Shh.mk (Blk.made W 29 #[vd])
  have H := Shh.mk (l06Ok_any (W.alloc (.cells #[vd] 29)) HBD.out HX.out)
  obtain ⟨b, hb⟩ : ∃ b, okDw xs = b := ⟨_, rfl⟩
  rw [hb] at H
  have HO := Shh.mk hb
  clear hb hx
  cases b
  · have HR := Shh.mk (show afterOut xs s = -1 from by unfold afterOut; rw [HO.out]; rfl)
    go_enter Tryd.func26, Tryd.ntmps26
    go_wp2_with (go_at_call 65; refine (H.out).mono ?_; rintro e w2 ⟨rfl, hb2⟩; obtain ⟨d0, hB2⟩ := okD_cell hb2; clear hb2)
    go_ret
    exact ⟨by (rw [HR.out]; try rfl), hB2⟩
  · have hd := okDw_of HO.out
    have HS := Shh.mk hd.shp
    have hpos := hd.shp.pos
    have HR := Shh.mk (show afterOut xs s = optI ((gphD xs).after 0 s.data.toList) from by unfold afterOut; rw [HO.out]; rfl)
    clear hd
    go_enter Tryd.func26, Tryd.ntmps26
    go_wp2_with (first
      | (go_at_call 65; refine (H.out).mono ?_; rintro e w2 ⟨rfl, hb2⟩; obtain ⟨d0, hB2⟩ := okD_cell hb2; have HC := Shh.mk (l06After_any w2 (HBD.out.kept hb2 HBD.out.lt) (HX.out.below hb2) HS.out 0 hpos s hsz); clear hb2)
      | (go_at_call 75; refine (HC.out).mono ?_; rintro e w4 ⟨rfl, m, rfl⟩))
    go_ret
    exact ⟨by (rw [HR.out]; try rfl), below_drewN hB2 m⟩

set_option maxHeartbeats 2000000 in
theorem implNodeAfter_any {vd : Value} {xs : List Nod} (s : ByteArray) (hsz : s.size ≤ 1048576) (W : World) (hT : TabW W) (hx : Nds W vd xs) :
    Calls Tryd.prog 27 #[.agg #[vd], .string s] W fun e w' => e = .returned (.int .i64 (afterOut xs s)) ∧ Below W.heap.size W w' := by
  have HB0 := Shh.mk (show Below W.heap.size W (W.alloc (.cells #[vd] 29)) from (Below.refl _ _).alloc (Nat.le_refl _) _)
  have HX := Shh.mk (hx.alloc (.cells #[vd] 29))
  have H := Shh.mk (implValidDawg_any (W.alloc (.cells #[vd] 29)) (hT.on HB0.out) HX.out)
  obtain ⟨b, hb⟩ : ∃ b, okDw xs = b := ⟨_, rfl⟩
  rw [hb] at H
  have HO := Shh.mk hb
  clear hb hT hx
  cases b
  · have HR := Shh.mk (show afterOut xs s = -1 from by unfold afterOut; rw [HO.out]; rfl)
    go_enter Tryd.func27, Tryd.ntmps27
    go_wp2_with (go_at_call 22; refine (H.out).mono ?_; rintro e w2 ⟨rfl, hb2⟩; obtain ⟨d0, hB2⟩ := okD_cell hb2; clear hb2)
    go_ret
    exact ⟨by (rw [HR.out]; try rfl), hB2⟩
  · have hd := okDw_of HO.out
    have HS := Shh.mk hd.shp
    have hpos := hd.shp.pos
    have HR := Shh.mk (show afterOut xs s = optI ((gphD xs).after 0 s.data.toList) from by unfold afterOut; rw [HO.out]; rfl)
    clear hd
    go_enter Tryd.func27, Tryd.ntmps27
    go_wp2_with (first
      | (go_at_call 22; refine (H.out).mono ?_; rintro e w2 ⟨rfl, hb2⟩; obtain ⟨d0, hB2⟩ := okD_cell hb2; have HC := Shh.mk (after_any w2 (HX.out.below hb2) HS.out 0 hpos s hsz); have HB2 := Shh.mk hB2; clear hb2)
      | (go_at_call 76; refine (HC.out).mono ?_; rintro e w4 ⟨rfl, hb4⟩))
    go_ret
    exact ⟨by (rw [HR.out]; try rfl), HB2.out.trans (hb4.mono HB2.out.size)⟩

set_option maxHeartbeats 2000000 in
theorem specAcceptsWord_any {vd : Value} {xs : List Nod} (s : ByteArray) (hsz : s.size ≤ 1048576) (W : World) (hx : Nds W vd xs) :
    Calls Tryd.prog 28 #[.agg #[vd], .string s] W fun e w' => e = .returned (.bool (accOut xs s)) ∧ Below W.heap.size W w' := by
  have HX := Shh.mk (hx.alloc (.cells #[vd] 29))
  have HBD := Shh.mk (Blk.made W 29 #[vd])
  have H := Shh.mk (l06Ok_any (W.alloc (.cells #[vd] 29)) HBD.out HX.out)
  obtain ⟨b, hb⟩ : ∃ b, okDw xs = b := ⟨_, rfl⟩
  rw [hb] at H
  have HO := Shh.mk hb
  clear hb hx
  cases b
  · have HR := Shh.mk (show accOut xs s = false from by unfold accOut; rw [HO.out]; rfl)
    go_enter Tryd.func28, Tryd.ntmps28
    go_wp2_with (go_at_call 65; refine (H.out).mono ?_; rintro e w2 ⟨rfl, hb2⟩; obtain ⟨d0, hB2⟩ := okD_cell hb2; clear hb2)
    go_ret
    exact ⟨by (rw [HR.out]; try rfl), hB2⟩
  · have hd := okDw_of HO.out
    have HS := Shh.mk hd.shp
    have HR := Shh.mk (show accOut xs s = (gphD xs).acc 0 s.data.toList from by unfold accOut; rw [HO.out]; rfl)
    clear hd
    go_enter Tryd.func28, Tryd.ntmps28
    go_wp2_with (first
      | (go_at_call 65; refine (H.out).mono ?_; rintro e w2 ⟨rfl, hb2⟩; obtain ⟨d0, hB2⟩ := okD_cell hb2; have HC := Shh.mk (l06Accepts_any w2 (HBD.out.kept hb2 HBD.out.lt) (HX.out.below hb2) HS.out s hsz); clear hb2)
      | (go_at_call 77; refine (HC.out).mono ?_; rintro e w4 ⟨rfl, m, rfl⟩))
    go_ret
    exact ⟨by (rw [HR.out]; try rfl), below_drewN hB2 m⟩

set_option maxHeartbeats 2000000 in
theorem implAcceptsWord_any {vd : Value} {xs : List Nod} (s : ByteArray) (hsz : s.size ≤ 1048576) (W : World) (hT : TabW W) (hx : Nds W vd xs) :
    Calls Tryd.prog 29 #[.agg #[vd], .string s] W fun e w' => e = .returned (.bool (accOut xs s)) ∧ Below W.heap.size W w' := by
  have HB0 := Shh.mk (show Below W.heap.size W (W.alloc (.cells #[vd] 29)) from (Below.refl _ _).alloc (Nat.le_refl _) _)
  have HX := Shh.mk (hx.alloc (.cells #[vd] 29))
  have H := Shh.mk (implValidDawg_any (W.alloc (.cells #[vd] 29)) (hT.on HB0.out) HX.out)
  obtain ⟨b, hb⟩ : ∃ b, okDw xs = b := ⟨_, rfl⟩
  rw [hb] at H
  have HO := Shh.mk hb
  clear hb hT hx
  cases b
  · have HR := Shh.mk (show accOut xs s = false from by unfold accOut; rw [HO.out]; rfl)
    go_enter Tryd.func29, Tryd.ntmps29
    go_wp2_with (go_at_call 22; refine (H.out).mono ?_; rintro e w2 ⟨rfl, hb2⟩; obtain ⟨d0, hB2⟩ := okD_cell hb2; clear hb2)
    go_ret
    exact ⟨by (rw [HR.out]; try rfl), hB2⟩
  · have hd := okDw_of HO.out
    have HS := Shh.mk hd.shp
    have HR := Shh.mk (show accOut xs s = (gphD xs).acc 0 s.data.toList from by unfold accOut; rw [HO.out]; rfl)
    clear hd
    go_enter Tryd.func29, Tryd.ntmps29
    go_wp2_with (first
      | (go_at_call 22; refine (H.out).mono ?_; rintro e w2 ⟨rfl, hb2⟩; obtain ⟨d0, hB2⟩ := okD_cell hb2; have HC := Shh.mk (accepts_any w2 (HX.out.below hb2) HS.out s hsz); have HB2 := Shh.mk hB2; clear hb2)
      | (go_at_call 78; refine (HC.out).mono ?_; rintro e w4 ⟨rfl, hb4⟩))
    go_ret
    exact ⟨by (rw [HR.out]; try rfl), HB2.out.trans (hb4.mono HB2.out.size)⟩
end Go.Proofs.YtokfkofclpajfaaDoor
