/-
  BucketOf, both sides whole.
-/
import Derived.Test.YtokfkofclpajfaaDoorYU
namespace Go.Proofs.YtokfkofclpajfaaDoor
open Go.RowKit

set_option maxRecDepth 100000 in
set_option maxHeartbeats 2000000 in
theorem specBucketOf_any {vd : Value} {xs : List Nod} (i : Int) (W : World) (hx : Nds W vd xs) :
    Calls Tryd.prog 60 #[.agg #[vd], .int .i64 i] W fun e w' => ∃ v, e = .returned (.tuple #[v, .int .i64 (bucketOut xs i).2]) ∧ Strs w' v (bucketOut xs i).1 ∧ Below W.heap.size W w' := by
  have HX := Shh.mk (hx.alloc (.cells #[vd] 29))
  have HBD := Shh.mk (Blk.made W 29 #[vd])
  have H := Shh.mk (l06Ok_any (W.alloc (.cells #[vd] 29)) HBD.out HX.out)
  obtain ⟨na, nc, rfl, -⟩ := hx
  obtain ⟨b, hb⟩ : ∃ b, okDw xs = b := ⟨_, rfl⟩
  rw [hb] at H
  have HO := Shh.mk hb
  clear hb
  cases b
  · rw [bucketOut_no HO.out]
    go_enter Tryd.func60, Tryd.ntmps60
    go_wp2_with (go_at_call 65; refine (H.out).mono ?_; rintro e w2 ⟨rfl, hb2⟩; obtain ⟨d0, hB2⟩ := okD_cell hb2; clear hb2)
    go_ret2
    exact ⟨_, rfl, ⟨none, 0, rfl, Nat.le_refl _, Nat.zero_le _, fun h => absurd h (by simp)⟩, hB2⟩
  · have HD := Shh.mk (okDw_of HO.out)
    have hpos := HD.out.shp.pos
    have hlen := HD.out.shp.len
    have hwn : IntKind.i64.wrap ((xs.length : Int) - 1) = (xs.length : Int) - 1 := IntWalk.i64_in _ (by omega)
    by_cases hi : 0 ≤ i ∧ i < (xs.length : Int)
    · obtain ⟨t, rfl⟩ : ∃ t : Nat, i = (t : Int) := ⟨i.toNat, by omega⟩
      have ht : t < xs.length := by omega
      rw [bucketOut_in HO.out ht]
      have HIN := Shh.mk (show inB (t : Int) 0 ((xs.length : Int) - 1) = true from by unfold inB; simp; omega)
      have HM := Shh.mk (show ([] : List ByteArray) ++ (((gphD xs).to fun k => k == t).W 13 0).map (catB ByteArray.empty) = (((gphD xs).to fun k => k == t).W 13 0).map txt from by rw [List.nil_append]; exact List.map_congr_left fun u _ => catB_emptyW u)
      have HFEW := Shh.mk (HD.out.bucket_few ht)
      have hz : ((0 : Nat) : Int) = 0 := rfl
      clear hi
      go_enter Tryd.func60, Tryd.ntmps60
      go_wp2_with (first
        | (go_at_call 65; refine (H.out).mono ?_; rintro e w2 ⟨rfl, hb2⟩; obtain ⟨d0, hB2⟩ := okD_cell hb2; have HB2 := Shh.mk hB2; have HD2 := Shh.mk (HBD.out.kept hb2 HBD.out.lt); have HX2 := Shh.mk (HX.out.below hb2); clear hb2 hB2)
        | (go_at_call 72; refine (in_is HIN.out _).mono ?_; rintro e w3 ⟨rfl, rfl⟩; have HST := Shh.mk (show WS7 w2 W.heap.size (w2.heap.size + 1) t ((w2.alloc (.cells #[] 9)).alloc (.cells #[.pointer (some ⟨W.heap.size, 0, none⟩), .int .i64 (t : Int), .slice (some ⟨w2.heap.size, 0, none⟩) 0 0] 115)) [] from ⟨((Below.refl _ _).alloc (Nat.le_refl _) _).alloc (by rw [World.size_alloc]; omega) _, .slice (some ⟨w2.heap.size, 0, none⟩) 0 0, by have h := Blk.made (w2.alloc (.cells #[] 9)) 115 #[.pointer (some ⟨W.heap.size, 0, none⟩), .int .i64 (t : Int), .slice (some ⟨w2.heap.size, 0, none⟩) 0 0]; rw [World.size_alloc] at h; exact h, World.ownsRow.alloc (World.ownsRow_lit w2 #[] 0 (Nat.le_refl _) (by unfold maxLen; omega) rfl) _⟩); have HWK := Shh.mk (walk7_does (t := t) (gd := W.heap.size) (wb := w2.heap.size + 1) w2 HD2.out HX2.out HD.out.shp (Nat.le_succ _) 13 0 ByteArray.empty [] _ hpos (by rw [Gph.to_okH]; exact HD.out.short) (by decide) (by have := HFEW.out; simp; omega) HST.out); rw [HM.out, hz] at HWK)
        | (go_at_call 96; refine (HWK.out).mono ?_; rintro e w4 ⟨⟨vr, rfl⟩, hb4, v4, q4, o4⟩; have c4 := q4.cells 2; have HB4 := Shh.mk hb4; have HO4 := Shh.mk (OwnS.strs o4); clear hb4 o4 q4))
      go_ret2
      exact ⟨_, rfl, HO4.out, HB2.out.trans (HB4.out.mono HB2.out.size)⟩
    · rw [bucketOut_out HO.out hi]
      have HIN := Shh.mk (show inB i 0 ((xs.length : Int) - 1) = false from by unfold inB; simp; omega)
      clear hi
      go_enter Tryd.func60, Tryd.ntmps60
      go_wp2_with (first
        | (go_at_call 65; refine (H.out).mono ?_; rintro e w2 ⟨rfl, hb2⟩; obtain ⟨d0, hB2⟩ := okD_cell hb2; clear hb2)
        | (go_at_call 72; refine (in_is HIN.out _).mono ?_; rintro e w3 ⟨rfl, rfl⟩))
      go_ret2
      exact ⟨_, rfl, ⟨none, 0, rfl, Nat.le_refl _, Nat.zero_le _, fun h => absurd h (by simp)⟩, hB2⟩

set_option maxRecDepth 100000 in
set_option maxHeartbeats 2000000 in
theorem implBucketOf_any {vd : Value} {xs : List Nod} (i : Int) (W : World) (hT : TabW W) (hx : Nds W vd xs) :
    Calls Tryd.prog 61 #[.agg #[vd], .int .i64 i] W fun e w' => ∃ v, e = .returned (.tuple #[v, .int .i64 (bucketOut xs i).2]) ∧ OwnS W.heap.size w' v (bucketOut xs i).1 ∧ Below W.heap.size W w' := by
  have HB0 := Shh.mk (show Below W.heap.size W ((W.alloc (.cells #[vd] 29)).alloc (.cells #[.int .i64 i] 2)) from ((Below.refl _ _).alloc (Nat.le_refl _) _).alloc (by rw [World.size_alloc]; omega) _)
  have HX := Shh.mk ((hx.alloc (.cells #[vd] 29)).alloc (.cells #[.int .i64 i] 2))
  have HBD := Shh.mk ((Blk.made W 29 #[vd]).alloc (.cells #[.int .i64 i] 2))
  have hnb := Blk.made (W.alloc (.cells #[vd] 29)) 2 #[.int .i64 i]
  rw [World.size_alloc] at hnb
  have HNB := Shh.mk hnb
  have H := Shh.mk (implValidDawg_any ((W.alloc (.cells #[vd] 29)).alloc (.cells #[.int .i64 i] 2)) (hT.on HB0.out) HX.out)
  have d00 : ((W.alloc (.cells #[vd] 29)).alloc (.cells #[.int .i64 i] 2)).cell? ⟨W.heap.size, 0, none⟩ = some vd := HBD.out.cells 0
  obtain ⟨na, nc, rfl, -⟩ := hx
  obtain ⟨b, hb⟩ : ∃ b, okDw xs = b := ⟨_, rfl⟩
  rw [hb] at H
  have HO := Shh.mk hb
  clear hb hT hnb
  cases b
  · rw [bucketOut_no HO.out]
    go_enter Tryd.func61, Tryd.ntmps61
    go_wp2_with (go_at_call 22; refine (H.out).mono ?_; rintro e w2 ⟨rfl, hb2⟩; have HB2 := Shh.mk (HB0.out.trans (hb2.mono HB0.out.size)); clear hb2)
    go_ret2
    exact ⟨_, rfl, ⟨rfl, .inl ⟨rfl, rfl⟩⟩, HB2.out⟩
  · have HD := Shh.mk (okDw_of HO.out)
    have hpos := HD.out.shp.pos
    have hlen := HD.out.shp.len
    by_cases hi : 0 ≤ i ∧ i < (xs.length : Int)
    · obtain ⟨t, rfl⟩ : ∃ t : Nat, i = (t : Int) := ⟨i.toNat, by omega⟩
      have ht : t < xs.length := by omega
      rw [bucketOut_in HO.out ht]
      have HM := Shh.mk (show (((gphD xs).to fun k => k == t).W 13 0).map (catB ByteArray.empty) = (((gphD xs).to fun k => k == t).W 13 0).map txt from List.map_congr_left fun u _ => catB_emptyW u)
      have HFEW := Shh.mk (HD.out.bucket_few ht)
      have hn0 : ¬ (t : Int) < 0 := by omega
      have hn1 : ¬ (xs.length : Int) ≤ (t : Int) := by omega
      have hz : ((0 : Nat) : Int) = 0 := rfl
      clear hi
      go_enter Tryd.func61, Tryd.ntmps61
      go_wp2_with (first
        | (go_at_call 22; refine (H.out).mono ?_; rintro e w2 ⟨rfl, hb2⟩; have HB2 := Shh.mk (HB0.out.trans (hb2.mono HB0.out.size)); have d0 : w2.cell? ⟨W.heap.size, 0, none⟩ = some (.slice na xs.length nc) := (HBD.out.kept hb2 HBD.out.lt).cells 0; have nb2 := HNB.out.kept hb2 HNB.out.lt; have n0 : w2.cell? ⟨W.heap.size + 1, 0, none⟩ = some (.int .i64 (t : Int)) := nb2.cells 0; have HS := Shh.mk (bucket_does (t := t) w2 (HX.out.below hb2) HD.out.shp nb2 13 0 ByteArray.empty w2 hpos (by rw [Gph.to_okH]; exact HD.out.short) (by decide) (Nat.le_trans HFEW.out (by decide)) (Below.refl _ _)); rw [HM.out, hz] at HS; clear hb2 nb2)
        | (go_at_call 98; refine (HS.out).mono ?_; rintro e w4 ⟨a4, n4, c4, rfl, ho4, hb4⟩))
      go_ret2
      exact ⟨_, rfl, own_monoE ho4 HB2.out.size, HB2.out.trans (hb4.mono HB2.out.size)⟩
    · rw [bucketOut_out HO.out hi]
      by_cases h0 : i < 0
      · clear hi
        go_enter Tryd.func61, Tryd.ntmps61
        go_wp2_with (go_at_call 22; refine (H.out).mono ?_; rintro e w2 ⟨rfl, hb2⟩; have HB2 := Shh.mk (HB0.out.trans (hb2.mono HB0.out.size)); have d0 : w2.cell? ⟨W.heap.size, 0, none⟩ = some (.slice na xs.length nc) := (HBD.out.kept hb2 HBD.out.lt).cells 0; have n0 : w2.cell? ⟨W.heap.size + 1, 0, none⟩ = some (.int .i64 i) := (HNB.out.kept hb2 HNB.out.lt).cells 0; clear hb2)
        go_ret2
        exact ⟨_, rfl, ⟨rfl, .inl ⟨rfl, rfl⟩⟩, HB2.out⟩
      · have hge : (xs.length : Int) ≤ i := by omega
        clear hi
        go_enter Tryd.func61, Tryd.ntmps61
        go_wp2_with (go_at_call 22; refine (H.out).mono ?_; rintro e w2 ⟨rfl, hb2⟩; have HB2 := Shh.mk (HB0.out.trans (hb2.mono HB0.out.size)); have d0 : w2.cell? ⟨W.heap.size, 0, none⟩ = some (.slice na xs.length nc) := (HBD.out.kept hb2 HBD.out.lt).cells 0; have n0 : w2.cell? ⟨W.heap.size + 1, 0, none⟩ = some (.int .i64 i) := (HNB.out.kept hb2 HNB.out.lt).cells 0; clear hb2)
        go_ret2
        exact ⟨_, rfl, ⟨rfl, .inl ⟨rfl, rfl⟩⟩, HB2.out⟩
end Go.Proofs.YtokfkofclpajfaaDoor
