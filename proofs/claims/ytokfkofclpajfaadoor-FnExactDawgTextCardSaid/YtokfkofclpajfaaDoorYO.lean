/-
  DawgText, both sides whole.
-/
import Derived.Test.YtokfkofclpajfaaDoorYK
namespace Go.Proofs.YtokfkofclpajfaaDoor
open Go.RowKit

set_option maxHeartbeats 2000000 in
theorem specDawgText_any {vd : Value} {xs : List Nod} (W : World) (hx : Nds W vd xs) :
    Calls Tryd.prog 45 #[.agg #[vd]] W fun e w' => e = .returned (.string (textOut xs)) ∧ Below W.heap.size W w' := by
  have HX := Shh.mk (hx.alloc (.cells #[vd] 29))
  have HBD := Shh.mk (Blk.made W 29 #[vd])
  have H := Shh.mk (l06Ok_any (W.alloc (.cells #[vd] 29)) HBD.out HX.out)
  obtain ⟨b, hb⟩ : ∃ b, okDw xs = b := ⟨_, rfl⟩
  rw [hb] at H
  have HO := Shh.mk hb
  clear hb hx
  cases b
  · have HR := Shh.mk (show textOut xs = ByteArray.empty from by unfold textOut; rw [HO.out]; rfl)
    go_enter Tryd.func45, Tryd.ntmps45
    go_wp2_with (go_at_call 65; refine (H.out).mono ?_; rintro e w2 ⟨rfl, hb2⟩; obtain ⟨d0, hB2⟩ := okD_cell hb2; clear hb2)
    go_ret
    exact ⟨by (rw [HR.out]; try rfl), hB2⟩
  · have HS := Shh.mk (okDw_of HO.out).shp
    have HR := Shh.mk (show textOut xs = txt (textTo xs xs.length) from by unfold textOut; rw [HO.out]; rfl)
    go_enter Tryd.func45, Tryd.ntmps45
    go_wp2_with (first
      | (go_at_call 65; refine (H.out).mono ?_; rintro e w2 ⟨rfl, hb2⟩; obtain ⟨d0, hB2⟩ := okD_cell hb2; have HC := Shh.mk (l06Text_any w2 (HBD.out.kept hb2 HBD.out.lt) (HX.out.below hb2) HS.out); have HB2 := Shh.mk hB2; clear hb2 hB2)
      | (go_at_call 86; refine (HC.out).mono ?_; rintro e w4 ⟨rfl, hb4⟩))
    go_ret
    exact ⟨by (rw [HR.out]; try rfl), HB2.out.trans (hb4.mono HB2.out.size)⟩

set_option maxRecDepth 100000 in
set_option maxHeartbeats 4000000 in
theorem implDawgText_any {vd : Value} {xs : List Nod} (W : World) (hT : TabW W) (hx : Nds W vd xs) :
    Calls Tryd.prog 46 #[.agg #[vd]] W fun e w' => e = .returned (.string (textOut xs)) ∧ Below W.heap.size W w' := by
  have HB0 := Shh.mk (show Below W.heap.size W (W.alloc (.cells #[vd] 29)) from (Below.refl _ _).alloc (Nat.le_refl _) _)
  have HBD := Shh.mk (Blk.made W 29 #[vd])
  have HX := Shh.mk (hx.alloc (.cells #[vd] 29))
  have HTB := Shh.mk hT
  have H := Shh.mk (implValidDawg_any (W.alloc (.cells #[vd] 29)) (hT.on HB0.out) HX.out)
  obtain ⟨na, nc, rfl, -⟩ := hx
  obtain ⟨b, hb⟩ : ∃ b, okDw xs = b := ⟨_, rfl⟩
  rw [hb] at H
  have HO := Shh.mk hb
  clear hb hT
  cases b
  · have HR := Shh.mk (show textOut xs = ByteArray.empty from by unfold textOut; rw [HO.out]; rfl)
    go_enter Tryd.func46, Tryd.ntmps46
    go_wp2_with (go_at_call 22; refine (H.out).mono ?_; rintro e w2 ⟨rfl, hb2⟩; obtain ⟨d0, hB2⟩ := okD_cell hb2; clear hb2)
    go_ret
    exact ⟨by (rw [HR.out]; try rfl), hB2⟩
  · have HS := Shh.mk (okDw_of HO.out).shp
    have hpos := HS.out.pos
    have hlen := HS.out.len
    have HR := Shh.mk (show textOut xs = txt (textTo xs xs.length) from by unfold textOut; rw [HO.out]; rfl)
    have HTL := Shh.mk (fun {k : Nat} (hk : k ≤ xs.length) => textTo_len HS.out hk)
    have HLS := Shh.mk (fun {k : Nat} (hk : k < xs.length) => ShpN.small HS.out hk)
    go_enter Tryd.func46, Tryd.ntmps46
    go_wp2_with (go_at_call 22; refine (H.out).mono ?_; rintro e V ⟨rfl, hb2⟩; obtain ⟨d0, hB2⟩ := okD_cell hb2; have HB2 := Shh.mk hB2; have HXV := Shh.mk (HX.out.below hb2); have HFR := Shh.mk (fresh_builder V); have hgV : W.heap.size < V.heap.size := (by have := hb2.size; rw [World.size_alloc] at this; omega); have dV : (V.alloc (.cells #[.pointer none, .slice none 0 0] 98)).cell? ⟨W.heap.size, 0, none⟩ = some (.slice na xs.length nc) := ((HBD.out.kept hb2 HBD.out.lt).alloc _).cells 0; clear hb2 hB2)
    clear d0 dV
    obtain ⟨na2, nc2, he, -, -, hnn⟩ := HXV.out
    simp only [Value.slice.injEq] at he
    obtain ⟨rfl, -, rfl⟩ := he
    obtain ⟨bn, on, rfl, hbn, hcn⟩ := hnn hpos
    have HN := Shh.mk hcn
    clear hcn hnn
    go_loopw [5, 12] (fun _ i wr => ∃ k : Nat, k ≤ xs.length ∧ i = .int .i64 k ∧ Shh (IsB V.heap.size V.heap.size (textTo xs k) wr) ∧ Below V.heap.size V wr) (fun _ i _ => xs.length - (intOf i).toNat)
    case atStart => exact ⟨0, Nat.zero_le _, rfl, HFR, (Below.refl _ _).alloc (Nat.le_refl _) _⟩
    case round =>
      obtain ⟨k, hkl, rfl, hB, hb⟩ := hrel
      have hbs := hb.size
      by_cases hk : k < xs.length
      · obtain ⟨n0, n1, u, n2, hu⟩ := NodIs.below (HN.out k hk) hb hbn
        have hne := HS.out.node k hk
        have htl := HTL.out (k := k) (by omega)
        have hls := HLS.out hk
        have HE := Shh.mk (show textTo xs (k + 1) = textTo xs k ++ lineW (nodG xs k) from rfl)
        have hnf := HS.out.few hk
        rw [HS.out.E_len hk] at hnf
        obtain ⟨x, hxx⟩ : ∃ x, nodG xs k = x := ⟨_, rfl⟩
        rw [hxx] at n0 n1 hu hne hls HE hnf
        obtain ⟨f, ls, ns⟩ := x
        simp only at n0 n1 n2 hu hnf
        have hlen2 : ls.size = ns.length := hne.len
        have hnat : ∀ z ∈ ns, 0 ≤ z ∧ z ≤ 3000 := fun z hz => by have := hne.next z hz; omega
        have HB := Shh.mk hb
        have HLI := Shh.mk (fun (w' : World) (h' : Below wr.heap.size wr w') => line_any (f := f) (ls := ls) w' (HTB.out.on (HB2.out.trans ((HB.out.trans (h'.mono hbs)).mono (Nat.le_of_lt hgV)))) (hu.below h') hlen2 (by omega) hnat)
        obtain ⟨T, hT⟩ : ∃ T, txt (lineW ⟨f, ls, ns⟩) = T := ⟨_, rfl⟩
        have HTT := Shh.mk (show T.data.toList = lineW ⟨f, ls, ns⟩ by rw [← hT, txt_list])
        have hTz : T.size ≤ 100000 := by rw [← hT, txt_size]; exact hls
        rw [hT] at HLI
        obtain ⟨L, hL⟩ : ∃ L, textTo xs k = L := ⟨_, rfl⟩
        rw [hL] at hB HE htl
        have hll : L.length ≤ 300000000 := by have : k * 100000 ≤ 3000 * 100000 := Nat.mul_le_mul_right _ (by omega); omega
        obtain ⟨ua, uc, rfl, -⟩ := hu
        have hba := Shh.mk ((Below.refl wr.heap.size wr).alloc (Nat.le_refl _) (.cells #[.bool f, .string ls, .slice ua ns.length uc] 71))
        clear hxx hne hls hT hL hb hlen2 hnat hnf htl
        go_wp2_with fail
        refine (HLI.out _ hba.out).mono ?_
        rintro e w2 ⟨rfl, hb2⟩
        have hb2' := hba.out.trans (hb2.mono hba.out.size)
        have HB3 := Shh.mk (HB.out.trans (hb2'.mono hbs))
        have HI2 := Shh.mk (hB.out.kept hb2')
        clear hb2 hb2' n0 n1 n2
        go_wp2_with fail
        refine (writeString_any V.heap.size V.heap.size L T _ HI2.out (by omega) HB3.out.size).mono ?_
        rw [HTT.out, ← HE.out]
        rintro e w3 ⟨rfl, hi3, hb3⟩
        have HB4 := Shh.mk (HB3.out.trans hb3)
        have HI3 := Shh.mk hi3
        clear hb3 hi3
        go_wp2
        go_roundw
        case rel => exact ⟨k + 1, by omega, by go_num, HI3, HB4.out⟩
        case measure => simp [intOf]; omega
      · obtain rfl : k = xs.length := by omega
        have hz : (textTo xs xs.length).length ≤ 1000000000 := by
          have := HTL.out (Nat.le_refl xs.length)
          have : xs.length * 100000 ≤ 3000 * 100000 := Nat.mul_le_mul_right _ (by omega)
          omega
        have HST := Shh.mk (Tryd.Builder_String_any V.heap.size V.heap.size (textTo xs xs.length) _ hB.out hbs)
        go_wp2_with fail
        refine HST.out.mono ?_
        rintro e w5 ⟨rfl, hb5⟩
        go_wp2
        go_ret
        exact ⟨by (rw [HR.out]; try rfl), HB2.out.trans ((hb.trans hb5).mono (Nat.le_of_lt hgV))⟩
end Go.Proofs.YtokfkofclpajfaaDoor
