/-
  WordsOf and BucketOf: the model's and the program's answers.
-/
import Derived.Test.YtokfkofclpajfaaDoorYE
import Derived.Test.YtokfkofclpajfaaDoorYC
import Derived.Test.YtokfkofclpajfaaDoorWM
namespace Go.Proofs.YtokfkofclpajfaaDoor
open Go.RowKit

theorem catB_emptyW (t : List UInt8) : catB ByteArray.empty t = txt t := by unfold catB; rfl
noncomputable def wordsOut (xs : List Nod) : List ByteArray × Int := if okDw xs = true then (((gphD xs).W 13 0).map txt, 0) else ([], 1)
theorem wordsOut_no {xs : List Nod} (h : okDw xs = false) : wordsOut xs = ([], 1) := by unfold wordsOut; rw [h]; rfl
theorem wordsOut_yes {xs : List Nod} (h : okDw xs = true) : wordsOut xs = (((gphD xs).W 13 0).map txt, 0) := by unfold wordsOut; rw [h]; rfl
theorem wordsOut_len (xs : List Nod) : (wordsOut xs).1.length ≤ 3000 := by
  cases h : okDw xs
  · rw [wordsOut_no h]; simp
  · rw [wordsOut_yes h]
    show (((gphD xs).W 13 0).map txt).length ≤ 3000
    rw [List.length_map]
    exact (okDw_of h).few

set_option maxHeartbeats 2000000 in
theorem specWordsOf_any {vd : Value} {xs : List Nod} (W : World) (hx : Nds W vd xs) :
    Calls Tryd.prog 30 #[.agg #[vd]] W fun e w' => ∃ v, e = .returned (.tuple #[v, .int .i64 (wordsOut xs).2]) ∧ Strs w' v (wordsOut xs).1 ∧ Below W.heap.size W w' := by
  have HX := Shh.mk (hx.alloc (.cells #[vd] 29))
  have HBD := Shh.mk (Blk.made W 29 #[vd])
  have H := Shh.mk (l06Ok_any (W.alloc (.cells #[vd] 29)) HBD.out HX.out)
  obtain ⟨b, hb⟩ : ∃ b, okDw xs = b := ⟨_, rfl⟩
  rw [hb] at H
  have HO := Shh.mk hb
  clear hb hx
  cases b
  · rw [wordsOut_no HO.out]
    go_enter Tryd.func30, Tryd.ntmps30
    go_wp2_with (go_at_call 65; refine (H.out).mono ?_; rintro e w2 ⟨rfl, hb2⟩; obtain ⟨d0, hB2⟩ := okD_cell hb2; clear hb2)
    go_ret2
    exact ⟨_, rfl, ⟨none, 0, rfl, Nat.le_refl _, Nat.zero_le _, fun h => absurd h (by simp)⟩, hB2⟩
  · have hd := okDw_of HO.out
    have HS := Shh.mk hd.shp
    have hpos := hd.shp.pos
    have HOK := Shh.mk (show (gphD xs).okN 14 0 0 from ⟨hd.short, by have := hd.few; show 0 + ((gphD xs).W 13 0).length ≤ 3000; omega⟩)
    clear hd
    rw [wordsOut_yes HO.out]
    go_enter Tryd.func30, Tryd.ntmps30
    go_wp2_with (first
      | (go_at_call 65; refine (H.out).mono ?_; rintro e w2 ⟨rfl, hb2⟩; obtain ⟨d0, hB2⟩ := okD_cell hb2; have HC := Shh.mk (l06Words_any w2 (HBD.out.kept hb2 HBD.out.lt) (HX.out.below hb2) HS.out hpos); have HB2 := Shh.mk hB2; clear hb2 hB2)
      | (go_at_call 79; refine (HC.out).mono ?_; rintro e w4 ⟨vw, us, f, rfl, ho4, hf1, hf2, hb4⟩; obtain rfl : f = false := hf1.2 HOK.out; obtain rfl := hf2 rfl; have HO4 := Shh.mk (OwnS.strs ho4); have HB4 := Shh.mk (HB2.out.trans (hb4.mono HB2.out.size)); clear hf1 hf2 ho4 hb4))
    go_ret2
    exact ⟨_, rfl, HO4.out, HB4.out⟩

set_option maxHeartbeats 2000000 in
theorem words_any {v : Value} {xs : List Nod} (W : World) (hx : Nds W v xs) (ho : DawgOk xs) :
    Calls Tryd.prog 80 #[.agg #[v]] W fun e w' => ∃ a n c, e = .returned (.slice a n c) ∧ OwnS W.heap.size w' (.slice a n c) (((gphD xs).W 13 0).map txt) ∧ Below W.heap.size W w' := by
  have HB0 := Shh.mk (show Below W.heap.size W (W.alloc (.cells #[v] 29)) from (Below.refl _ _).alloc (Nat.le_refl _) _)
  have HX := Shh.mk (hx.alloc (.cells #[v] 29))
  have HS := Shh.mk (strings_does (W.alloc (.cells #[v] 29)) HX.out ho.shp 13 0 ByteArray.empty (W.alloc (.cells #[v] 29)) ho.shp.pos ho.short (by decide) (Nat.le_trans ho.few (by decide)) (Below.refl _ _))
  have HM := Shh.mk (show ((gphD xs).W 13 0).map (catB ByteArray.empty) = ((gphD xs).W 13 0).map txt from List.map_congr_left fun t _ => catB_emptyW t)
  rw [HM.out] at HS
  have hz : ((0 : Nat) : Int) = 0 := rfl
  rw [hz] at HS
  clear hx ho hz
  go_enter Tryd.func80, Tryd.ntmps80
  go_wp2_with (go_at_call 98; refine (HS.out).mono ?_; rintro e w2 ⟨a, n, c, rfl, ho2, hb2⟩)
  go_ret
  exact ⟨a, n, c, rfl, own_monoE ho2 HB0.out.size, HB0.out.trans (hb2.mono HB0.out.size)⟩

set_option maxHeartbeats 2000000 in
theorem implWordsOf_any {vd : Value} {xs : List Nod} (W : World) (hT : TabW W) (hx : Nds W vd xs) :
    Calls Tryd.prog 31 #[.agg #[vd]] W fun e w' => ∃ v, e = .returned (.tuple #[v, .int .i64 (wordsOut xs).2]) ∧ OwnS W.heap.size w' v (wordsOut xs).1 ∧ Below W.heap.size W w' := by
  have HB0 := Shh.mk (show Below W.heap.size W (W.alloc (.cells #[vd] 29)) from (Below.refl _ _).alloc (Nat.le_refl _) _)
  have HX := Shh.mk (hx.alloc (.cells #[vd] 29))
  have H := Shh.mk (implValidDawg_any (W.alloc (.cells #[vd] 29)) (hT.on HB0.out) HX.out)
  obtain ⟨b, hb⟩ : ∃ b, okDw xs = b := ⟨_, rfl⟩
  rw [hb] at H
  have HO := Shh.mk hb
  clear hb hT hx
  cases b
  · rw [wordsOut_no HO.out]
    go_enter Tryd.func31, Tryd.ntmps31
    go_wp2_with (go_at_call 22; refine (H.out).mono ?_; rintro e w2 ⟨rfl, hb2⟩; obtain ⟨d0, hB2⟩ := okD_cell hb2; clear hb2)
    go_ret2
    exact ⟨_, rfl, ⟨rfl, .inl ⟨rfl, rfl⟩⟩, hB2⟩
  · have hd := okDw_of HO.out
    rw [wordsOut_yes HO.out]
    go_enter Tryd.func31, Tryd.ntmps31
    go_wp2_with (first
      | (go_at_call 22; refine (H.out).mono ?_; rintro e w2 ⟨rfl, hb2⟩; obtain ⟨d0, hB2⟩ := okD_cell hb2; have HC := Shh.mk (words_any w2 (HX.out.below hb2) hd); have HB2 := Shh.mk hB2; clear hb2)
      | (go_at_call 80; refine (HC.out).mono ?_; rintro e w4 ⟨a4, n4, c4, rfl, ho4, hb4⟩))
    go_ret2
    exact ⟨_, rfl, own_monoE ho4 HB2.out.size, HB2.out.trans (hb4.mono HB2.out.size)⟩
end Go.Proofs.YtokfkofclpajfaaDoor
