/-
  LexiconOf: the model's and the program's answers.
-/
import Derived.Test.YtokfkofclpajfaaDoorYW
import Derived.Test.YtokfkofclpajfaaDoorL5
namespace Go.Proofs.YtokfkofclpajfaaDoor
open Go.RowKit

noncomputable def lexiconOut (xs : List Nod) : List ByteArray × Int := if okDw xs = true then (if okL (((gphD xs).W 13 0).map txt) = true then (((gphD xs).W 13 0).map txt, 0) else ([], 8)) else ([], 1)
theorem lexiconOut_no {xs : List Nod} (h : okDw xs = false) : lexiconOut xs = ([], 1) := by unfold lexiconOut; rw [h]; rfl
theorem lexiconOut_bad {xs : List Nod} (h : okDw xs = true) (h2 : okL (((gphD xs).W 13 0).map txt) = false) : lexiconOut xs = ([], 8) := by unfold lexiconOut; rw [h, h2]; rfl
theorem lexiconOut_yes {xs : List Nod} (h : okDw xs = true) (h2 : okL (((gphD xs).W 13 0).map txt) = true) : lexiconOut xs = (((gphD xs).W 13 0).map txt, 0) := by unfold lexiconOut; rw [h, h2]; rfl
theorem lexiconOut_len (xs : List Nod) : (lexiconOut xs).1.length ≤ 3000 := by
  cases h : okDw xs
  · rw [lexiconOut_no h]; simp
  · cases h2 : okL (((gphD xs).W 13 0).map txt)
    · rw [lexiconOut_bad h h2]; simp
    · rw [lexiconOut_yes h h2]
      show (((gphD xs).W 13 0).map txt).length ≤ 3000
      rw [List.length_map]
      exact (okDw_of h).few
theorem words_short (xs : List Nod) : ∀ s ∈ ((gphD xs).W 13 0).map txt, s.size ≤ maxLen := fun s hs => by
  obtain ⟨t, ht, rfl⟩ := List.mem_map.1 hs
  rw [txt_size]
  have := Gph.W_len 13 0 t ht
  unfold maxLen
  omega

set_option maxRecDepth 100000 in
set_option maxHeartbeats 2000000 in
theorem specLexiconOf_any {vd : Value} {xs : List Nod} (W : World) (hx : Nds W vd xs) :
    Calls Tryd.prog 36 #[.agg #[vd]] W fun e w' => ∃ v, e = .returned (.tuple #[.agg #[v], .int .i64 (lexiconOut xs).2]) ∧ Strs w' v (lexiconOut xs).1 ∧ Below W.heap.size W w' := by
  have HB0 := Shh.mk (show Below W.heap.size W ((W.alloc (.cells #[vd] 29)).alloc (.cells #[.slice none 0 0] 45)) from ((Below.refl _ _).alloc (Nat.le_refl _) _).alloc (by rw [World.size_alloc]; omega) _)
  have HX := Shh.mk ((hx.alloc (.cells #[vd] 29)).alloc (.cells #[.slice none 0 0] 45))
  have HBD := Shh.mk ((Blk.made W 29 #[vd]).alloc (.cells #[.slice none 0 0] 45))
  have hrb := Blk.made (W.alloc (.cells #[vd] 29)) 45 #[.slice none 0 0]
  rw [World.size_alloc] at hrb
  have HRB := Shh.mk hrb
  have H := Shh.mk (l06Ok_any _ HBD.out HX.out)
  obtain ⟨b, hb⟩ : ∃ b, okDw xs = b := ⟨_, rfl⟩
  rw [hb] at H
  have HO := Shh.mk hb
  clear hb hx hrb
  cases b
  · rw [lexiconOut_no HO.out]
    go_enter Tryd.func36, Tryd.ntmps36
    go_wp2_with (go_at_call 65; refine (H.out).mono ?_; rintro e w2 ⟨rfl, hb2⟩; have HB2 := Shh.mk (HB0.out.trans (hb2.mono HB0.out.size)); have r2 := HRB.out.kept hb2 HRB.out.lt; have R2 := Shh.mk r2; have c0 := r2.cells; have m0 := r2.marks; clear hb2 r2)
    have c9 := (R2.out.stored 0 (.slice none 0 0)).cells
    refine bodyPost_ret (v := .tuple #[.agg #[.slice none 0 0], .int .i64 1]) (by simp [results, Tryd.results36, go_sem, c9]) rfl ?_
    exact ⟨_, rfl, ⟨none, 0, rfl, Nat.le_refl _, Nat.zero_le _, fun h => absurd h (by simp)⟩, HB2.out.setCell (by show W.heap.size ≤ W.heap.size + 1; omega) _⟩
  · have hd := okDw_of HO.out
    have HS := Shh.mk hd.shp
    have hpos := hd.shp.pos
    have HOK := Shh.mk (show (gphD xs).okN 14 0 0 from ⟨hd.short, by have := hd.few; show 0 + ((gphD xs).W 13 0).length ≤ 3000; omega⟩)
    have HZ := Shh.mk (words_short xs)
    obtain ⟨ws, hws⟩ : ∃ ws, ((gphD xs).W 13 0).map txt = ws := ⟨_, rfl⟩
    have HWS := Shh.mk hws
    rw [hws] at HZ
    obtain ⟨t, ht⟩ : ∃ t, okL ws = t := ⟨_, rfl⟩
    have HT := Shh.mk ht
    clear hd hws ht
    cases t
    case' false => rw [lexiconOut_bad HO.out (by rw [HWS.out]; exact HT.out)]
    case' true => rw [lexiconOut_yes HO.out (by rw [HWS.out]; exact HT.out), HWS.out]
    all_goals
      go_enter Tryd.func36, Tryd.ntmps36
      go_wp2_with (first
        | (go_at_call 65; refine (H.out).mono ?_; rintro e w2 ⟨rfl, hb2⟩; have HBX := Shh.mk hb2; have HC := Shh.mk (l06Words_any w2 (HBD.out.kept hb2 HBD.out.lt) (HX.out.below hb2) HS.out hpos); clear hb2)
        | (go_at_call 79; refine (HC.out).mono ?_; rintro e w4 ⟨vw, us, f, rfl, ho4, hf1, hf2, hb4⟩; obtain rfl : f = false := hf1.2 HOK.out; obtain rfl : us = ws := (hf2 rfl).trans HWS.out; have ho4 : OwnS w2.heap.size w4 vw us := ho4; obtain ⟨a4, c4, e4, -, -, -⟩ := own_form ho4; obtain ⟨n4, hn4⟩ : ∃ n, us.length = n := ⟨_, rfl⟩; rw [hn4] at e4; subst e4; have hB4 := HBX.out.trans (hb4.mono HBX.out.size); have HB4 := Shh.mk ((HB0.out.trans (hB4.mono HB0.out.size)).alloc (HB0.out.trans (hB4.mono HB0.out.size)).size (.cells #[.slice a4 n4 c4] 45)); have HL := Shh.mk (LexAt.made (OwnS.strs ho4)); have HOW := Shh.mk (show OwnS w2.heap.size (w4.alloc (.cells #[.slice a4 n4 c4] 45)) (.slice a4 n4 c4) us from own_kept ho4 ((Below.refl _ _).alloc (Nat.le_refl _) _)); have HWZ := Shh.mk (show W.heap.size + 1 < w2.heap.size from by have := HBX.out.size; rw [World.size_alloc, World.size_alloc] at this; omega); have R4 := Shh.mk ((HRB.out.kept hB4 HRB.out.lt).alloc (.cells #[.slice a4 n4 c4] 45)); clear hf1 hf2 hb4 ho4 hB4 hn4)
        | (go_at_call 83; refine (l05Ok_any _ HL.out HZ.out).mono ?_; rw [HT.out]; rintro e w5 ⟨rfl, n5, rfl⟩; have r5 := R4.out.drewN n5; have R5 := Shh.mk r5; have c5 := r5.cells; have m5 := r5.marks; have l5 := (HL.out.drewN n5).blk.cells; have HS5 := Shh.mk (HL.out.drewN n5).strs; have HB5 := Shh.mk (below_drewN HB4.out n5); have HW5 := Shh.mk (show OwnS w2.heap.size ((w4.alloc (.cells #[.slice a4 n4 c4] 45)).drewN n5) (.slice a4 n4 c4) us from own_kept HOW.out (below_drewN (Below.refl _ _) n5)); clear r5))
    · have c9 := (R5.out.stored 0 (.slice a4 n4 c4)).cells
      refine bodyPost_ret (v := .tuple #[.agg #[.slice a4 n4 c4], .int .i64 0]) (by simp [results, Tryd.results36, go_sem, c9]) rfl ?_
      exact ⟨_, rfl, OwnS.strs (show OwnS w2.heap.size _ (.slice a4 n4 c4) us from own_other HW5.out (fun k hk e => by have := own_block HW5.out k hk; have := HWZ.out; omega) 0 (.slice a4 n4 c4)), HB5.out.setCell (by show W.heap.size ≤ W.heap.size + 1; omega) _⟩
    · have c9 := (R5.out.stored 0 (.slice none 0 0)).cells
      refine bodyPost_ret (v := .tuple #[.agg #[.slice none 0 0], .int .i64 8]) (by simp [results, Tryd.results36, go_sem, c9]) rfl ?_
      exact ⟨_, rfl, ⟨none, 0, rfl, Nat.le_refl _, Nat.zero_le _, fun h => absurd h (by simp)⟩, HB5.out.setCell (by show W.heap.size ≤ W.heap.size + 1; omega) _⟩

set_option maxRecDepth 100000 in
set_option maxHeartbeats 2000000 in
theorem implLexiconOf_any {vd : Value} {xs : List Nod} (W : World) (hT : TabW W) (hx : Nds W vd xs) :
    Calls Tryd.prog 37 #[.agg #[vd]] W fun e w' => ∃ v, e = .returned (.tuple #[.agg #[v], .int .i64 (lexiconOut xs).2]) ∧ OwnS W.heap.size w' v (lexiconOut xs).1 ∧ Below W.heap.size W w' := by
  have HB0 := Shh.mk (show Below W.heap.size W ((W.alloc (.cells #[vd] 29)).alloc (.cells #[.slice none 0 0] 45)) from ((Below.refl _ _).alloc (Nat.le_refl _) _).alloc (by rw [World.size_alloc]; omega) _)
  have HX := Shh.mk ((hx.alloc (.cells #[vd] 29)).alloc (.cells #[.slice none 0 0] 45))
  have HBD := Shh.mk ((Blk.made W 29 #[vd]).alloc (.cells #[.slice none 0 0] 45))
  have hrb := Blk.made (W.alloc (.cells #[vd] 29)) 45 #[.slice none 0 0]
  rw [World.size_alloc] at hrb
  have HRB := Shh.mk hrb
  have d00 : ((W.alloc (.cells #[vd] 29)).alloc (.cells #[.slice none 0 0] 45)).cell? ⟨W.heap.size, 0, none⟩ = some vd := HBD.out.cells 0
  have H := Shh.mk (implWordsOf_any _ (hT.on HB0.out) HX.out)
  obtain ⟨b, hb⟩ : ∃ b, okDw xs = b := ⟨_, rfl⟩
  have HO := Shh.mk hb
  clear hb hx hrb hT
  cases b
  · rw [lexiconOut_no HO.out]
    rw [wordsOut_no HO.out] at H
    go_enter Tryd.func37, Tryd.ntmps37
    go_wp2_with (go_at_call 31; refine (H.out).mono ?_; rintro e w2 ⟨v2, rfl, ho2, hb2⟩; obtain ⟨a2, c2, rfl, -, -, -⟩ := own_form ho2; have HB2 := Shh.mk (HB0.out.trans (hb2.mono HB0.out.size)); have r2 := HRB.out.kept hb2 HRB.out.lt; have R2 := Shh.mk r2; have c0 := r2.cells; have m0 := r2.marks; clear hb2 r2 ho2)
    have c9 := (R2.out.stored 0 (.slice none 0 0)).cells
    refine bodyPost_ret (v := .tuple #[.agg #[.slice none 0 0], .int .i64 1]) (by simp [results, Tryd.results37, go_sem, c9]) rfl ?_
    exact ⟨_, rfl, ⟨rfl, .inl ⟨rfl, rfl⟩⟩, HB2.out.setCell (by show W.heap.size ≤ W.heap.size + 1; omega) _⟩
  · rw [wordsOut_yes HO.out] at H
    have HZ := Shh.mk (words_short xs)
    obtain ⟨ws, hws⟩ : ∃ ws, ((gphD xs).W 13 0).map txt = ws := ⟨_, rfl⟩
    have HWS := Shh.mk hws
    rw [hws] at HZ H
    obtain ⟨t, ht⟩ : ∃ t, okL ws = t := ⟨_, rfl⟩
    have HT := Shh.mk ht
    clear hws ht
    cases t
    case' false => rw [lexiconOut_bad HO.out (by rw [HWS.out]; exact HT.out)]
    case' true => rw [lexiconOut_yes HO.out (by rw [HWS.out]; exact HT.out), HWS.out]
    all_goals
      go_enter Tryd.func37, Tryd.ntmps37
      go_wp2_with (first
        | (go_at_call 31; refine (H.out).mono ?_; rintro e w2 ⟨v2, rfl, ho2, hb2⟩; have ho2 : OwnS ((W.alloc (.cells #[vd] 29)).alloc (.cells #[.slice none 0 0] 45)).heap.size w2 v2 ws := ho2; obtain ⟨a2, c2, e2, -, -, -⟩ := own_form ho2; obtain ⟨n2, hn2⟩ : ∃ n, ws.length = n := ⟨_, rfl⟩; rw [hn2] at e2; subst e2; have HB2 := Shh.mk ((HB0.out.trans (hb2.mono HB0.out.size)).alloc (HB0.out.trans (hb2.mono HB0.out.size)).size (.cells #[.slice a2 n2 c2] 45)); have HRR := Shh.mk ((HRB.out.kept hb2 HRB.out.lt).alloc (.cells #[.slice a2 n2 c2] 45)); have HLB := Shh.mk (Blk.made w2 45 #[.slice a2 n2 c2]); have HWZ := Shh.mk (show W.heap.size + 1 < w2.heap.size from by have := hb2.size; rw [World.size_alloc, World.size_alloc] at this; omega); have HOW := Shh.mk (show OwnS (W.heap.size + 1 + 1) (w2.alloc (.cells #[.slice a2 n2 c2] 45)) (.slice a2 n2 c2) ws from by have h9 := own_kept ho2 ((Below.refl w2.heap.size w2).alloc (Nat.le_refl _) (.cells #[.slice a2 n2 c2] 45)); rw [World.size_alloc, World.size_alloc] at h9; exact h9); clear ho2 hb2 hn2)
        | (go_at_call 84; refine (valid_on HT.out _ (OwnS.strs HOW.out) HZ.out).mono ?_; rintro e w5 ⟨rfl, hb5⟩; have r5 := HRR.out.kept hb5 HRR.out.lt; have R5 := Shh.mk r5; have c5 := r5.cells; have m5 := r5.marks; have l5 := (HLB.out.kept hb5 HLB.out.lt).cells; have HB5 := Shh.mk (HB2.out.trans (hb5.mono HB2.out.size)); have HW5 := Shh.mk (show OwnS (W.heap.size + 1 + 1) w5 (.slice a2 n2 c2) ws from own_kept HOW.out hb5); clear r5 hb5))
    · have c9 := (R5.out.stored 0 (.slice a2 n2 c2)).cells
      refine bodyPost_ret (v := .tuple #[.agg #[.slice a2 n2 c2], .int .i64 0]) (by simp [results, Tryd.results37, go_sem, c9]) rfl ?_
      exact ⟨_, rfl, own_monoE (own_other HW5.out (fun k hk e => by have := own_block HW5.out k hk; omega) 0 (.slice a2 n2 c2)) (by omega), HB5.out.setCell (by show W.heap.size ≤ W.heap.size + 1; omega) _⟩
    · have c9 := (R5.out.stored 0 (.slice none 0 0)).cells
      refine bodyPost_ret (v := .tuple #[.agg #[.slice none 0 0], .int .i64 8]) (by simp [results, Tryd.results37, go_sem, c9]) rfl ?_
      exact ⟨_, rfl, ⟨rfl, .inl ⟨rfl, rfl⟩⟩, HB5.out.setCell (by show W.heap.size ≤ W.heap.size + 1; omega) _⟩
end Go.Proofs.YtokfkofclpajfaaDoor
