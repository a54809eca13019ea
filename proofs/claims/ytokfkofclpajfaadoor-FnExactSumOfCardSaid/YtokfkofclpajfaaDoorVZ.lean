/-
  The automaton of ordered strings, and whether an automaton is valid: the model's answers, whole.
  Whether an automaton is valid: the model's l06Ok, whole.
-/
import Derived.Test.YtokfkofclpajfaaDoorVX
import Derived.Test.YtokfkofclpajfaaDoorVI
import Derived.Test.YtokfkofclpajfaaDoorNB
import Derived.Test.YtokfkofclpajfaaDoorVH
namespace Go.Proofs.YtokfkofclpajfaaDoor
open Go.RowKit

theorem build_fix {W : World} {vl : Value} {ls : List ByteArray} (hu : Strs W vl ls) (hl : ls.length ≤ 3000) (hs : ∀ s ∈ ls, s.size ≤ 13) (hr : RiseV (fromL ls 0)) :
    FixB W.heap.size (W.heap.size + 1) 13 ((W.alloc (.cells #[.slice none 0 0] 29)).alloc (.cells #[.slice none 0 0] 150)) (.slice none 0 0) vl ls [] [] := by
  have hsz : lenS (fromL ls 0) ≤ (fromL ls 0).length * 13 := lenS_le fun w hw => by
    unfold fromL at hw
    obtain ⟨s, hm, rfl⟩ := List.mem_map.1 hw
    rw [List.drop_zero] at hm
    rw [list_size]
    exact hs s hm
  have hlen : (fromL ls 0).length = ls.length := by simp [fromL]
  refine ⟨fun s h => by have := hs s h; omega, by omega, hl, hr, (hu.alloc _).alloc _, ?_, by simp; omega, ⟨List.nodup_nil, by simp⟩, by rw [hlen] at hsz; simp; omega, ⟨?_, Nows.nil _ _⟩⟩
  · rintro h0 k hk (e | e)
    · have := strs_blk hu h0 k hk
      omega
    · simp [Value.ownBlock] at e
  · have h := Blk.made (W.alloc (.cells #[.slice none 0 0] 29)) 150 #[.slice none 0 0]
    rw [World.size_alloc] at h
    exact h
theorem Outs.lower {B B' : Nat} {w : World} {v : Value} {us : List Value} {ys : List Nod} (h : Outs B w v us ys) (hB : B' ≤ B) : Outs B' w v us ys :=
  ⟨h.len, Go.Joins.ownsRow_le h.row hB, fun j hj => Go.Joins.ownsRow_le (h.nx j hj) hB, h.sep, h.fine⟩

set_option maxRecDepth 100000 in
set_option maxHeartbeats 4000000 in
theorem l06Build_any {vl : Value} {ls : List ByteArray} (W : World) (hu : Strs W vl ls) (hl : ls.length ≤ 3000) (hs : ∀ s ∈ ls, s.size ≤ 13) (hr : RiseV (fromL ls 0)) :
    Calls Tryd.prog 104 #[vl] W fun e w' => ∃ vo us ys, e = .returned (.agg #[vo]) ∧ Outs W.heap.size w' vo us ys ∧ ys.map contD = numA (bldW 14 [] (fromL ls 0)).1 (bldW 14 [] (fromL ls 0)).2 ∧ Below W.heap.size W w' := by
  have HF := Shh.mk (build_fix hu hl hs hr)
  have HC := Shh.mk (build_does W.heap.size (W.heap.size + 1) 13 _ _ _ _ _ _ HF.out)
  obtain ⟨g1, g2, -⟩ := bldW_good 14 [] (fromL ls 0) ⟨by omega, fun w hw => by
    unfold fromL at hw
    obtain ⟨s, hm, rfl⟩ := List.mem_map.1 hw
    rw [List.drop_zero] at hm
    rw [list_size]
    have := hs s hm
    omega⟩ ⟨List.nodup_nil, by simp⟩
  have HG := Shh.mk g2
  have HSZ := Shh.mk (show (bldW 14 [] (fromL ls 0)).1.length ≤ 1000000 from by
    have h1 := bldW_size 14 [] (fromL ls 0)
    have h2 := HF.out.room
    simp at h1 h2
    omega)
  have HNW := Shh.mk (bldW_narrow 14 [] (fromL ls 0) 3000 (by simpa [fromL] using hl) (by simp))
  have HBD := Shh.mk ((Blk.made W 29 #[.slice none 0 0]).alloc (.cells #[.slice none 0 0] 150))
  clear hu hs hr g1 g2
  go_enter Tryd.func104, Tryd.ntmps104
  obtain ⟨R, hR⟩ : ∃ R, (bldW 14 [] (fromL ls 0)).2 = R := ⟨_, rfl⟩
  have HR := Shh.mk hR
  rw [hR] at HG
  have HC2 := Shh.mk (HC.out.mono (R' := fun e w2 => e = .returned (.int .i64 (R : Int)) ∧ ∃ v2 us2 xs2, BSt W.heap.size (W.heap.size + 1) w2 v2 us2 xs2 ∧ xs2.map entD = (bldW 14 [] (fromL ls 0)).1 ∧ Apart (inS (W.heap.size + 1) (.slice none 0 0)) ((W.alloc (.cells #[.slice none 0 0] 29)).alloc (.cells #[.slice none 0 0] 150)) w2) (by
    rintro e w2 ⟨rfl, v2, us2, xs2, h1, h2, h3, -, -⟩
    exact ⟨by rw [← hR]; rfl, v2, us2, xs2, h1, h2, h3⟩))
  clear hR HC HF
  go_wp2_with (go_at_call 124; refine (HC2.out).mono ?_; rintro e w2 ⟨rfl, v2, us2, xs2, hb2, hx3, hA2⟩; have c0 := hb2.blk.cells 0)
  have hxl : xs2.length = (bldW 14 [] (fromL ls 0)).1.length := by rw [← hx3, List.length_map]
  have HNM := Shh.mk (l06Number_any w2 hb2.row R (by rw [hxl]; exact HG.out) (by rw [hxl]; exact HSZ.out) (fun p hp => by
    have h := HNW.out (entD (nodG xs2 p)) (by rw [← hx3]; exact List.mem_map_of_mem (nodG_mem hp))
    simpa [entD] using h))
  have HX3 := Shh.mk hx3
  have hB2 : Below W.heap.size W w2 := (((Below.refl W.heap.size W).alloc (Nat.le_refl _) (.cells #[.slice none 0 0] 29)).alloc (by simp) (.cells #[.slice none 0 0] 150)).trans (hA2.below (fun i hi e => by
    rcases e with e | e
    · omega
    · simp [Value.ownBlock] at e) (by simp; omega))
  have HB2 := Shh.mk hB2
  have HBD2 := Shh.mk (HBD.out.apart hA2 (fun e => by
    rcases e with e | e
    · omega
    · simp [Value.ownBlock] at e))
  clear hb2 hA2 hx3 hxl hB2 HC2
  go_wp2_with (go_at_call 125; refine (HNM.out).mono ?_; rintro e w3 ⟨vo, us3, ys, rfl, ho3, hy3, hb3⟩; obtain ⟨oa, oc, rfl⟩ : ∃ a c, vo = .slice a ys.length c := (by obtain ⟨a, c, h, -⟩ := ho3.nds; exact ⟨a, c, h⟩); have hbd3 := HBD2.out.kept hb3 HBD2.out.lt; have d0 : w3.cell? ⟨W.heap.size, 0, none⟩ = some (.slice none 0 0) := hbd3.cells 0; have md0 := hbd3.marks 0; have HO3 := Shh.mk ho3; have HY3 := Shh.mk hy3; have HB3 := Shh.mk (HB2.out.trans (hb3.mono HB2.out.size)); have HBD3 := Shh.mk hbd3; have HWS := Shh.mk HB2.out.size; clear ho3 hy3 hb3 hbd3)
  have HOW := Shh.mk (show Outs W.heap.size (w3.setCell ⟨W.heap.size, 0, none⟩ (.slice oa ys.length oc)) (.slice oa ys.length oc) us3 ys from (HO3.out.lower HWS.out).far ((Apart.refl (fun b => b = W.heap.size) w3).setCell (p := ⟨W.heap.size, 0, none⟩) (fun _ => rfl) _) (fun k hk e => row_blk HBD3.out (by decide) HO3.out.row k hk e) (fun j hj k hk e => row_blk HBD3.out (by decide) (HO3.out.nx j hj) k hk e))
  refine bodyPost_ret (v := .agg #[.slice oa ys.length oc]) (by simp [results, Tryd.results104, go_sem, d0]) rfl ?_
  exact ⟨_, us3, ys, rfl, HOW.out, by rw [HY3.out, HX3.out, HR.out], HB3.out.setCell (p := ⟨W.heap.size, 0, none⟩) (Nat.le_refl _) _⟩
end Go.Proofs.YtokfkofclpajfaaDoor

namespace Go.Proofs.YtokfkofclpajfaaDoor
open Go.RowKit

theorem sameD_cont {x y : Nod} : sameD x y = true ↔ contD x = contD y := by
  unfold sameD contD
  constructor
  · intro h
    simp only [Bool.and_eq_true, beq_iff_eq, decide_eq_true_eq] at h
    obtain ⟨h1, h2, h3⟩ := h
    have h4 : x.ls.data.toList = y.ls.data.toList := by rw [← ByteArray.toList_eq, ← ByteArray.toList_eq, h2]
    rw [h1, h3, h4]
  · intro h
    simp only [Prod.mk.injEq] at h
    obtain ⟨h1, h2, h3⟩ := h
    simp only [Bool.and_eq_true, beq_iff_eq, decide_eq_true_eq]
    refine ⟨h1, ?_, h3⟩
    rw [show x.ls = y.ls from by
      have := Array.toList_inj.1 h2
      exact ByteArray.ext this]
theorem sameDs_cont {xs ys : List Nod} : sameDs xs ys = true ↔ xs.map contD = ys.map contD := by
  unfold sameDs
  rw [Bool.and_eq_true, decide_eq_true_eq, allTo_iff]
  constructor
  · rintro ⟨h1, h2⟩
    refine List.ext_getElem? fun m => ?_
    rw [List.getElem?_map, List.getElem?_map]
    rcases Nat.lt_or_ge m xs.length with hm | hm
    · have h3 := sameD_cont.1 (h2 m hm)
      unfold nodG at h3
      rw [List.getD_eq_getElem?_getD, List.getD_eq_getElem?_getD, List.getElem?_eq_getElem hm, List.getElem?_eq_getElem (h1 ▸ hm)] at h3
      rw [List.getElem?_eq_getElem hm, List.getElem?_eq_getElem (h1 ▸ hm)]
      simpa using h3
    · rw [List.getElem?_eq_none hm, List.getElem?_eq_none (h1 ▸ hm)]
  · intro h
    have h1 := congrArg List.length h
    rw [List.length_map, List.length_map] at h1
    refine ⟨h1, fun m hm => sameD_cont.2 ?_⟩
    have h3 := congrArg (·[m]?) h
    simp only [List.getElem?_map] at h3
    rw [List.getElem?_eq_getElem hm, List.getElem?_eq_getElem (h1 ▸ hm)] at h3
    unfold nodG
    rw [List.getD_eq_getElem?_getD, List.getD_eq_getElem?_getD, List.getElem?_eq_getElem hm, List.getElem?_eq_getElem (h1 ▸ hm)]
    simpa using h3
theorem fromL_words (l : List (List UInt8)) : fromL (l.map txt) 0 = l := by
  unfold fromL
  rw [List.drop_zero, List.map_map]
  conv => rhs; rw [← List.map_id l]
  exact List.map_congr_left fun t _ => by simp [txt]
theorem okDw_not {xs : List Nod} (h : DawgOk xs → False) : okDw xs = false := okDw_no h
/-- The strings of a well formed automaton, as the model's build takes them. -/
theorem words_fit {xs : List Nod} (hs : Shp xs) (hn : (gphD xs).okN 14 0 0) : ((((gphD xs).W 13 0).map txt).length ≤ 3000) ∧ (∀ s ∈ ((gphD xs).W 13 0).map txt, s.size ≤ 13) ∧ RiseV (fromL (((gphD xs).W 13 0).map txt) 0) := by
  have h2 : 0 + ((gphD xs).W 13 0).length ≤ 3000 := hn.2
  refine ⟨by rw [List.length_map]; omega, fun s hs2 => ?_, ?_⟩
  · obtain ⟨t, ht, rfl⟩ := List.mem_map.1 hs2
    rw [txt_size]
    exact Gph.W_len 13 0 t ht
  · rw [fromL_words]
    exact Gph.W_rise hs.in (fun i hi => by rw [hs.L hi]; exact (hs.node i hi).rise) 13 0 hs.pos

set_option maxRecDepth 100000 in
set_option maxHeartbeats 4000000 in
theorem l06Ok_any {gd : Nat} {vd : Value} {xs : List Nod} (W : World) (hd : Blk W gd 29 #[vd]) (hx : Nds W vd xs) :
    Calls Tryd.prog 65 #[.pointer (some ⟨gd, 0, none⟩)] W fun e w' => e = .returned (.bool (okDw xs)) ∧ Below W.heap.size W w' := by
  have HSH := Shh.mk (l06Shape_any W hd hx)
  cases hsh : shB xs
  · have HR := Shh.mk (okDw_not (xs := xs) fun h => by have := shB_iff.2 h.shp; rw [hsh] at this; cases this)
    rw [hsh] at HSH
    clear hsh hd hx
    go_enter Tryd.func65, Tryd.ntmps65
    go_wp2_with (go_at_call 102; refine (HSH.out).mono ?_; rintro e w2 ⟨rfl, k, rfl⟩)
    go_ret
    exact ⟨by rw [HR.out]; rfl, below_drewN (Below.refl _ _) k⟩
  · have hs := shB_iff.1 hsh
    rw [hsh] at HSH
    have HS := Shh.mk hs
    have hp := hs.pos
    have HD := Shh.mk hd
    have HX := Shh.mk hx
    have c0 := hd.cells 0
    obtain ⟨na, nc, rfl, hn1, hn2, hn3⟩ := hx
    obtain ⟨bn, on, rfl, hbn, hcn⟩ := hn3 hp
    obtain ⟨f0, -⟩ := hcn 0 hp
    rw [Nat.zero_mul, Nat.add_zero] at f0
    have hF : (nodG xs 0).f = (nodG xs 0).f := rfl
    obtain ⟨F, hFF⟩ : ∃ F, (nodG xs 0).f = F := ⟨_, rfl⟩
    rw [hFF] at f0
    have HFF := Shh.mk hFF
    clear hsh hs hn3 hcn hd hF hFF
    cases F
    · have HU := fun k => Shh.mk (l06Useful_any (W.drewN k) (HD.out.drewN k) (HX.out.drewN k) HS.out)
      go_enter Tryd.func65, Tryd.ntmps65
      go_wp2_with (go_at_call 102; refine (HSH.out).mono ?_; rintro e w2 ⟨rfl, k, rfl⟩)
      refine ((HU k).out).mono ?_
      rintro e w3 ⟨t, rfl, ht1, ht2, hb3⟩
      have HB3 := Shh.mk (show Below W.heap.size W w3 from (below_drewN (Below.refl _ _) k).trans hb3)
      cases t
      · have HR := Shh.mk (okDw_not (xs := xs) fun h => by
          have := ht2 fun i h0 hi => ⟨h.short_all hi, h.useful i h0 hi⟩
          cases this)
        clear ht1 ht2 hb3 HU
        go_wp2
        go_ret
        exact ⟨by rw [HR.out]; rfl, HB3.out⟩
      · have HUS := Shh.mk (ht1 rfl)
        have HW := Shh.mk (l06Words_any w3 (HD.out.kept HB3.out HD.out.lt) (HX.out.below HB3.out) HS.out hp)
        clear ht1 ht2 hb3 HU HSH
        go_wp2_with fail
        refine (HW.out).mono ?_
        rintro e w4 ⟨vw, us, f, rfl, ho4, hf1, hf2, hb4⟩
        have HB4 := Shh.mk (HB3.out.trans (hb4.mono HB3.out.size))
        cases f
        · have hok := hf1.1 rfl
          have hus := hf2 rfl
          subst hus
          obtain ⟨q1, q2, q3⟩ := words_fit HS.out hok
          have HBU := Shh.mk (l06Build_any w4 (OwnS.strs ho4) q1 q2 q3)
          have HOK := Shh.mk hok
          rw [fromL_words] at HBU
          clear hf1 hf2 hb4 ho4 q1 q2 q3 hok
          go_wp2_with fail
          refine (HBU.out).mono ?_
          rintro e w5 ⟨vo, us5, ys, rfl, ho5, hy5, hb5⟩
          obtain ⟨oa, oc, rfl⟩ : ∃ a c, vo = .slice a ys.length c := (by obtain ⟨a, c, h, -⟩ := ho5.nds; exact ⟨a, c, h⟩)
          have HB5 := Shh.mk (HB4.out.trans (hb5.mono HB4.out.size))
          have HY5 := Shh.mk hy5
          have HSM := Shh.mk (l06Same_any (w5.alloc (.cells #[.slice oa ys.length oc] 29)) ((HD.out.kept HB5.out HD.out.lt).alloc _) (Blk.made w5 29 #[.slice oa ys.length oc]) ((HX.out.below HB5.out).alloc _) (ho5.nds.alloc _))
          have HR := Shh.mk (show sameDs xs ys = okDw xs from by
            by_cases h : DawgOk xs
            · rw [okDw_yes h, sameDs_cont, hy5, h.made]
            · rw [okDw_no h]
              cases hs2 : sameDs xs ys
              · rfl
              · exfalso
                have h2 : 0 + ((gphD xs).W 13 0).length ≤ 3000 := HOK.out.2
                exact h (dawg_back HS.out HFF.out HUS.out HOK.out.1 (by omega) (by rw [← hy5, ← sameDs_cont.1 hs2])))
          rw [HR.out] at HSM
          clear hy5 hb5 ho5
          go_wp2_with (go_at_call 105; refine (HSM.out).mono ?_; rintro e w6 ⟨rfl, m, rfl⟩)
          go_ret
          exact ⟨rfl, below_drewN (HB5.out.alloc HB5.out.size _) m⟩
        · have HR := Shh.mk (okDw_not (xs := xs) fun h => by
            have h9 : ((true : Bool) = false) := hf1.2 ⟨h.short, by have := h.few; show 0 + ((gphD xs).W 13 0).length ≤ 3000; omega⟩
            cases h9)
          clear hf1 hf2 hb4 ho4
          go_wp2
          go_ret
          exact ⟨by rw [HR.out]; rfl, HB4.out⟩
    · have HR := Shh.mk (okDw_not (xs := xs) fun h => by have := h.first; rw [HFF.out] at this; cases this)
      go_enter Tryd.func65, Tryd.ntmps65
      go_wp2_with (go_at_call 102; refine (HSH.out).mono ?_; rintro e w2 ⟨rfl, k, rfl⟩)
      go_ret
      exact ⟨by rw [HR.out]; rfl, below_drewN (Below.refl _ _) k⟩
end Go.Proofs.YtokfkofclpajfaaDoor
