/-
  BucketOf: the model's and the program's answers.
-/
import Derived.Test.YtokfkofclpajfaaDoorYW
import Derived.Test.YtokfkofclpajfaaDoorYF
namespace Go.Proofs.YtokfkofclpajfaaDoor
open Go.RowKit

/-! ### The model's walk -/
def WS7 (W0 : World) (gd wb t : Nat) (w : World) (acc : List ByteArray) : Prop :=
  Below W0.heap.size W0 w ∧ ∃ v, Blk w wb 115 #[.pointer (some ⟨gd, 0, none⟩), .int .i64 (t : Int), v] ∧ OwnS W0.heap.size w v acc
theorem WS7.drew {W0 w : World} {gd wb t : Nat} {acc : List ByteArray} (h : WS7 W0 gd wb t w acc) : WS7 W0 gd wb t w.drew acc := by
  obtain ⟨hb, v, h1, h2⟩ := h
  exact ⟨hb.drew, v, h1, h2⟩
def Walk7Do (W0 : World) (gd wb t : Nat) (xs : List Nod) (r : Nat) : Prop := ∀ (i : Nat) (s : ByteArray) (acc : List ByteArray) (w : World), i < xs.length → ((gphD xs).to fun k => k == t).okH (r + 1) i = true → s.size + r ≤ 100000 → acc.length + (((gphD xs).to fun k => k == t).W r i).length ≤ 100000 → WS7 W0 gd wb t w acc →
    Calls Tryd.prog 96 #[.pointer (some ⟨wb, 0, none⟩), .int .i64 (i : Int), .string s] w fun e w' => (∃ v, e = .returned v) ∧ WS7 W0 gd wb t w' (acc ++ (((gphD xs).to fun k => k == t).W r i).map (catB s))
set_option maxRecDepth 100000 in
set_option maxHeartbeats 8000000 in
theorem walk7_step {xs : List Nod} {gd wb t : Nat} {vd : Value} (W0 : World) (hd : Blk W0 gd 29 #[vd]) (hx : Nds W0 vd xs) (hs : Shp xs) (hwb : W0.heap.size ≤ wb) (r : Nat) (hrec : ∀ r', r' < r → Walk7Do W0 gd wb t xs r') : Walk7Do W0 gd wb t xs r := by
  intro i s acc w hi hok hsz hfew hst
  have HREC := Shh.mk hrec
  obtain ⟨i0, hinf, hz0, hz1, hz2⟩ := info_parts info_strE
  have HGW := Shh.mk (fun (w' : World) (hb : Below W0.heap.size W0 w') => (hd.kept hb hd.lt).cells 0)
  obtain ⟨G, hG⟩ : ∃ G, ((gphD xs).to fun k => k == t) = G := ⟨_, rfl⟩
  have hGE : G.E i = (gphD xs).E i := by rw [← hG]; rfl
  have hGF : G.F i = (i == t) := by rw [← hG]; rfl
  unfold Walk7Do at HREC
  rw [hG] at HREC hok hfew ⊢
  have HOK := Shh.mk hok
  have hxl := hx.len
  have hEL := hs.E_len hi
  have hEA := fun k (hk : k < (nodG xs i).ns.length) => hs.E_at hi hk
  have hsh := hs.node i hi
  obtain ⟨a, cap, rfl, hl1, hmm, hcn⟩ := hx
  obtain ⟨b, off, rfl, hbl, hcc⟩ := hcn (by omega)
  obtain ⟨-, m1, u, m2, hu⟩ := hcc i hi
  obtain ⟨x, hxx⟩ : ∃ x, nodG xs i = x := ⟨_, rfl⟩
  rw [hxx] at m1 hu hEL hEA hsh
  obtain ⟨f, ls, ns⟩ := x
  simp only at m1 m2 hu hEL hEA
  have hul := hu.len
  obtain ⟨ua, uc, rfl, hu1, hu2, hu3, -⟩ := hu
  have HU := Shh.mk hu3
  have HND := Shh.mk (fun (w' : World) (hb : Below W0.heap.size W0 w') => show w'.cell? ⟨b, off + i * 3 + 1, none⟩ = some (.string ls) ∧ w'.cell? ⟨b, off + i * 3 + 2, none⟩ = some (.slice ua ns.length uc) from ⟨(hb.cell (p := ⟨b, off + i * 3 + 1, none⟩) hbl).trans m1, (hb.cell (p := ⟨b, off + i * 3 + 2, none⟩) hbl).trans m2⟩)
  have HLEN := Shh.mk (show ls.size = ns.length from hsh.len)
  have HEL := Shh.mk (show (G.E i).length = ns.length from by rw [hGE]; exact hEL)
  have HE := Shh.mk (fun k (hk : k < ns.length) => show (G.E i)[k]? = some (ls.data.toList.getD k 0, (ns.getD k 0).toNat) from by rw [hGE]; exact hEA k hk)
  have HNX := Shh.mk (fun k (hk : k < ns.length) => show 0 ≤ ns.getD k 0 ∧ ns.getD k 0 < xs.length by rw [List.getD_eq_getElem?_getD, List.getElem?_eq_getElem hk]; exact hsh.next _ (List.getElem_mem hk))
  have HFEW := Shh.mk hfew
  have HSTART := Shh.mk hst
  obtain ⟨hb, v, h1, h2⟩ := hst
  have d0 := HGW.out w hb
  have c0 := h1.cells 0
  have c1 := h1.cells 1
  have c2 := h1.cells 2
  have hi0 : (0 : Int) ≤ (i : Int) := by omega
  have hi1 : (i : Int) < (xs.length : Int) := by omega
  obtain ⟨sa, sc, rfl, hsc1, hsc2, -⟩ := own_form h2
  have hal : acc.length ≤ 100000 := by omega
  clear hu3 hsh hEL hEA hcc hcn hxx hd hs hok hfew m1 m2 hrec hGE
  by_cases hit : i = t
  case' neg =>
    have hb0 : ((i : Int) == (t : Int)) = false := beq_eq_false_iff_ne.2 (by omega)
    have HT0 := Shh.mk (show G.T r i 0 = [] by unfold Gph.T; rw [hGF]; simp [hit])
    clear hGF
    go_enter Tryd.func96, Tryd.ntmps96
    go_wp2
    have HST2 := Shh.mk (show WS7 W0 gd wb t w (acc ++ (G.T r i 0).map (catB s)) from by rw [HT0.out]; simpa using HSTART.out)
    clear c0 c1 c2 d0
  case' pos =>
    have hb0 : ((i : Int) == (t : Int)) = true := beq_iff_eq.2 (by omega)
    have HT0 := Shh.mk (show G.T r i 0 = [[]] by unfold Gph.T; rw [hGF]; simp [hit])
    have HO := Shh.mk h2
    have HK := Shh.mk h1
    have HB := Shh.mk hb
    have hblk : ∀ k, (Value.slice sa acc.length sc).ownBlock = some k → k ≠ wb := blk_not_row h1 (by decide) h2
    clear hGF hit
    go_enter Tryd.func96, Tryd.ntmps96
    go_wp2_with (at_builtin; refine wpList_append_own _ rfl _ _ 38 rfl W0.heap.size 9 i0 (.string ByteArray.empty) 1 16 Tryd.underlying38 hinf hz0 hz1 hz2 rfl (by decide) _ _ _ rfl (World.ownsRow.alloc HO.out _) ⟨w.heap.size, 0, none⟩ 1 1 [.string s] rfl rfl (cell_one_new _ _ _) (by intro u hu; simp at hu; subst hu; rfl) (by unfold maxLen; omega) (by omega) (by have := HB.out.size; rw [World.size_alloc]; omega) ?_; intro v' w1 hown' hgrow _; obtain ⟨g', cap', rfl⟩ := ownsRow_succ hown'; have hgr := show (w.alloc (.cells #[.string s] 9)).grownBy w1 (Value.slice sa acc.length sc).ownBlock from hgrow; clear hgrow; have HW1 := Shh.mk (own_snoc hown' rfl); have HB1 := Shh.mk ((HB.out.alloc HB.out.size (.cells #[.string s] 9)).grown hgr (by have := HB.out.size; rw [World.size_alloc]; omega) (fun k hk => by have := own_block HO.out k hk; omega)); have hk1 := grown_blk (HK.out.alloc _) hgr hblk; have HK1 := Shh.mk hk1; have k0 := hk1.cells 0; have k2 := hk1.cells 2; have mk2 := hk1.marks 2; have HD1 := HGW.out _ (HB1.out.setCell (p := ⟨wb, 2, none⟩) hwb (.slice (some ⟨g', 0, none⟩) (acc.length + 1) cap')); have kk0 : (w1.setCell ⟨wb, 2, none⟩ (.slice (some ⟨g', 0, none⟩) (acc.length + 1) cap')).cell? ⟨wb, 0, none⟩ = some (.pointer (some ⟨gd, 0, none⟩)) := (hk1.stored 2 _).cells 0; clear hown' hgr hk1 c0 c1 c2 d0)
    have HST2 := Shh.mk (show WS7 W0 gd wb t (w1.setCell ⟨wb, 2, none⟩ (.slice (some ⟨g', 0, none⟩) (acc.length + 1) cap')) (acc ++ (G.T r i 0).map (catB s)) from by
      have e9 : acc ++ (G.T r i 0).map (catB s) = acc ++ [s] := by rw [HT0.out]; simp [catB_nil]
      rw [e9]
      refine ⟨HB1.out.setCell (p := ⟨wb, 2, none⟩) hwb _, _, by simpa using HK1.out.stored 2 (.slice (some ⟨g', 0, none⟩) (acc.length + 1) cap'), ?_⟩
      exact own_other HW1.out (blk_not_row HK1.out (by decide) HW1.out) 2 (.slice (some ⟨g', 0, none⟩) (acc.length + 1) cap'))
    clear k0 k2 mk2 HD1 kk0
  all_goals
    go_loopw [7] (fun z wr => ∃ k : Nat, k ≤ ns.length ∧ z = .int .i64 k ∧ Shh (WS7 W0 gd wb t wr (acc ++ (G.T r i k).map (catB s)))) (fun z _ => ns.length - (intOf z).toNat)
    case atStart => exact ⟨0, Nat.zero_le _, rfl, HST2⟩
    case round =>
      obtain ⟨k, hkl, rfl, hst⟩ := hrel
      have HST := hst
      obtain ⟨⟨hbw, vv, q1, -⟩⟩ := hst
      obtain ⟨n1, n2⟩ := HND.out wr hbw
      clear HST2 q1
      by_cases hk : k < ns.length
      · obtain ⟨bu, ou, rfl, hbu, hcu⟩ := HU.out (by omega)
        have cu := (hbw.cell (p := ⟨bu, ou + k, none⟩) hbu).trans (hcu k hk)
        obtain ⟨hz0', hz1'⟩ := HNX.out k hk
        have hek := HE.out k hk
        obtain ⟨z, hz⟩ : ∃ z, ns.getD k 0 = z := ⟨_, rfl⟩
        rw [hz] at cu hz0' hz1' hek
        obtain ⟨j, rfl⟩ : ∃ j : Nat, z = (j : Int) := ⟨z.toNat, by omega⟩
        rw [toNat_cast] at hek
        have hjn : j < xs.length := by omega
        obtain ⟨r', rfl⟩ : ∃ r', r = r' + 1 := by
          cases r with
          | zero => exact absurd (Gph.okH_step.1 HOK.out _ (List.mem_of_getElem? hek)) (by simp [Gph.okH])
          | succ r' => exact ⟨r', rfl⟩
        have hokj := Gph.okH_step.1 HOK.out _ (List.mem_of_getElem? hek)
        have HTS := Shh.mk (Gph.T_succ (r := r' + 1) hek)
        have hmo := Gph.T_mono (G := G) (r := r' + 1) (i := i) (show k + 1 ≤ (G.E i).length by have := HEL.out; omega)
        rw [Gph.T_all HOK.out, HTS.out, List.length_append, List.length_map] at hmo
        have hmo' : (G.T (r' + 1) i k).length + (G.W r' j).length ≤ (G.W (r' + 1) i).length := hmo
        obtain ⟨S2, hS2⟩ : ∃ S2, s ++ ls.extract k (k + 1) = S2 := ⟨_, rfl⟩
        obtain ⟨c, hc'⟩ : ∃ c, ls.data.toList.getD k 0 = c := ⟨_, rfl⟩
        rw [hc'] at hek HTS
        have hS3 : S2 = catB s [c] := by rw [← hS2, ← hc']; exact cat_at (by have := HLEN.out; omega)
        have hsz2 : S2.size + r' ≤ 100000 := by rw [hS3, catB_size]; omega
        have hacc2 : (acc ++ (G.T (r' + 1) i k).map (catB s)).length + (G.W r' j).length ≤ 100000 := by
          rw [List.length_append, List.length_map]
          have := HFEW.out
          omega
        have HCALL := Shh.mk (HREC.out r' (Nat.lt_succ_self _) j S2 (acc ++ (G.T (r' + 1) i k).map (catB s)))
        have HNEW := Shh.mk (show (acc ++ (G.T (r' + 1) i k).map (catB s)) ++ (G.W r' j).map (catB S2) = acc ++ (G.T (r' + 1) i (k + 1)).map (catB s) from by
          rw [HTS.out, hS3, List.map_append, List.append_assoc]
          congr 2
          show (G.W r' j).map _ = ((G.W r' j).map (c :: ·)).map (catB s)
          rw [List.map_map]
          exact List.map_congr_left fun t _ => catB_cons s c t)
        have hlk : (k : Int) + 1 ≤ (ls.size : Int) := by have := HLEN.out; omega
        have hwr : IntKind.i64.wrap ((k : Int) + 1) = (k : Int) + 1 := IntWalk.i64_in _ (by omega)
        have hlo : (0 : Int) ≤ (k : Int) + 1 := by omega
        have hup : (k : Int) ≤ (k : Int) + 1 := by omega
        have hnn : ((k : Int) + 1).toNat = k + 1 := by omega
        have hmx : ¬ 9223372036854775807 < s.size + (min (k + 1) ls.size - k) := by omega
        clear hcu hz hek hc' hS3 hmo hmo'
        go_wp2
        go_region_with (go_at_call 96; refine (HCALL.out wr.drew hjn hokj hsz2 hacc2 HST.out.drew).mono ?_; rintro e w2 ⟨⟨vr, rfl⟩, hst2⟩; have HS2 := Shh.mk (show WS7 W0 gd wb t w2 (acc ++ (G.T (r' + 1) i (k + 1)).map (catB s)) from by rw [← HNEW.out]; exact hst2); clear hst2)
        all_goals
          go_wp2
          go_roundw
          case rel => exact ⟨k + 1, by omega, by go_num, HS2⟩
          case measure => simp [intOf]; omega
      · obtain rfl : k = ns.length := by omega
        have HR := Shh.mk (show G.T r i ns.length = G.W r i from by rw [← HEL.out]; exact Gph.T_all HOK.out)
        go_wp2
        go_end0
        exact ⟨⟨_, rfl⟩, by rw [← HR.out]; exact HST.out⟩
theorem walk7_does {xs : List Nod} {gd wb t : Nat} {vd : Value} (W0 : World) (hd : Blk W0 gd 29 #[vd]) (hx : Nds W0 vd xs) (hs : Shp xs) (hwb : W0.heap.size ≤ wb) : ∀ r, Walk7Do W0 gd wb t xs r := fun r => Nat.strongRecOn r fun r ih => walk7_step W0 hd hx hs hwb r ih

/-! ### Not more strings than are accepted -/
theorem Gph.to_none {G : Gph} {n t : Nat} (hN : ∀ i, i < n → ∀ j ∈ G.N i, j < n) {h : Nat → Nat} (hh : ∀ i, i < n → ∀ j ∈ G.N i, h j < h i) (hok : ∀ i, i < n → G.okH 14 i = true) (ht : ∀ i, i < n → t ∉ G.N i) :
    ∀ (b i : Nat), i < n → h i < b → i ≠ t → (G.to fun i => i == t).cnt i = 0
  | 0, i, _, hb, _ => absurd hb (by omega)
  | b + 1, i, hi, hb, hit => by
    have e1 := Gph.cnt_eq (G := G.to fun i => i == t) (i := i) (by rw [Gph.to_okH]; exact hok i hi)
    have eN : (G.to fun i => i == t).N i = G.N i := rfl
    have eF : (G.to fun i => i == t).F i = (i == t) := rfl
    rw [eN, eF, beq_eq_false_iff_ne.2 hit] at e1
    rw [e1, sumOf_zero fun j hj => Gph.to_none hN hh hok ht b j (hN i hi j hj) (by have := hh i hi j hj; omega) (fun e => ht i hi (e ▸ hj))]
    rfl
theorem DawgOk.bucket_few {xs : List Nod} (h : DawgOk xs) {t : Nat} (ht : t < xs.length) : (((gphD xs).to fun k => k == t).W 13 0).length ≤ 3000 := by
  obtain ⟨rk, hrk⟩ := dawg_rank h
  show ((gphD xs).to fun k => k == t).cnt 0 ≤ 3000
  by_cases h0 : t = 0
  · subst h0
    have e1 := Gph.cnt_eq (G := (gphD xs).to fun i => i == 0) (i := 0) (by rw [Gph.to_okH]; exact h.short)
    have eN : ((gphD xs).to fun i => i == 0).N 0 = (gphD xs).N 0 := rfl
    rw [eN, sumOf_zero fun j hj => Gph.to_none h.shp.in hrk (fun i hi => h.short_all hi) (fun i hi => h.root hi) (rk j + 1) j (h.shp.in 0 h.shp.pos j hj) (Nat.lt_succ_self _) (fun e => h.root h.shp.pos (e ▸ hj))] at e1
    rw [e1]
    split <;> omega
  · have h1 : 1 ≤ (gphD xs).cnt t := by
      have := h.useful t (by omega) ht
      have h2 : (gphD xs).cnt t ≠ 0 := fun e => this (List.length_eq_zero_iff.1 e)
      omega
    exact Nat.le_trans (Gph.to_few h.shp.in hrk (fun i hi => h.short_all hi) h1 (rk 0 + 1) 0 h.shp.pos (Nat.lt_succ_self _)).1 h.few

noncomputable def bucketOut (xs : List Nod) (i : Int) : List ByteArray × Int := if okDw xs = true then (if 0 ≤ i ∧ i < (xs.length : Int) then ((((gphD xs).to fun k => k == i.toNat).W 13 0).map txt, 0) else ([], 2)) else ([], 1)
theorem bucketOut_no {xs : List Nod} {i : Int} (h : okDw xs = false) : bucketOut xs i = ([], 1) := by unfold bucketOut; rw [h]; rfl
theorem bucketOut_out {xs : List Nod} {i : Int} (h : okDw xs = true) (hi : ¬ (0 ≤ i ∧ i < (xs.length : Int))) : bucketOut xs i = ([], 2) := by unfold bucketOut; rw [if_pos h, if_neg hi]
theorem bucketOut_in {xs : List Nod} {i : Nat} (h : okDw xs = true) (hi : i < xs.length) : bucketOut xs (i : Int) = ((((gphD xs).to fun k => k == i).W 13 0).map txt, 0) := by unfold bucketOut; rw [if_pos h, if_pos ⟨by omega, by omega⟩, Int.toNat_natCast]
theorem bucketOut_len (xs : List Nod) (i : Int) : (bucketOut xs i).1.length ≤ 3000 := by
  cases h : okDw xs
  · rw [bucketOut_no h]; simp
  · by_cases hi : 0 ≤ i ∧ i < (xs.length : Int)
    · obtain ⟨j, rfl⟩ : ∃ j : Nat, i = (j : Int) := ⟨i.toNat, by omega⟩
      rw [bucketOut_in h (by omega)]
      show ((((gphD xs).to fun k => k == j).W 13 0).map txt).length ≤ 3000
      rw [List.length_map]
      exact (okDw_of h).bucket_few (by omega)
    · rw [bucketOut_out h hi]; simp
end Go.Proofs.YtokfkofclpajfaaDoor
