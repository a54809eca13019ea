/-
  Which nodes lead to a final one: the model's answer, whole.
-/
import Derived.Test.YtokfkofclpajfaaDoorVF
namespace Go.Proofs.YtokfkofclpajfaaDoor
open Go.RowKit

theorem toNat_cast (j : Nat) : ((j : Int)).toNat = j := by omega
set_option maxRecDepth 100000 in
set_option maxHeartbeats 16000000 in
theorem l06Useful_any {g : Nat} {v : Value} {xs : List Nod} (W : World) (hg : Blk W g 29 #[v]) (hx : Nds W v xs) (hs : Shp xs) :
    Calls Tryd.prog 103 #[.pointer (some ⟨g, 0, none⟩)] W fun e w' => ∃ t, e = .returned (.bool t) ∧ (t = true → ∀ i, 0 < i → i < xs.length → ∃ k, (gphD xs).W k i ≠ []) ∧ ((∀ i, 0 < i → i < xs.length → (gphD xs).okH 14 i = true ∧ (gphD xs).W 13 i ≠ []) → t = true) ∧ Below W.heap.size W w' := by
  obtain ⟨i0, hi, hz0, hz1, hz2⟩ := info_parts infoBool
  have hxl := hx.len
  have hn1 := hs.pos
  have hn2 := hs.len
  have HSH := Shh.mk hs
  have HG := Shh.mk hg
  have c0 := hg.cells 0
  obtain ⟨a, cap, rfl, hl1, hmm, hc⟩ := hx
  have HC := Shh.mk hc
  have HGW := Shh.mk (fun (w' : World) (hb : Below W.heap.size W w') => (HG.out.kept hb HG.out.lt).cells 0)
  clear hc hg hs
  go_enter Tryd.func103, Tryd.ntmps103
  go_wp2_with (refine wpList_make_full _ rfl _ _ 129 rfl W.heap.size 4 i0 (.bool false) 1 Tryd.underlying129 hi hz0 hz1 .i64 .i64 _ _ xs.length rfl rfl rfl rfl (by rw [hz2]; omega) (by unfold maxLen; omega) (Nat.le_refl _) ?_; intro w1 hown hgrow)
  have hrow0 : BRow W.heap.size w1 W.heap.size (List.replicate xs.length false) := by
    have e := toList_madeCells_one (.bool false) xs.length
    unfold BRow
    rw [List.length_replicate, List.map_replicate, ← e]
    simpa [Value.cells] using hown
  have hb0 : Below W.heap.size W w1 := (Below.refl _ _).grown hgrow (Nat.le_refl _) (fun k hk => by cases hk)
  have HR0 := Shh.mk hrow0
  have HM0 := Shh.mk (show Marks (gphD xs) xs.length 0 0 (List.replicate xs.length false) from ⟨by simp, fun i h => by rw [List.getD_eq_getElem?_getD, List.getElem?_replicate] at h; split at h <;> simp at h, fun j _ q hq => absurd hq (by omega), fun j hj => absurd hj (by omega)⟩)
  clear hown hgrow hrow0 c0
  go_wp2
  go_loopw [5, 6, 7] (fun r _ _ wr => ∃ (q : Nat) (gs : List Bool), q ≤ 14 ∧ r = .int .i64 q ∧ Shh (Marks (gphD xs) xs.length q 0 gs) ∧ Shh (BRow W.heap.size wr W.heap.size gs) ∧ Below W.heap.size W wr) (fun r _ _ _ => 14 - (intOf r).toNat)
  case atStart => exact ⟨0, _, by omega, rfl, HM0, HR0, hb0⟩
  case round =>
    obtain ⟨w2, hwe⟩ : ∃ w2 : World, w2 = wr := ⟨_, rfl⟩
    subst hwe
    obtain ⟨q, gs0, hq, rfl, hm0, hr0, hb0⟩ := hrel
    clear HR0 HM0
    by_cases hq13 : q ≤ 13
    · go_wp2
      go_loopw [6, 7] (fun z _ wr => ∃ (i : Nat) (gs : List Bool), i ≤ xs.length ∧ z = .int .i64 i ∧ Shh (Marks (gphD xs) xs.length q i gs) ∧ Shh (BRow W.heap.size wr W.heap.size gs) ∧ Below W.heap.size W wr) (fun z _ _ => xs.length - (intOf z).toNat)
      case atStart => exact ⟨0, _, by omega, rfl, hm0, hr0, hb0⟩
      case round =>
        obtain ⟨w3, hwe⟩ : ∃ w3 : World, w3 = wr := ⟨_, rfl⟩
        subst hwe
        obtain ⟨i, gs, hil, rfl, hm, hrow', hb⟩ := hrel
        have hrow := hrow'.out
        clear hm0 hr0 hb0
        have d0 := HGW.out w3 hb
        by_cases hlt : i < xs.length
        · obtain ⟨b, off, rfl, hbl, hcc⟩ := HC.out (by omega)
          have hn := hcc i hlt
          have HN := Shh.mk hn
          have hsh := HSH.out.node i hlt
          have hN := HSH.out.N hlt
          have hF : (gphD xs).F i = (nodG xs i).f := rfl
          obtain ⟨x, hxx⟩ : ∃ x, nodG xs i = x := ⟨_, rfl⟩
          rw [hxx] at hn HN hsh hN hF
          clear hcc hxx
          obtain ⟨f, ls, ns⟩ := x
          obtain ⟨-, -, u, hn2', hu⟩ := hn
          simp only at hn2' hu hN hF
          have hul := hu.len
          obtain ⟨ua, uc, rfl, hu1, hu2, hu3, hu4⟩ := hu
          have HU := Shh.mk hu3
          have HN2 := Shh.mk hn2'
          have HFF := Shh.mk hF
          have HNX := Shh.mk (fun k (hk : k < ns.length) => show 0 ≤ ns.getD k 0 ∧ ns.getD k 0 < xs.length by rw [List.getD_eq_getElem?_getD, List.getElem?_eq_getElem hk]; exact hsh.next _ (List.getElem_mem hk))
          have HMEM := Shh.mk (fun k (hk : k < ns.length) (j : Nat) (hz : ns.getD k 0 = (j : Int)) => show j ∈ (gphD xs).N i by rw [hN]; refine List.mem_map.2 ⟨(j : Int), ?_, toNat_cast j⟩; rw [← hz, List.getD_eq_getElem?_getD, List.getElem?_eq_getElem hk]; exact List.getElem_mem hk)
          have HALL := Shh.mk (fun x (hx : x ∈ (gphD xs).N i) => show ∃ k', k' < ns.length ∧ (ns.getD k' 0).toNat = x by
            rw [hN] at hx
            obtain ⟨z, hz, rfl⟩ := List.mem_map.1 hx
            obtain ⟨k', hk', rfl⟩ := List.mem_iff_getElem.1 hz
            exact ⟨k', hk', by rw [List.getD_eq_getElem?_getD, List.getElem?_eq_getElem hk']; rfl⟩)
          obtain ⟨n0, n1, -⟩ := NodIs.below HN.out hb hbl
          simp only at n0
          have ci := hrow.cell (k := i) (by rw [hm.out.len]; exact hlt)
          have fi := hrow.frozen i
          clear n1 hn2' hu3 hu4 hN hsh hF
          cases hgi : gs.getD i false
          · rw [hgi] at ci
            have HR1 := Shh.mk (hrow.set i f)
            have HM1 := Shh.mk (hm.out.set hlt (b := f) (fun h => ⟨0, W_final (HFF.out.trans h)⟩) (by rw [hgi]; intro h; cases h))
            have HB1 := Shh.mk (hb.setCell (p := ⟨W.heap.size, i, none⟩) (Nat.le_refl _) (.bool f))
            have HF1 := Shh.mk (show (gphD xs).F i = true → (gs.set i f).getD i false = true by intro h; rw [getD_set (by rw [hm.out.len]; exact hlt), if_pos rfl]; exact HFF.out.symm.trans h)
            clear hgi
            go_wp2
            go_loopw [7] (fun z wr => ∃ (k : Nat) (hs : List Bool), k ≤ ns.length ∧ z = .int .i64 k ∧ Shh (Marks (gphD xs) xs.length q i hs) ∧ Shh ((gphD xs).F i = true → hs.getD i false = true) ∧ Shh (∀ j, j < k → ∀ p, p < q → (gphD xs).okH (p + 1) (ns.getD j 0).toNat = true → (gphD xs).W p (ns.getD j 0).toNat ≠ [] → hs.getD i false = true) ∧ Shh (BRow W.heap.size wr W.heap.size hs) ∧ Below W.heap.size W wr) (fun z _ => ns.length - (intOf z).toNat)
            case atStart => exact ⟨0, _, Nat.zero_le _, rfl, HM1, HF1, ⟨fun j hj => absurd hj (by omega)⟩, HR1, HB1.out⟩
            case round =>
              obtain ⟨k, hs, hkl, rfl, hm2, hf2, hq2, hr2, hb2⟩ := hrel
              have hl2 := hm2.out.len
              obtain ⟨n0, n1, u', n2', hu'⟩ := NodIs.below HN.out hb2 hbl
              have e0 := HGW.out wr hb2
              have n2 : wr.cell? ⟨b, off + i * 3 + 2, none⟩ = some (.slice ua ns.length uc) := (hb2.cell (p := ⟨b, off + i * 3 + 2, none⟩) hbl).trans HN2.out
              clear n0 n1 n2' hu'
              by_cases hk : k < ns.length
              · obtain ⟨bu, ou, rfl, hbu, hcu⟩ := HU.out (by omega)
                have cu := (hb2.cell (p := ⟨bu, ou + k, none⟩) hbu).trans (hcu k hk)
                have hnx := HNX.out k hk
                obtain ⟨z, hz⟩ : ∃ z, ns.getD k 0 = z := ⟨_, rfl⟩
                rw [hz] at cu hnx
                obtain ⟨j, rfl⟩ : ∃ j : Nat, z = (j : Int) := ⟨z.toNat, by omega⟩
                have hjn : j < xs.length := by omega
                have ci := hr2.out.cell (k := i) (by rw [hl2]; exact hlt)
                have cj := hr2.out.cell (k := j) (by rw [hl2]; exact hjn)
                have fi := hr2.out.frozen i
                have hjm : j ∈ (gphD xs).N i := HMEM.out k hk j hz
                have HZ := Shh.mk hz
                have HJM := Shh.mk hjm
                clear hcu hz hjm
                cases hgi : hs.getD i false
                · cases hgj : hs.getD j false
                  · have HR3 := Shh.mk (hr2.out.set i false)
                    have HM3 := Shh.mk (hm2.out.set hlt (b := false) (fun h => by cases h) (by rw [hgi]; exact id))
                    have HB3 := Shh.mk (hb2.setCell (p := ⟨W.heap.size, i, none⟩) (Nat.le_refl _) (.bool false))
                    have hset := getD_set (gs := hs) (k := i) (by rw [hl2]; exact hlt) false i
                    rw [if_pos rfl] at hset
                    have HF3 := Shh.mk (show (gphD xs).F i = true → (hs.set i false).getD i false = true from fun h => absurd (hf2.out h) (by rw [hgi]; simp))
                    have HQ3 := Shh.mk (show ∀ j', j' < k + 1 → ∀ p, p < q → (gphD xs).okH (p + 1) (ns.getD j' 0).toNat = true → (gphD xs).W p (ns.getD j' 0).toNat ≠ [] → (hs.set i false).getD i false = true from by intro j' hj' p hp h1 h2; rcases Nat.lt_or_ge j' k with h3 | h3; (have h4 := hq2.out j' h3 p hp h1 h2; rw [hgi] at h4; cases h4); (have h5 : j' = k := by omega); (rw [h5, HZ.out] at h1 h2; have h6 := hm2.out.comp j hjn p hp h1 h2; rw [hgj] at h6; cases h6))
                    rw [hgi] at ci
                    rw [hgj] at cj
                    clear hset hgi hgj
                    go_wp2
                    go_roundw
                    case rel => exact ⟨k + 1, _, by omega, by go_num, HM3, HF3, HQ3, HR3, HB3.out⟩
                    case measure => simp [intOf]; omega
                  · have HR3 := Shh.mk (hr2.out.set i true)
                    have HM3 := Shh.mk (hm2.out.set hlt (b := true) (fun _ => by obtain ⟨p, hp⟩ := hm2.out.sound j hgj; exact ⟨p + 1, W_behind HJM.out hp⟩) (fun _ => rfl))
                    have HB3 := Shh.mk (hb2.setCell (p := ⟨W.heap.size, i, none⟩) (Nat.le_refl _) (.bool true))
                    have hset := getD_set (gs := hs) (k := i) (by rw [hl2]; exact hlt) true i
                    rw [if_pos rfl] at hset
                    have HF3 := Shh.mk (show (gphD xs).F i = true → (hs.set i true).getD i false = true from fun _ => hset)
                    have HQ3 := Shh.mk (show ∀ j', j' < k + 1 → ∀ p, p < q → (gphD xs).okH (p + 1) (ns.getD j' 0).toNat = true → (gphD xs).W p (ns.getD j' 0).toNat ≠ [] → (hs.set i true).getD i false = true from fun _ _ _ _ _ _ => hset)
                    rw [hgi] at ci
                    rw [hgj] at cj
                    clear hset hgi hgj
                    go_wp2
                    go_roundw
                    case rel => exact ⟨k + 1, _, by omega, by go_num, HM3, HF3, HQ3, HR3, HB3.out⟩
                    case measure => simp [intOf]; omega
                · have HR3 := Shh.mk (hr2.out.set i true)
                  have HM3 := Shh.mk (hm2.out.set hlt (b := true) (fun _ => hm2.out.sound i hgi) (fun _ => rfl))
                  have HB3 := Shh.mk (hb2.setCell (p := ⟨W.heap.size, i, none⟩) (Nat.le_refl _) (.bool true))
                  have hset := getD_set (gs := hs) (k := i) (by rw [hl2]; exact hlt) true i
                  rw [if_pos rfl] at hset
                  have HF3 := Shh.mk (show (gphD xs).F i = true → (hs.set i true).getD i false = true from fun _ => hset)
                  have HQ3 := Shh.mk (show ∀ j', j' < k + 1 → ∀ p, p < q → (gphD xs).okH (p + 1) (ns.getD j' 0).toNat = true → (gphD xs).W p (ns.getD j' 0).toNat ≠ [] → (hs.set i true).getD i false = true from fun _ _ _ _ _ _ => hset)
                  rw [hgi] at ci
                  clear hset hgi
                  go_wp2
                  go_roundw
                  case rel => exact ⟨k + 1, _, by omega, by go_num, HM3, HF3, HQ3, HR3, HB3.out⟩
                  case measure => simp [intOf]; omega
              · obtain rfl : k = ns.length := by omega
                have HM4 := Shh.mk (show Marks (gphD xs) xs.length q (i + 1) hs from ⟨hl2, hm2.out.sound, hm2.out.comp, fun j' hj' => by
                  rcases Nat.lt_or_ge j' i with h1 | h1
                  · exact hm2.out.done j' h1
                  · have h2 : j' = i := by omega
                    subst h2
                    exact comp_next hf2.out (fun x hx p hp h3 h4 => by obtain ⟨k', hk', e⟩ := HALL.out x hx; have h5 := hq2.out k' hk' p hp; rw [e] at h5; exact h5 h3 h4)⟩)
                go_wp2
                go_roundw
                case rel => exact ⟨i + 1, hs, by omega, by go_num, HM4, hr2, hb2⟩
                case measure => simp [intOf]; omega
          · rw [hgi] at ci
            have HR1 := Shh.mk (hrow.set i true)
            have HM1 := Shh.mk (hm.out.set hlt (b := true) (fun _ => hm.out.sound i hgi) (by intro _; rfl))
            have HB1 := Shh.mk (hb.setCell (p := ⟨W.heap.size, i, none⟩) (Nat.le_refl _) (.bool true))
            have HF1 := Shh.mk (show (gphD xs).F i = true → (gs.set i true).getD i false = true by intro h; rw [getD_set (by rw [hm.out.len]; exact hlt), if_pos rfl])
            clear hgi
            go_wp2
            go_loopw [7] (fun z wr => ∃ (k : Nat) (hs : List Bool), k ≤ ns.length ∧ z = .int .i64 k ∧ Shh (Marks (gphD xs) xs.length q i hs) ∧ Shh ((gphD xs).F i = true → hs.getD i false = true) ∧ Shh (∀ j, j < k → ∀ p, p < q → (gphD xs).okH (p + 1) (ns.getD j 0).toNat = true → (gphD xs).W p (ns.getD j 0).toNat ≠ [] → hs.getD i false = true) ∧ Shh (BRow W.heap.size wr W.heap.size hs) ∧ Below W.heap.size W wr) (fun z _ => ns.length - (intOf z).toNat)
            case atStart => exact ⟨0, _, Nat.zero_le _, rfl, HM1, HF1, ⟨fun j hj => absurd hj (by omega)⟩, HR1, HB1.out⟩
            case round =>
              obtain ⟨k, hs, hkl, rfl, hm2, hf2, hq2, hr2, hb2⟩ := hrel
              have hl2 := hm2.out.len
              obtain ⟨n0, n1, u', n2', hu'⟩ := NodIs.below HN.out hb2 hbl
              have e0 := HGW.out wr hb2
              have n2 : wr.cell? ⟨b, off + i * 3 + 2, none⟩ = some (.slice ua ns.length uc) := (hb2.cell (p := ⟨b, off + i * 3 + 2, none⟩) hbl).trans HN2.out
              clear n0 n1 n2' hu'
              by_cases hk : k < ns.length
              · obtain ⟨bu, ou, rfl, hbu, hcu⟩ := HU.out (by omega)
                have cu := (hb2.cell (p := ⟨bu, ou + k, none⟩) hbu).trans (hcu k hk)
                have hnx := HNX.out k hk
                obtain ⟨z, hz⟩ : ∃ z, ns.getD k 0 = z := ⟨_, rfl⟩
                rw [hz] at cu hnx
                obtain ⟨j, rfl⟩ : ∃ j : Nat, z = (j : Int) := ⟨z.toNat, by omega⟩
                have hjn : j < xs.length := by omega
                have ci := hr2.out.cell (k := i) (by rw [hl2]; exact hlt)
                have cj := hr2.out.cell (k := j) (by rw [hl2]; exact hjn)
                have fi := hr2.out.frozen i
                have hjm : j ∈ (gphD xs).N i := HMEM.out k hk j hz
                have HZ := Shh.mk hz
                have HJM := Shh.mk hjm
                clear hcu hz hjm
                cases hgi : hs.getD i false
                · cases hgj : hs.getD j false
                  · have HR3 := Shh.mk (hr2.out.set i false)
                    have HM3 := Shh.mk (hm2.out.set hlt (b := false) (fun h => by cases h) (by rw [hgi]; exact id))
                    have HB3 := Shh.mk (hb2.setCell (p := ⟨W.heap.size, i, none⟩) (Nat.le_refl _) (.bool false))
                    have hset := getD_set (gs := hs) (k := i) (by rw [hl2]; exact hlt) false i
                    rw [if_pos rfl] at hset
                    have HF3 := Shh.mk (show (gphD xs).F i = true → (hs.set i false).getD i false = true from fun h => absurd (hf2.out h) (by rw [hgi]; simp))
                    have HQ3 := Shh.mk (show ∀ j', j' < k + 1 → ∀ p, p < q → (gphD xs).okH (p + 1) (ns.getD j' 0).toNat = true → (gphD xs).W p (ns.getD j' 0).toNat ≠ [] → (hs.set i false).getD i false = true from by intro j' hj' p hp h1 h2; rcases Nat.lt_or_ge j' k with h3 | h3; (have h4 := hq2.out j' h3 p hp h1 h2; rw [hgi] at h4; cases h4); (have h5 : j' = k := by omega); (rw [h5, HZ.out] at h1 h2; have h6 := hm2.out.comp j hjn p hp h1 h2; rw [hgj] at h6; cases h6))
                    rw [hgi] at ci
                    rw [hgj] at cj
                    clear hset hgi hgj
                    go_wp2
                    go_roundw
                    case rel => exact ⟨k + 1, _, by omega, by go_num, HM3, HF3, HQ3, HR3, HB3.out⟩
                    case measure => simp [intOf]; omega
                  · have HR3 := Shh.mk (hr2.out.set i true)
                    have HM3 := Shh.mk (hm2.out.set hlt (b := true) (fun _ => by obtain ⟨p, hp⟩ := hm2.out.sound j hgj; exact ⟨p + 1, W_behind HJM.out hp⟩) (fun _ => rfl))
                    have HB3 := Shh.mk (hb2.setCell (p := ⟨W.heap.size, i, none⟩) (Nat.le_refl _) (.bool true))
                    have hset := getD_set (gs := hs) (k := i) (by rw [hl2]; exact hlt) true i
                    rw [if_pos rfl] at hset
                    have HF3 := Shh.mk (show (gphD xs).F i = true → (hs.set i true).getD i false = true from fun _ => hset)
                    have HQ3 := Shh.mk (show ∀ j', j' < k + 1 → ∀ p, p < q → (gphD xs).okH (p + 1) (ns.getD j' 0).toNat = true → (gphD xs).W p (ns.getD j' 0).toNat ≠ [] → (hs.set i true).getD i false = true from fun _ _ _ _ _ _ => hset)
                    rw [hgi] at ci
                    rw [hgj] at cj
                    clear hset hgi hgj
                    go_wp2
                    go_roundw
                    case rel => exact ⟨k + 1, _, by omega, by go_num, HM3, HF3, HQ3, HR3, HB3.out⟩
                    case measure => simp [intOf]; omega
                · have HR3 := Shh.mk (hr2.out.set i true)
                  have HM3 := Shh.mk (hm2.out.set hlt (b := true) (fun _ => hm2.out.sound i hgi) (fun _ => rfl))
                  have HB3 := Shh.mk (hb2.setCell (p := ⟨W.heap.size, i, none⟩) (Nat.le_refl _) (.bool true))
                  have hset := getD_set (gs := hs) (k := i) (by rw [hl2]; exact hlt) true i
                  rw [if_pos rfl] at hset
                  have HF3 := Shh.mk (show (gphD xs).F i = true → (hs.set i true).getD i false = true from fun _ => hset)
                  have HQ3 := Shh.mk (show ∀ j', j' < k + 1 → ∀ p, p < q → (gphD xs).okH (p + 1) (ns.getD j' 0).toNat = true → (gphD xs).W p (ns.getD j' 0).toNat ≠ [] → (hs.set i true).getD i false = true from fun _ _ _ _ _ _ => hset)
                  rw [hgi] at ci
                  clear hset hgi
                  go_wp2
                  go_roundw
                  case rel => exact ⟨k + 1, _, by omega, by go_num, HM3, HF3, HQ3, HR3, HB3.out⟩
                  case measure => simp [intOf]; omega
              · obtain rfl : k = ns.length := by omega
                have HM4 := Shh.mk (show Marks (gphD xs) xs.length q (i + 1) hs from ⟨hl2, hm2.out.sound, hm2.out.comp, fun j' hj' => by
                  rcases Nat.lt_or_ge j' i with h1 | h1
                  · exact hm2.out.done j' h1
                  · have h2 : j' = i := by omega
                    subst h2
                    exact comp_next hf2.out (fun x hx p hp h3 h4 => by obtain ⟨k', hk', e⟩ := HALL.out x hx; have h5 := hq2.out k' hk' p hp; rw [e] at h5; exact h5 h3 h4)⟩)
                go_wp2
                go_roundw
                case rel => exact ⟨i + 1, hs, by omega, by go_num, HM4, hr2, hb2⟩
                case measure => simp [intOf]; omega
        · obtain rfl : i = xs.length := by omega
          have HM5 := Shh.mk (show Marks (gphD xs) xs.length (q + 1) 0 gs from ⟨hm.out.len, hm.out.sound, hm.out.done, fun j hj => absurd hj (by omega)⟩)
          go_wp2
          go_roundw
          case rel => exact ⟨q + 1, gs, by omega, by go_num, HM5, ⟨hrow⟩, hb⟩
          case measure => simp [intOf]; omega
    · obtain rfl : q = 14 := by omega
      have hlen := hm0.out.len
      go_wp2
      go_loopw [8] (fun z wr => ∃ i : Nat, 1 ≤ i ∧ i ≤ xs.length ∧ z = .int .i64 i ∧ wr = w2 ∧ Shh (∀ j, 0 < j → j < i → gs0.getD j false = true)) (fun z _ => xs.length - (intOf z).toNat)
      case atStart => exact ⟨1, by omega, by omega, by first | rfl | trivial, by first | rfl | trivial, ⟨fun j h1 h2 => absurd h2 (by omega)⟩⟩
      case round =>
        obtain ⟨i, hi1, hil, rfl, rfl, hall⟩ := hrel
        by_cases hlt : i < xs.length
        · have ci := hr0.out.cell (k := i) (by rw [hlen]; exact hlt)
          cases hgi : gs0.getD i false
          · rw [hgi] at ci
            have HG0 := Shh.mk hgi
            clear hgi
            go_wp2
            go_ret
            refine ⟨false, rfl, fun h => (by cases h), fun h => ?_, hb0⟩
            have := hm0.out.comp i hlt 13 (by omega) (h i (by omega) hlt).1 (h i (by omega) hlt).2
            rw [HG0.out] at this
            exact this
          · rw [hgi] at ci
            have HALL := Shh.mk (show ∀ j, 0 < j → j < i + 1 → gs0.getD j false = true from fun j h1 h2 => by
              rcases Nat.lt_or_ge j i with h3 | h3
              · exact hall.out j h1 h3
              · have h4 : j = i := by omega
                rw [h4]
                exact hgi)
            clear hgi
            go_wp2
            go_roundw
            case rel => exact ⟨i + 1, by omega, by omega, by go_num, by first | rfl | trivial, HALL⟩
            case measure => simp [intOf]; omega
        · obtain rfl : i = xs.length := by omega
          go_wp2
          go_ret
          exact ⟨true, rfl, fun _ j h1 h2 => hm0.out.sound j (hall.out j h1 h2), fun _ => rfl, hb0⟩
end Go.Proofs.YtokfkofclpajfaaDoor
