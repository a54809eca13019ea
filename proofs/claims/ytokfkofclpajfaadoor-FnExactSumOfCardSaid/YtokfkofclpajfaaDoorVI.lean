/-
  The strings of an automaton: the model's walk along all paths.
  The accepted strings of a well formed automaton: the model's l06Words.
-/
import Derived.Test.YtokfkofclpajfaaDoorVH
import Derived.Test.YtokfkofclpajfaaDoorN2
import Derived.Deep.RegionHeld3
import Derived.Deep.RegionLaw
import Derived.RangeFuncBox
import Derived.Test.YtokfkofclpajfaaDoorP0
namespace Go.Proofs.YtokfkofclpajfaaDoor
open Go.RowKit

def catB (s : ByteArray) (t : List UInt8) : ByteArray := txt (s.data.toList ++ t)
/-- The strings behind a node along its first k letters. -/
def Gph.T (G : Gph) (r i k : Nat) : List (List UInt8) := (if G.F i = true then [[]] else []) ++ ((G.E i).take k).flatMap fun e => (G.W (r - 1) e.2).map (e.1 :: ·)
theorem Gph.T_succ {G : Gph} {r i k : Nat} {e : UInt8 × Nat} (h : (G.E i)[k]? = some e) : G.T r i (k + 1) = G.T r i k ++ (G.W (r - 1) e.2).map (e.1 :: ·) := by
  unfold Gph.T
  rw [List.take_add_one, h]
  simp
theorem Gph.T_all {G : Gph} {r i : Nat} (h : G.okH (r + 1) i = true) : G.T r i (G.E i).length = G.W r i := by
  unfold Gph.T
  rw [List.take_of_length_le (Nat.le_refl _)]
  cases r with
  | zero =>
    have hE : G.E i = [] := by
      cases hE : G.E i with
      | nil => rfl
      | cons e es => exact absurd (Gph.okH_step.1 h e (by rw [hE]; simp)) (by simp [Gph.okH])
    rw [hE]
    simp [Gph.W]
  | succ r => rfl
theorem Gph.T_mono {G : Gph} {r i k m : Nat} (h : k ≤ m) : (G.T r i k).length ≤ (G.T r i m).length := by
  unfold Gph.T
  rw [List.length_append, List.length_append]
  have : ((G.E i).take k).flatMap (fun e => (G.W (r - 1) e.2).map (e.1 :: ·)) <+: ((G.E i).take m).flatMap (fun e => (G.W (r - 1) e.2).map (e.1 :: ·)) := by
    have h2 : (G.E i).take k <+: (G.E i).take m := List.take_prefix_take_left h
    obtain ⟨t, ht⟩ := h2
    rw [← ht, List.flatMap_append]
    exact List.prefix_append _ _
  have := this.length_le
  omega
/-- No path is too long, and the strings are not too many. -/
def Gph.okN (G : Gph) (r i m : Nat) : Prop := G.okH r i = true ∧ m + (G.W (r - 1) i).length ≤ 3000
theorem Gph.okN_child {G : Gph} {r i k m : Nat} {e : UInt8 × Nat} (he : (G.E i)[k]? = some e) (h : G.okN (r + 1) i m) : G.okN r e.2 (m + (G.T r i k).length) := by
  have h1 := Gph.okH_step.1 h.1 e (List.mem_of_getElem? he)
  refine ⟨h1, ?_⟩
  have h2 : m + (G.W r i).length ≤ 3000 := h.2
  rw [← Gph.T_all h.1] at h2
  have hk := (List.getElem?_eq_some_iff.1 he).1
  have h3 := Gph.T_mono (G := G) (r := r) (i := i) (show k + 1 ≤ (G.E i).length from hk)
  rw [Gph.T_succ he, List.length_append, List.length_map] at h3
  omega
theorem Gph.okN_all {G : Gph} {r i m : Nat} (h : ∀ e ∈ G.E i, G.okH r e.2 = true) (hm : m + (G.T r i (G.E i).length).length ≤ 3000) : G.okN (r + 1) i m := by
  have h1 : G.okH (r + 1) i = true := Gph.okH_step.2 h
  exact ⟨h1, by rw [Gph.T_all h1] at hm; exact hm⟩
theorem catB_nil (s : ByteArray) : catB s [] = s := by unfold catB; rw [List.append_nil, txt_of]
theorem catB_cons (s : ByteArray) (c : UInt8) (t : List UInt8) : catB (catB s [c]) t = catB s (c :: t) := by
  unfold catB
  rw [txt_list]
  simp
theorem catB_size (s : ByteArray) (c : UInt8) : (catB s [c]).size = s.size + 1 := by
  unfold catB
  rw [txt_size, List.length_append, list_size]
  rfl
theorem cat_at {s ls : ByteArray} {k : Nat} (h : k < ls.size) : s ++ ls.extract k (k + 1) = catB s [ls.data.toList.getD k 0] := by
  have hl : k < ls.data.toList.length := by rw [list_size]; exact h
  rw [txt_cat]
  unfold catB
  congr 2
  rw [show (ls.extract k (k + 1)).data.toList = (ls.data.toList.take (k + 1)).drop k by simp [ByteArray.data_extract, List.extract_eq_take_drop, List.drop_take], List.take_succ_eq_append_getElem hl, List.drop_append_of_le_length (by simp; omega), List.drop_of_length_le (by simp; omega), List.getD_eq_getElem?_getD, List.getElem?_eq_getElem hl]
  rfl
/-- The walk's own memory: the strings that were found, and whether it has given up. -/
def WSt (W0 : World) (gd wb : Nat) (w : World) (acc : List ByteArray) (full : Bool) : Prop :=
  Below W0.heap.size W0 w ∧ ∃ v, Blk w wb 140 #[.pointer (some ⟨gd, 0, none⟩), v, .bool full] ∧ OwnS W0.heap.size w v acc
/-- A block of another type is not the block of a row. -/
theorem blk_not_row {w : World} {b B n : Nat} {t e : TypeId} {cs : Array Value} {v : Value} {xs : List Value} (h : Blk w b t cs) (hte : t ≠ e) (hr : w.ownsRow B e 1 v n xs) : ∀ k, v.ownBlock = some k → k ≠ b := by
  intro k hk e'
  rcases hr.2 with ⟨rfl, _⟩ | ⟨g, cap, cur, rfl, _, hg, _⟩
  · simp [Value.ownBlock] at hk
  · have hgk : g = k := by simpa [Value.ownBlock] using hk
    rw [hgk, e'] at hg
    have := (show w.heap[b]? = _ from h).symm.trans hg
    simp at this
    exact hte this.2
theorem own_other {w : World} {b B n : Nat} {e : TypeId} {v : Value} {xs : List Value} (h : w.ownsRow B e 1 v n xs) (hb : ∀ k, v.ownBlock = some k → k ≠ b) (j : Nat) (u : Value) : (w.setCell ⟨b, j, none⟩ u).ownsRow B e 1 v n xs := by
  refine ⟨h.1, ?_⟩
  rcases h.2 with h2 | ⟨g, cap, cur, rfl, hB, hg, r⟩
  · exact .inl h2
  · refine .inr ⟨g, cap, cur, rfl, hB, ?_, r⟩
    exact (Below.heap_setCell w ⟨b, j, none⟩ u g (by have := hb g (by simp [Value.ownBlock]); exact this)).trans hg
theorem WSt.full {W0 w : World} {gd wb : Nat} {acc : List ByteArray} {f : Bool} (hwb : W0.heap.size ≤ wb) (h : WSt W0 gd wb w acc f) (f' : Bool) : WSt W0 gd wb (w.setCell ⟨wb, 2, none⟩ (.bool f')) acc f' := by
  obtain ⟨hb, v, h1, h2⟩ := h
  exact ⟨hb.setCell (p := ⟨wb, 2, none⟩) hwb _, v, h1.stored 2 (.bool f'), own_other h2 (blk_not_row h1 (by decide) h2) _ _⟩

theorem WSt.drew {W0 w : World} {gd wb : Nat} {acc : List ByteArray} {f : Bool} (h : WSt W0 gd wb w acc f) : WSt W0 gd wb w.drew acc f := by
  obtain ⟨hb, v, h1, h2⟩ := h
  exact ⟨hb.drew, v, h1, h2⟩
theorem grown_blk {w w' : World} {g : Nat} {t : TypeId} {cs : Array Value} {r : Option Nat} (h : Blk w g t cs) (hg : w.grownBy w' r) (hne : ∀ k, r = some k → k ≠ g) : Blk w' g t cs := (hg.block g h.lt (fun e => hne g e.symm rfl)).trans h
set_option maxRecDepth 100000 in
set_option maxHeartbeats 8000000 in
theorem walk_any {xs : List Nod} {gd wb : Nat} {vd : Value} (W0 : World) (hd : Blk W0 gd 29 #[vd]) (hx : Nds W0 vd xs) (hs : Shp xs) (hwb : W0.heap.size ≤ wb) : ∀ (r i : Nat) (s : ByteArray) (acc : List ByteArray) (w : World), i < xs.length → s.size + r = 14 → acc.length ≤ 3000 → WSt W0 gd wb w acc false →
    Calls Tryd.prog 113 #[.pointer (some ⟨wb, 0, none⟩), .int .i64 i, .string s] w fun e w' => (∃ v, e = .returned v) ∧ (((gphD xs).okN r i acc.length ∧ WSt W0 gd wb w' (acc ++ ((gphD xs).W (r - 1) i).map (catB s)) false) ∨ (¬ (gphD xs).okN r i acc.length ∧ ∃ acc', WSt W0 gd wb w' acc' true))
  | 0, i, s, acc, w, hi, hsz, hacc, hst => by
    have HF := Shh.mk (hst.full hwb true)
    obtain ⟨hb, v, h1, h2⟩ := hst
    have c0 := h1.cells 0
    have c2 := h1.cells 2
    have m2 := h1.marks 2
    have hl : (13 : Int) < (s.size : Int) := by omega
    go_enter Tryd.func113, Tryd.ntmps113
    go_wp2
    refine bodyPost_ret (results_none rfl _ _ _) rfl ?_
    exact ⟨⟨_, rfl⟩, .inr ⟨fun h => by have := h.1; simp [Gph.okH] at this, acc, HF.out⟩⟩
  | r + 1, i, s, acc, w, hi, hsz, hacc, hst => by
    obtain ⟨i0, hinf, hz0, hz1, hz2⟩ := info_parts info_str
    have HD := Shh.mk hd
    have HX := Shh.mk hx
    have HSH := Shh.mk hs
    have HGW := Shh.mk (fun (w' : World) (hb : Below W0.heap.size W0 w') => (hd.kept hb hd.lt).cells 0)
    have hxl := hx.len
    obtain ⟨a, cap, rfl, hl1, hmm, hcn⟩ := hx
    obtain ⟨b, off, rfl, hbl, hcc⟩ := hcn (by omega)
    have hn := hcc i hi
    have HN := Shh.mk hn
    have hsh := hs.node i hi
    have hE0 : (gphD xs).E i = (nodG xs i).ls.data.toList.zip ((nodG xs i).ns.map Int.toNat) := rfl
    have hF : (gphD xs).F i = (nodG xs i).f := rfl
    obtain ⟨x, hxx⟩ : ∃ x, nodG xs i = x := ⟨_, rfl⟩
    rw [hxx] at hn HN hsh hE0 hF
    clear hcc hcn hxx hd hs
    obtain ⟨f, ls, ns⟩ := x
    obtain ⟨-, -, u, hn2', hu⟩ := hn
    simp only at hn2' hu hE0 hF
    have hul := hu.len
    obtain ⟨ua, uc, rfl, hu1, hu2, hu3, hu4⟩ := hu
    have HU := Shh.mk hu3
    have HN2 := Shh.mk hn2'
    have hlen : ls.size = ns.length := hsh.len
    have HNX := Shh.mk (fun k (hk : k < ns.length) => show 0 ≤ ns.getD k 0 ∧ ns.getD k 0 < xs.length by rw [List.getD_eq_getElem?_getD, List.getElem?_eq_getElem hk]; exact hsh.next _ (List.getElem_mem hk))
    have HE := Shh.mk (fun k (hk : k < ns.length) => show ((gphD xs).E i)[k]? = some (ls.data.toList.getD k 0, (ns.getD k 0).toNat) by
      have hl : k < ls.data.toList.length := by rw [list_size]; omega
      rw [hE0, List.getElem?_zip_eq_some]
      exact ⟨by rw [List.getD_eq_getElem?_getD, List.getElem?_eq_getElem hl]; rfl, by simp [List.getD_eq_getElem?_getD, List.getElem?_eq_getElem hk]⟩)
    have HLEN := Shh.mk hlen
    have HEL := Shh.mk (show ((gphD xs).E i).length = ns.length by rw [hE0, List.length_zip, List.length_map, list_size]; omega)
    have hlg : ¬ (13 : Int) < (s.size : Int) := by omega
    obtain ⟨hb, v, h1, h2⟩ := hst
    obtain ⟨n0, n1, -⟩ := NodIs.below HN.out hb hbl
    simp only at n0
    have d0 := HGW.out w hb
    have c0 := h1.cells 0
    have c1 := h1.cells 1
    have c2 := h1.cells 2
    have HST := Shh.mk (show WSt W0 gd wb w acc false from ⟨hb, v, h1, h2⟩)
    obtain ⟨sa, sc, rfl, hsc1, hsc2, -⟩ := own_form h2
    clear n1 hn2' hu3 hu4 hsh hE0 hlen
    cases f
    · have HT0 := Shh.mk (show (gphD xs).T r i 0 = [] by unfold Gph.T; rw [hF]; simp)
      clear hF
      go_enter Tryd.func113, Tryd.ntmps113
      go_wp2
      go_loopw [7] (fun z wr => ∃ (k : Nat) (ac : List ByteArray) (fu : Bool), k ≤ ns.length ∧ z = .int .i64 k ∧ Shh (WSt W0 gd wb wr ac fu) ∧ Shh (fu = false → ac = acc ++ ((gphD xs).T r i k).map (catB s) ∧ (∀ e ∈ ((gphD xs).E i).take k, (gphD xs).okH r e.2 = true) ∧ acc.length + ((gphD xs).T r i k).length ≤ 3000) ∧ Shh (fu = true → ¬ (gphD xs).okN (r + 1) i acc.length)) (fun z _ => ns.length - (intOf z).toNat)
      case atStart => exact ⟨0, _, _, Nat.zero_le _, rfl, HST, ⟨fun _ => ⟨by rw [HT0.out]; simp, by simp, by rw [HT0.out]; simpa using hacc⟩⟩, ⟨fun h => by cases h⟩⟩
      case round =>
        obtain ⟨k, ac, fu, hkl, rfl, hst, hno, hyes⟩ := hrel
        have HST := hst
        obtain ⟨⟨hbw, vv, q1, q2⟩⟩ := hst
        have e0 := q1.cells 0
        have e2 := q1.cells 2
        have ed := HGW.out wr hbw
        obtain ⟨x0, x1, xu, x2, -⟩ := NodIs.below HN.out hbw hbl
        simp only at x0 x1 x2
        have n2 : wr.cell? ⟨b, off + i * 3 + 2, none⟩ = some (.slice ua ns.length uc) := (hbw.cell (p := ⟨b, off + i * 3 + 2, none⟩) hbl).trans HN2.out
        clear x0 x2 q1 q2
        cases fu
        · by_cases hk : k < ns.length
          · obtain ⟨bu, ou, rfl, hbu, hcu⟩ := HU.out (by omega)
            have cu := (hbw.cell (p := ⟨bu, ou + k, none⟩) hbu).trans (hcu k hk)
            obtain ⟨hz0', hz1'⟩ := HNX.out k hk
            have hek := HE.out k hk
            obtain ⟨z, hz⟩ : ∃ z, ns.getD k 0 = z := ⟨_, rfl⟩
            rw [hz] at cu hz0' hz1' hek
            obtain ⟨j, rfl⟩ : ∃ j : Nat, z = (j : Int) := ⟨z.toNat, by omega⟩
            rw [toNat_cast] at hek
            have hjn : j < xs.length := by omega
            obtain ⟨g1, g2, g3⟩ := hno.out rfl
            have hacl : ac.length = acc.length + ((gphD xs).T r i k).length := by rw [g1]; simp
            obtain ⟨S2, hS2⟩ : ∃ S2, s ++ ls.extract k (k + 1) = S2 := ⟨_, rfl⟩
            obtain ⟨c, hc'⟩ : ∃ c, ls.data.toList.getD k 0 = c := ⟨_, rfl⟩
            rw [hc'] at hek
            have hS3 : S2 = catB s [c] := by rw [← hS2, ← hc']; exact cat_at (by have := HLEN.out; omega)
            have HCALL := Shh.mk (walk_any W0 HD.out HX.out HSH.out hwb r j S2 ac)
            have hsz2 : S2.size + r = 14 := by rw [hS3, catB_size]; omega
            have hac3 : ac.length ≤ 3000 := by omega
            have HG := Shh.mk (And.intro g1 (And.intro g2 (And.intro g3 (And.intro hacl (And.intro hek hS3)))))
            have hlk : (k : Int) + 1 ≤ (ls.size : Int) := by have := HLEN.out; omega
            have hwr : IntKind.i64.wrap ((k : Int) + 1) = (k : Int) + 1 := IntWalk.i64_in _ (by omega)
            have hlo : (0 : Int) ≤ (k : Int) + 1 := by omega
            have hup : (k : Int) ≤ (k : Int) + 1 := by omega
            have hnn : ((k : Int) + 1).toNat = k + 1 := by omega
            have hmx : ¬ 9223372036854775807 < s.size + (min (k + 1) ls.size - k) := by omega
            clear hcu hz g1 g2 g3 hacl hek hc' hS3
            go_wp2
            go_region_with (go_at_call 113; refine (HCALL.out wr.drew hjn hsz2 hac3 HST.out.drew).mono ?_; rintro e w2 ⟨⟨vr, rfl⟩, hres⟩)
            all_goals
              obtain ⟨g1, g2, g3, hacl, hek, hS3⟩ := HG.out
              rcases hres with ⟨hok, hst2⟩ | ⟨hnk, ac2, hst2⟩
              · have HS2 := Shh.mk hst2
                have HA := Shh.mk (show (false = false) → ac ++ ((gphD xs).W (r - 1) j).map (catB S2) = acc ++ ((gphD xs).T r i (k + 1)).map (catB s) ∧ (∀ e ∈ ((gphD xs).E i).take (k + 1), (gphD xs).okH r e.2 = true) ∧ acc.length + ((gphD xs).T r i (k + 1)).length ≤ 3000 from fun _ => by
                  rw [Gph.T_succ hek]
                  refine ⟨?_, ?_, ?_⟩
                  · rw [g1, hS3, List.map_append, List.map_map, ← List.append_assoc]
                    congr 1
                    exact List.map_congr_left fun t _ => catB_cons s c t
                  · intro e he
                    rw [List.take_add_one, hek] at he
                    rcases List.mem_append.1 he with he | he
                    · exact g2 e he
                    · simp at he
                      rw [he]
                      exact hok.1
                  · have h9 : ac.length + ((gphD xs).W (r - 1) j).length ≤ 3000 := hok.2
                    rw [List.length_append, List.length_map]
                    show acc.length + (((gphD xs).T r i k).length + ((gphD xs).W (r - 1) j).length) ≤ 3000
                    omega)
                clear g1 g2 g3 hacl hek hS3 hok hst2
                go_wp2
                go_roundw
                case rel => exact ⟨k + 1, _, false, by omega, by go_num, HS2, HA, ⟨fun h => by cases h⟩⟩
                case measure => simp [intOf]; omega
              · have HS2 := Shh.mk hst2
                have HA := Shh.mk (show (true = true) → ¬ (gphD xs).okN (r + 1) i acc.length from fun _ h => hnk (by rw [hacl]; exact Gph.okN_child hek h))
                clear g1 g2 g3 hacl hek hS3 hnk hst2
                go_wp2
                go_roundw
                case rel => exact ⟨k + 1, ac2, true, by omega, by go_num, HS2, ⟨fun h => by cases h⟩, HA⟩
                case measure => simp [intOf]; omega
          · have hkk : k = ns.length := by omega
            obtain ⟨g1, g2, g3⟩ := hno.out rfl
            have HOK := Shh.mk (show (gphD xs).okN (r + 1) i acc.length from Gph.okN_all (fun e he => g2 e (by rw [List.take_of_length_le (by rw [HEL.out]; omega)]; exact he)) (by rw [HEL.out, ← hkk]; exact g3))
            have HA := Shh.mk (show ac = acc ++ ((gphD xs).W r i).map (catB s) from by rw [g1, hkk, ← HEL.out, Gph.T_all HOK.out.1])
            clear g1 g2 g3 hkk
            go_wp2
            go_end0
            exact ⟨⟨_, rfl⟩, .inl ⟨HOK.out, by rw [← HA.out]; exact HST.out⟩⟩
        · have HNO := Shh.mk (hyes.out rfl)
          by_cases hk : k < ns.length
          · go_wp2
            go_end0
            exact ⟨⟨_, rfl⟩, .inr ⟨HNO.out, ac, HST.out⟩⟩
          · go_wp2
            go_end0
            exact ⟨⟨_, rfl⟩, .inr ⟨HNO.out, ac, HST.out⟩⟩
    · have HT0 := Shh.mk (show (gphD xs).T r i 0 = [[]] by unfold Gph.T; rw [hF]; simp)
      have HO := Shh.mk h2
      have HK := Shh.mk h1
      have HB := Shh.mk hb
      have m1 := h1.marks 1
      have hblk : ∀ k, (Value.slice sa acc.length sc).ownBlock = some k → k ≠ wb := blk_not_row h1 (by decide) h2
      clear hF m1
      by_cases hov : acc.length + 1 ≤ 3000
      · have hovi : ¬ (3000 : Int) < (acc.length : Int) + 1 := by omega
        go_enter Tryd.func113, Tryd.ntmps113
        go_wp2_with (at_builtin; refine wpList_append_own _ rfl _ _ 38 rfl W0.heap.size 9 i0 (.string ByteArray.empty) 1 16 Tryd.underlying38 hinf hz0 hz1 hz2 rfl (by decide) _ _ _ rfl (World.ownsRow.alloc HO.out _) ⟨w.heap.size, 0, none⟩ 1 1 [.string s] rfl rfl (cell_one_new _ _ _) (by intro u hu; simp at hu; subst hu; rfl) (by unfold maxLen; omega) (by omega) (by have := HB.out.size; rw [World.size_alloc]; omega) ?_; intro v' w1 hown' hgrow _; obtain ⟨g', cap', rfl⟩ := ownsRow_succ hown'; have hgr := show (w.alloc (.cells #[.string s] 9)).grownBy w1 (Value.slice sa acc.length sc).ownBlock from hgrow; clear hgrow; have HW1 := Shh.mk (own_snoc hown' rfl); have HB1 := Shh.mk ((HB.out.alloc HB.out.size (.cells #[.string s] 9)).grown hgr (by have := HB.out.size; rw [World.size_alloc]; omega) (fun k hk => by have := own_block HO.out k hk; omega)); have hk1 := grown_blk (HK.out.alloc _) hgr hblk; have HK1 := Shh.mk hk1; have k0 := hk1.cells 0; have k1 := hk1.cells 1; have k2 := hk1.cells 2; have mk1 := hk1.marks 1; have mk2 := hk1.marks 2; clear hown' hgr hk1 c0 c1 c2 d0 n0)
        have HST2 := Shh.mk (show WSt W0 gd wb ((w1.setCell ⟨wb, 1, none⟩ (.slice (some ⟨g', 0, none⟩) (acc.length + 1) cap')).setCell ⟨wb, 2, none⟩ (.bool false)) (acc ++ [s]) false from ⟨(HB1.out.setCell (p := ⟨wb, 1, none⟩) hwb _).setCell (p := ⟨wb, 2, none⟩) hwb _, _, by simpa using (HK1.out.stored 1 (.slice (some ⟨g', 0, none⟩) (acc.length + 1) cap')).stored 2 (.bool false), own_other (own_other HW1.out (blk_not_row HK1.out (by decide) HW1.out) _ _) (blk_not_row HK1.out (by decide) HW1.out) _ _⟩)
        clear k0 k1 k2 mk1 mk2
        go_loopw [7] (fun z wr => ∃ (k : Nat) (ac : List ByteArray) (fu : Bool), k ≤ ns.length ∧ z = .int .i64 k ∧ Shh (WSt W0 gd wb wr ac fu) ∧ Shh (fu = false → ac = acc ++ ((gphD xs).T r i k).map (catB s) ∧ (∀ e ∈ ((gphD xs).E i).take k, (gphD xs).okH r e.2 = true) ∧ acc.length + ((gphD xs).T r i k).length ≤ 3000) ∧ Shh (fu = true → ¬ (gphD xs).okN (r + 1) i acc.length)) (fun z _ => ns.length - (intOf z).toNat)
        case atStart => exact ⟨0, acc ++ [s], false, Nat.zero_le _, rfl, HST2, ⟨fun _ => ⟨by rw [HT0.out]; simp [catB_nil], by simp, by rw [HT0.out]; simp; omega⟩⟩, ⟨fun h => by cases h⟩⟩
        case round =>
          obtain ⟨k, ac, fu, hkl, rfl, hst, hno, hyes⟩ := hrel
          have HST := hst
          obtain ⟨⟨hbw, vv, q1, q2⟩⟩ := hst
          have e0 := q1.cells 0
          have e2 := q1.cells 2
          have ed := HGW.out wr hbw
          obtain ⟨x0, x1, xu, x2, -⟩ := NodIs.below HN.out hbw hbl
          simp only at x0 x1 x2
          have n2 : wr.cell? ⟨b, off + i * 3 + 2, none⟩ = some (.slice ua ns.length uc) := (hbw.cell (p := ⟨b, off + i * 3 + 2, none⟩) hbl).trans HN2.out
          clear x0 x2 q1 q2
          cases fu
          · by_cases hk : k < ns.length
            · obtain ⟨bu, ou, rfl, hbu, hcu⟩ := HU.out (by omega)
              have cu := (hbw.cell (p := ⟨bu, ou + k, none⟩) hbu).trans (hcu k hk)
              obtain ⟨hz0', hz1'⟩ := HNX.out k hk
              have hek := HE.out k hk
              obtain ⟨z, hz⟩ : ∃ z, ns.getD k 0 = z := ⟨_, rfl⟩
              rw [hz] at cu hz0' hz1' hek
              obtain ⟨j, rfl⟩ : ∃ j : Nat, z = (j : Int) := ⟨z.toNat, by omega⟩
              rw [toNat_cast] at hek
              have hjn : j < xs.length := by omega
              obtain ⟨g1, g2, g3⟩ := hno.out rfl
              have hacl : ac.length = acc.length + ((gphD xs).T r i k).length := by rw [g1]; simp
              obtain ⟨S2, hS2⟩ : ∃ S2, s ++ ls.extract k (k + 1) = S2 := ⟨_, rfl⟩
              obtain ⟨c, hc'⟩ : ∃ c, ls.data.toList.getD k 0 = c := ⟨_, rfl⟩
              rw [hc'] at hek
              have hS3 : S2 = catB s [c] := by rw [← hS2, ← hc']; exact cat_at (by have := HLEN.out; omega)
              have HCALL := Shh.mk (walk_any W0 HD.out HX.out HSH.out hwb r j S2 ac)
              have hsz2 : S2.size + r = 14 := by rw [hS3, catB_size]; omega
              have hac3 : ac.length ≤ 3000 := by omega
              have HG := Shh.mk (And.intro g1 (And.intro g2 (And.intro g3 (And.intro hacl (And.intro hek hS3)))))
              have hlk : (k : Int) + 1 ≤ (ls.size : Int) := by have := HLEN.out; omega
              have hwr : IntKind.i64.wrap ((k : Int) + 1) = (k : Int) + 1 := IntWalk.i64_in _ (by omega)
              have hlo : (0 : Int) ≤ (k : Int) + 1 := by omega
              have hup : (k : Int) ≤ (k : Int) + 1 := by omega
              have hnn : ((k : Int) + 1).toNat = k + 1 := by omega
              have hmx : ¬ 9223372036854775807 < s.size + (min (k + 1) ls.size - k) := by omega
              clear hcu hz g1 g2 g3 hacl hek hc' hS3
              go_wp2
              go_region_with (go_at_call 113; refine (HCALL.out wr.drew hjn hsz2 hac3 HST.out.drew).mono ?_; rintro e w2 ⟨⟨vr, rfl⟩, hres⟩)
              all_goals
                obtain ⟨g1, g2, g3, hacl, hek, hS3⟩ := HG.out
                rcases hres with ⟨hok, hst2⟩ | ⟨hnk, ac2, hst2⟩
                · have HS2 := Shh.mk hst2
                  have HA := Shh.mk (show (false = false) → ac ++ ((gphD xs).W (r - 1) j).map (catB S2) = acc ++ ((gphD xs).T r i (k + 1)).map (catB s) ∧ (∀ e ∈ ((gphD xs).E i).take (k + 1), (gphD xs).okH r e.2 = true) ∧ acc.length + ((gphD xs).T r i (k + 1)).length ≤ 3000 from fun _ => by
                    rw [Gph.T_succ hek]
                    refine ⟨?_, ?_, ?_⟩
                    · rw [g1, hS3, List.map_append, List.map_map, ← List.append_assoc]
                      congr 1
                      exact List.map_congr_left fun t _ => catB_cons s c t
                    · intro e he
                      rw [List.take_add_one, hek] at he
                      rcases List.mem_append.1 he with he | he
                      · exact g2 e he
                      · simp at he
                        rw [he]
                        exact hok.1
                    · have h9 : ac.length + ((gphD xs).W (r - 1) j).length ≤ 3000 := hok.2
                      rw [List.length_append, List.length_map]
                      show acc.length + (((gphD xs).T r i k).length + ((gphD xs).W (r - 1) j).length) ≤ 3000
                      omega)
                  clear g1 g2 g3 hacl hek hS3 hok hst2
                  go_wp2
                  go_roundw
                  case rel => exact ⟨k + 1, _, false, by omega, by go_num, HS2, HA, ⟨fun h => by cases h⟩⟩
                  case measure => simp [intOf]; omega
                · have HS2 := Shh.mk hst2
                  have HA := Shh.mk (show (true = true) → ¬ (gphD xs).okN (r + 1) i acc.length from fun _ h => hnk (by rw [hacl]; exact Gph.okN_child hek h))
                  clear g1 g2 g3 hacl hek hS3 hnk hst2
                  go_wp2
                  go_roundw
                  case rel => exact ⟨k + 1, ac2, true, by omega, by go_num, HS2, ⟨fun h => by cases h⟩, HA⟩
                  case measure => simp [intOf]; omega
            · have hkk : k = ns.length := by omega
              obtain ⟨g1, g2, g3⟩ := hno.out rfl
              have HOK := Shh.mk (show (gphD xs).okN (r + 1) i acc.length from Gph.okN_all (fun e he => g2 e (by rw [List.take_of_length_le (by rw [HEL.out]; omega)]; exact he)) (by rw [HEL.out, ← hkk]; exact g3))
              have HA := Shh.mk (show ac = acc ++ ((gphD xs).W r i).map (catB s) from by rw [g1, hkk, ← HEL.out, Gph.T_all HOK.out.1])
              clear g1 g2 g3 hkk
              go_wp2
              go_end0
              exact ⟨⟨_, rfl⟩, .inl ⟨HOK.out, by rw [← HA.out]; exact HST.out⟩⟩
          · have HNO := Shh.mk (hyes.out rfl)
            by_cases hk : k < ns.length
            · go_wp2
              go_end0
              exact ⟨⟨_, rfl⟩, .inr ⟨HNO.out, ac, HST.out⟩⟩
            · go_wp2
              go_end0
              exact ⟨⟨_, rfl⟩, .inr ⟨HNO.out, ac, HST.out⟩⟩
      · have hovi : (3000 : Int) < (acc.length : Int) + 1 := by omega
        have HOV := Shh.mk (show ¬ (gphD xs).okN (r + 1) i acc.length from fun h => by
          have h3 : acc.length + ((gphD xs).W r i).length ≤ 3000 := h.2
          rw [← Gph.T_all h.1] at h3
          have h4 := Gph.T_mono (G := gphD xs) (r := r) (i := i) (Nat.zero_le ((gphD xs).E i).length)
          rw [HT0.out] at h4
          simp only [List.length_cons, List.length_nil] at h4
          omega)
        go_enter Tryd.func113, Tryd.ntmps113
        go_wp2_with (at_builtin; refine wpList_append_own _ rfl _ _ 38 rfl W0.heap.size 9 i0 (.string ByteArray.empty) 1 16 Tryd.underlying38 hinf hz0 hz1 hz2 rfl (by decide) _ _ _ rfl (World.ownsRow.alloc HO.out _) ⟨w.heap.size, 0, none⟩ 1 1 [.string s] rfl rfl (cell_one_new _ _ _) (by intro u hu; simp at hu; subst hu; rfl) (by unfold maxLen; omega) (by omega) (by have := HB.out.size; rw [World.size_alloc]; omega) ?_; intro v' w1 hown' hgrow _; obtain ⟨g', cap', rfl⟩ := ownsRow_succ hown'; have hgr := show (w.alloc (.cells #[.string s] 9)).grownBy w1 (Value.slice sa acc.length sc).ownBlock from hgrow; clear hgrow; have HW1 := Shh.mk (own_snoc hown' rfl); have HB1 := Shh.mk ((HB.out.alloc HB.out.size (.cells #[.string s] 9)).grown hgr (by have := HB.out.size; rw [World.size_alloc]; omega) (fun k hk => by have := own_block HO.out k hk; omega)); have hk1 := grown_blk (HK.out.alloc _) hgr hblk; have HK1 := Shh.mk hk1; have k0 := hk1.cells 0; have k1 := hk1.cells 1; have k2 := hk1.cells 2; have mk1 := hk1.marks 1; have mk2 := hk1.marks 2; clear hown' hgr hk1 c0 c1 c2 d0 n0)
        have HST2 := Shh.mk (show WSt W0 gd wb ((w1.setCell ⟨wb, 1, none⟩ (.slice (some ⟨g', 0, none⟩) (acc.length + 1) cap')).setCell ⟨wb, 2, none⟩ (.bool true)) (acc ++ [s]) true from ⟨(HB1.out.setCell (p := ⟨wb, 1, none⟩) hwb _).setCell (p := ⟨wb, 2, none⟩) hwb _, _, by simpa using (HK1.out.stored 1 (.slice (some ⟨g', 0, none⟩) (acc.length + 1) cap')).stored 2 (.bool true), own_other (own_other HW1.out (blk_not_row HK1.out (by decide) HW1.out) _ _) (blk_not_row HK1.out (by decide) HW1.out) _ _⟩)
        clear k0 k1 k2 mk1 mk2
        go_loopw [7] (fun z wr => z = .int .i64 0 ∧ wr = (w1.setCell ⟨wb, 1, none⟩ (.slice (some ⟨g', 0, none⟩) (acc.length + 1) cap')).setCell ⟨wb, 2, none⟩ (.bool true)) (fun _ _ => 0)
        case atStart => exact ⟨by first | rfl | trivial, by first | rfl | trivial⟩
        case round =>
          obtain ⟨rfl, hwe⟩ := hrel
          rw [← hwe] at HST2
          clear hwe
          have HST := HST2
          obtain ⟨⟨hbw, vv, q1, q2⟩⟩ := HST2
          have e0 := q1.cells 0
          have e2 := q1.cells 2
          have n2 : wr.cell? ⟨b, off + i * 3 + 2, none⟩ = some (.slice ua ns.length uc) := (hbw.cell (p := ⟨b, off + i * 3 + 2, none⟩) hbl).trans HN2.out
          clear q1 q2
          by_cases hk : 0 < ns.length
          · go_wp2
            go_end0
            exact ⟨⟨_, rfl⟩, .inr ⟨HOV.out, _, HST.out⟩⟩
          · go_wp2
            go_end0
            exact ⟨⟨_, rfl⟩, .inr ⟨HOV.out, _, HST.out⟩⟩
end Go.Proofs.YtokfkofclpajfaaDoor

namespace Go.Proofs.YtokfkofclpajfaaDoor
open Go.RowKit

theorem catB_empty (t : List UInt8) : catB ByteArray.empty t = txt t := by unfold catB; rfl
theorem wst_start {W : World} {gd : Nat} : WSt W gd (W.heap.size + 1) ((W.alloc (.cells #[] 9)).alloc (.cells #[.pointer (some ⟨gd, 0, none⟩), .slice (some ⟨W.heap.size, 0, none⟩) 0 0, .bool false] 140)) [] false := by
  refine ⟨((Below.refl _ _).alloc (Nat.le_refl _) _).alloc (by rw [World.size_alloc]; omega) _, .slice (some ⟨W.heap.size, 0, none⟩) 0 0, ?_, ?_⟩
  · have h := Blk.made (W.alloc (.cells #[] 9)) 140 #[.pointer (some ⟨gd, 0, none⟩), .slice (some ⟨W.heap.size, 0, none⟩) 0 0, .bool false]
    rw [World.size_alloc] at h
    exact h
  · exact World.ownsRow.alloc (World.ownsRow_lit W #[] 0 (Nat.le_refl _) (by unfold maxLen; omega) rfl) _
set_option maxRecDepth 100000 in
set_option maxHeartbeats 4000000 in
theorem l06Words_any {xs : List Nod} {gd : Nat} {vd : Value} (W : World) (hd : Blk W gd 29 #[vd]) (hx : Nds W vd xs) (hs : Shp xs) (hp : 0 < xs.length) :
    Calls Tryd.prog 79 #[.pointer (some ⟨gd, 0, none⟩)] W fun e w' => ∃ (v : Value) (us : List ByteArray) (f : Bool), e = .returned (.tuple #[v, .bool (!f)]) ∧ OwnS W.heap.size w' v us ∧ (f = false ↔ (gphD xs).okN 14 0 0) ∧ (f = false → us = ((gphD xs).W 13 0).map txt) ∧ Below W.heap.size W w' := by
  have HC := Shh.mk (fun w (h : WSt W gd (W.heap.size + 1) w [] false) => walk_any W hd hx hs (Nat.le_succ _) 14 0 ByteArray.empty [] w hp rfl (Nat.zero_le _) h)
  have HS := Shh.mk (wst_start (W := W) (gd := gd))
  clear hx hs hd
  go_enter Tryd.func79, Tryd.ntmps79
  go_wp2_with fail
  refine (HC.out _ HS.out).mono ?_
  rintro e w2 ⟨⟨vr, rfl⟩, hres⟩
  have HR := Shh.mk (show ∃ (us : List ByteArray) (f : Bool), WSt W gd (W.heap.size + 1) w2 us f ∧ (f = false ↔ (gphD xs).okN 14 0 0) ∧ (f = false → us = ((gphD xs).W 13 0).map txt) by
    rcases hres with ⟨h1, h2⟩ | ⟨h1, acc, h2⟩
    · refine ⟨_, false, h2, Iff.intro (fun _ => h1) (fun _ => rfl), fun _ => ?_⟩
      rw [List.nil_append]
      exact List.map_congr_left fun t _ => catB_empty t
    · exact ⟨acc, true, h2, Iff.intro (fun h => nomatch h) (fun h => absurd h h1), fun h => nomatch h⟩)
  clear hres
  obtain ⟨us, f, hst, hf⟩ := HR.out
  have HF := Shh.mk hf
  obtain ⟨hb, v, q1, q2⟩ := hst
  have HB := Shh.mk hb
  have HO := Shh.mk q2
  have c1 := q1.cells 1
  have c2 := q1.cells 2
  clear hf hb q1 q2
  go_wp2
  go_region
  go_wp2
  go_ret2
  exact ⟨v, us, f, rfl, HO.out, HF.out.1, HF.out.2, HB.out.drew⟩
end Go.Proofs.YtokfkofclpajfaaDoor
