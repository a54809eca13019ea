/-
  An automaton with its numbers: how many strings come before a string, and how many begin with it: the program's answers.
-/
import Derived.Test.YtokfkofclpajfaaDoorYG
import Derived.Test.YtokfkofclpajfaaDoorWM
namespace Go.Proofs.YtokfkofclpajfaaDoor
open Go.RowKit Go.Maps Go.WideMaps

/-- The map holds the number of each node. -/
def Cnts (w : World) (b : Nat) (xs : List Nod) : Prop := ∃ (ks : List Nat) (D : DataW Unit), w.ownsMap Tryd.prog 2 (plainElem (H := Unit) Tryd.prog 2) b ks.length D ∧ CMap (gphD xs).cnt D ks ∧ ∀ i, i < xs.length → i ∈ ks
theorem Cnts.below {w w' : World} {b : Nat} {xs : List Nod} (h : Cnts w b xs) (hb : Below w.heap.size w w') : Cnts w' b xs := by
  obtain ⟨ks, D, h1, h2, h3⟩ := h
  exact ⟨ks, D, ownsMap_below h1 hb, h2, h3⟩
theorem Cnts.look {w : World} {b : Nat} {xs : List Nod} (h : Cnts w b xs) (hn : xs.length ≤ 3000) {i : Nat} (hi : i < xs.length) : (Instr.lookup 75 (.map (some b)) (.int .i64 (i : Int)) false).run Tryd.prog w = .ok (.int .i64 ((gphD xs).cnt i : Int)) w := by
  obtain ⟨ks, D, h1, h2, h3⟩ := h
  obtain ⟨c, hrun, hat, -⟩ := h1.lookup_int lawI Tryd.underlying75 Tryd.underlying2 (zeroI _) (keyOf_i64 (j := i) (by omega))
  have h9 := hat.symm.trans (h2.val i (h3 i hi) (.lit (.int .i64 0)))
  rw [hrun, lit_int_inj h9]

set_option maxRecDepth 100000 in
set_option maxHeartbeats 4000000 in
theorem countBefore_any {vd : Value} {b : Nat} {xs : List Nod} (W : World) (hx : Nds W vd xs) (ho : DawgOk xs) (hc : Cnts W b xs) (j : Nat) (hj : j < xs.length) (c : UInt8) :
    Calls Tryd.prog 120 #[.agg #[vd, .map (some b)], .int .i64 (j : Int), .int .u8 (c.toNat : Int)] W fun e w' => e = .returned (.int .i64 ((gphD xs).bef j c : Int)) ∧ Below W.heap.size W w' := by
  have HB0 := Shh.mk (show Below W.heap.size W (W.alloc (.cells #[vd, .map (some b)] 106)) from (Below.refl _ _).alloc (Nat.le_refl _) _)
  have HRB := Shh.mk (Blk.made W 106 #[vd, .map (some b)])
  have HX := Shh.mk (hx.alloc (.cells #[vd, .map (some b)] 106))
  have HCN := Shh.mk (hc.below HB0.out)
  have HFN := Shh.mk (isFinal_any (W.alloc (.cells #[vd, .map (some b)] 106)) HX.out j hj)
  have hlen := ho.shp.len
  have hs := ho.shp
  have HEL := Shh.mk (hs.E_len hj)
  have HEA := Shh.mk (fun m (hm : m < (nodG xs j).ns.length) => hs.E_at hj hm)
  have HNX := Shh.mk (fun m (hm : m < (nodG xs j).ns.length) => show 0 ≤ (nodG xs j).ns.getD m 0 ∧ (nodG xs j).ns.getD m 0 < xs.length by rw [List.getD_eq_getElem?_getD, List.getElem?_eq_getElem hm]; exact (hs.node j hj).next _ (List.getElem_mem hm))
  have HLEN := Shh.mk ((hs.node j hj).len)
  have HFIN := Shh.mk (show (gphD xs).fin j = if (nodG xs j).f = true then 1 else 0 from rfl)
  have HBEF := Shh.mk (show (gphD xs).bef j c ≤ 3000 from by
    have h1 := Gph.bef_le (G := gphD xs) (i := j) (ho.short_all hj) c
    have h2 := ho.cnt_few hj
    omega)
  obtain ⟨na, nc, rfl, hn1, hn2, -⟩ := hx
  obtain ⟨na2, nc2, he, -, -, hnn⟩ := HX.out
  simp only [Value.slice.injEq] at he
  obtain ⟨rfl, -, rfl⟩ := he
  obtain ⟨bn, on, rfl, hbn, hcn⟩ := hnn (by omega)
  obtain ⟨-, n1, u, n2, hu⟩ := hcn j hj
  have d0 : (W.alloc (.cells #[.slice (some ⟨bn, on, none⟩) xs.length nc, .map (some b)] 106)).cell? ⟨W.heap.size, 0, none⟩ = some (.slice (some ⟨bn, on, none⟩) xs.length nc) := HRB.out.cells 0
  obtain ⟨x, hxx⟩ : ∃ x, nodG xs j = x := ⟨_, rfl⟩
  rw [hxx] at n1 hu HEL HEA HNX HLEN HFIN HFN
  obtain ⟨f, ls, ns⟩ := x
  simp only at n1 n2 hu HEL HEA HNX HLEN HFIN HFN
  have hul := hu.len
  obtain ⟨ua, uc, rfl, hu1, hu2, hu3, -⟩ := hu
  have HU := Shh.mk hu3
  have HND := Shh.mk (And.intro n1 n2)
  clear hu3 hxx hcn hnn hs ho hc n1 n2
  cases f
  case' false => obtain ⟨F0, hF0⟩ : ∃ F0 : Nat, F0 = 0 := ⟨_, rfl⟩
  case' true => obtain ⟨F0, hF0⟩ : ∃ F0 : Nat, F0 = 1 := ⟨_, rfl⟩
  all_goals
    have HF0 := Shh.mk (show (gphD xs).fin j = F0 from by rw [HFIN.out, hF0]; rfl)
    have HE0 := Shh.mk hF0
    have hF1 : F0 ≤ 1 := by omega
    clear hF0
    go_enter Tryd.func120, Tryd.ntmps120
    go_wp2_with (go_at_call 110; refine (HFN.out).mono ?_; rintro e w1 ⟨rfl, hb1⟩; have HB1 := Shh.mk hb1; have d1 : w1.cell? ⟨W.heap.size, 0, none⟩ = some (.slice (some ⟨bn, on, none⟩) xs.length nc) := (HRB.out.kept hb1 HRB.out.lt).cells 0; have n21 := (hb1.cell (p := ⟨bn, on + j * 3 + 2, none⟩) hbn).trans HND.out.2; clear hb1)
    clear d1 n21
    go_loopw [7, 8, 9, 22] (fun t _ _ z wr => ∃ q p m : Nat, q ≤ ns.length ∧ z = .int .i64 q ∧ t = .int .i64 (m : Int) ∧ wr = w1.drewN p ∧ Shh (m = F0 + befL (gphD xs).cnt c (((gphD xs).E j).take q))) (fun _ _ _ z _ => ns.length - (intOf z).toNat)
    case atStart => exact ⟨0, 0, F0, Nat.zero_le _, rfl, by (rw [HE0.out]; try rfl), rfl, ⟨by simp [befL]⟩⟩
    case round =>
      obtain ⟨q, p, m, hql, rfl, rfl, hwp, hm⟩ := hrel
      have HWP := Shh.mk hwp
      clear d0
      have hbr : Below (W.alloc (.cells #[.slice (some ⟨bn, on, none⟩) xs.length nc, .map (some b)] 106)).heap.size (W.alloc (.cells #[.slice (some ⟨bn, on, none⟩) xs.length nc, .map (some b)] 106)) wr := by rw [hwp]; exact below_drewN HB1.out p
      have d0 : wr.cell? ⟨W.heap.size, 0, none⟩ = some (.slice (some ⟨bn, on, none⟩) xs.length nc) := (HRB.out.kept hbr HRB.out.lt).cells 0
      have d1 : wr.cell? ⟨W.heap.size, 1, none⟩ = some (.map (some b)) := (HRB.out.kept hbr HRB.out.lt).cells 1
      have n1 := (hbr.cell (p := ⟨bn, on + j * 3 + 1, none⟩) hbn).trans HND.out.1
      have HBR := Shh.mk hbr
      by_cases hq : q < ns.length
      · obtain ⟨bu, ou, rfl, hbu, hcu⟩ := HU.out (by omega)
        have cu := (hbr.cell (p := ⟨bu, ou + q, none⟩) hbu).trans (hcu q hq)
        have hlq : q < ls.size := by have := HLEN.out; omega
        have hqi : (q : Int) < (ls.size : Int) := by omega
        have he := HEA.out q hq
        rw [byte_eq hlq] at he
        obtain ⟨hz0, hz1⟩ := HNX.out q hq
        obtain ⟨z, hz⟩ : ∃ z, ns.getD q 0 = z := ⟨_, rfl⟩
        rw [hz] at cu hz0 hz1 he
        obtain ⟨i2, rfl⟩ : ∃ i2 : Nat, z = (i2 : Int) := ⟨z.toNat, by omega⟩
        rw [toNat_cast] at he
        have hi2 : i2 < xs.length := by omega
        have hlook := (HCN.out.below hbr).look hlen hi2
        obtain ⟨B, hB⟩ : ∃ B : UInt8, ls[q]'hlq = B := ⟨_, rfl⟩
        obtain ⟨BI, hBI⟩ : ∃ BI : Int, ((ls[q]'hlq).toNat : Int) = BI := ⟨_, rfl⟩
        have hBB : BI = (B.toNat : Int) := by rw [← hBI, hB]
        obtain ⟨CI, hCI⟩ : ∃ CI : Int, (c.toNat : Int) = CI := ⟨_, rfl⟩
        rw [hB] at he
        have hbt := befL_take (cnt := (gphD xs).cnt) (c := c) he
        simp only at hbt
        have hbl := befL_take_le (gphD xs).cnt c ((gphD xs).E j) (q + 1)
        have HB9 := HBEF.out
        unfold Gph.bef at HB9
        rw [HF0.out] at HB9
        obtain ⟨C2, hC2⟩ : ∃ C2, (gphD xs).cnt i2 = C2 := ⟨_, rfl⟩
        rw [hC2] at hlook hbt
        have hj0 : (0 : Int) ≤ (j : Int) := by omega
        by_cases hlt : B < c
        · rw [if_pos hlt] at hbt
          have l1 : BI < CI := by rw [hBB, ← hCI]; rw [UInt8.lt_iff_toNat_lt] at hlt; omega
          have hsum : m + C2 ≤ 3000 := by have h1 := hm.out; omega
          have HNR := Shh.mk (show m + C2 = F0 + befL (gphD xs).cnt c (((gphD xs).E j).take (q + 1)) from by rw [hbt, hm.out]; omega)
          rw [hCI]
          clear hcu hwp hz hz0 hz1 he hB hBB hbt hbl HB9 hC2 hm hlt hCI hbr
          go_wp2
          go_roundw
          case rel => exact ⟨q + 1, p, m + C2, by omega, by go_num, by go_num, HWP.out, HNR⟩
          case measure => simp [intOf]; omega
        · rw [if_neg hlt, Nat.add_zero] at hbt
          have l1 : ¬ BI < CI := by rw [hBB, ← hCI]; rw [UInt8.lt_iff_toNat_lt] at hlt; omega
          have HNR := Shh.mk (show m = F0 + befL (gphD xs).cnt c (((gphD xs).E j).take (q + 1)) from by rw [hbt]; exact hm.out)
          rw [hCI]
          clear hcu hwp hz hz0 hz1 he hB hBB hbt hbl HB9 hC2 hm hlt hCI hbr
          go_wp2
          go_roundw
          case rel => exact ⟨q + 1, p, m, by omega, by go_num, rfl, HWP.out, HNR⟩
          case measure => simp [intOf]; omega
      · obtain rfl : q = ns.length := by omega
        have HR := Shh.mk (show (gphD xs).bef j c = m from by
          have h1 := hm.out
          rw [List.take_of_length_le (by rw [HEL.out]; exact Nat.le_refl _)] at h1
          unfold Gph.bef
          rw [HF0.out]
          omega)
        clear hwp hm hbr
        go_wp2
        go_ret
        exact ⟨by (rw [HR.out]; try rfl), HB0.out.trans (HBR.out.mono HB0.out.size)⟩

/-- How many strings begin with s. -/
def Gph.cntAt (G : Gph) (s : List UInt8) : Nat := match G.after 0 s with
  | some j => G.cnt j
  | none => 0
theorem Gph.rank_dead {G : Gph} {i : Nat} {c : UInt8} {t : List UInt8} (h : G.step i c = none) : G.rank i (c :: t) = G.bef i c := by
  show G.bef i c + (match G.step i c with | some j => G.rank j t | none => 0) = _
  rw [h]
  rfl
theorem Gph.rank_some {G : Gph} {i j : Nat} {c : UInt8} {t : List UInt8} (h : G.step i c = some j) : G.rank i (c :: t) = G.bef i c + G.rank j t := by
  show G.bef i c + (match G.step i c with | some j => G.rank j t | none => 0) = _
  rw [h]

set_option maxRecDepth 100000 in
set_option maxHeartbeats 4000000 in
theorem rangeOf_any {vd : Value} {b : Nat} {xs : List Nod} (W : World) (hx : Nds W vd xs) (ho : DawgOk xs) (hc : Cnts W b xs) (s : ByteArray) (hsz : s.size ≤ 1048576) :
    Calls Tryd.prog 93 #[.agg #[vd, .map (some b)], .string s] W fun e w' => e = .returned (.tuple #[.int .i64 ((gphD xs).rank 0 s.data.toList : Int), .int .i64 ((gphD xs).cntAt s.data.toList : Int)]) ∧ Below W.heap.size W w' := by
  have HB0 := Shh.mk (show Below W.heap.size W (W.alloc (.cells #[vd, .map (some b)] 106)) from (Below.refl _ _).alloc (Nat.le_refl _) _)
  have HRB := Shh.mk (Blk.made W 106 #[vd, .map (some b)])
  have HX := Shh.mk (hx.alloc (.cells #[vd, .map (some b)] 106))
  have HCN := Shh.mk (hc.below HB0.out)
  have HO := Shh.mk ho
  have hlen := ho.shp.len
  have hpos := ho.shp.pos
  have HSL := Shh.mk (list_size s)
  have HTOT := Shh.mk (show (gphD xs).rank 0 s.data.toList ≤ 3000 from by
    have h1 := Gph.rank_le (G := gphD xs) (s := s.data.toList) (i := 0) ho.short
    have h2 := ho.cnt_few ho.shp.pos
    omega)
  have HLT := Shh.mk (fun (l : List UInt8) (j : Nat) (h : (gphD xs).after 0 l = some j) => ho.shp.after_lt ho.shp.pos h)
  obtain ⟨na, nc, rfl, hn1, hn2, -⟩ := hx
  obtain ⟨na2, nc2, he, -, -, hnn⟩ := HX.out
  simp only [Value.slice.injEq] at he
  obtain ⟨rfl, -, rfl⟩ := he
  obtain ⟨bn, on, rfl, hbn, hcn⟩ := hnn (by omega)
  have HN := Shh.mk hcn
  clear hcn hnn ho hc
  obtain ⟨W1, hW1⟩ : ∃ W1, W.alloc (.cells #[.slice (some ⟨bn, on, none⟩) xs.length nc, .map (some b)] 106) = W1 := ⟨_, rfl⟩
  rw [hW1] at HB0 HRB HX HCN HN hbn
  go_enter Tryd.func93, Tryd.ntmps93
  go_wp2
  go_loopw [6, 7, 8, 11] (fun t nd _ z wr => ∃ k j acc : Nat, k ≤ s.size ∧ z = .int .i64 k ∧ nd = .int .i64 j ∧ t = .int .i64 acc ∧ j < xs.length ∧ Below W1.heap.size W1 wr ∧ Shh (acc + (gphD xs).rank j (s.data.toList.drop k) = (gphD xs).rank 0 s.data.toList) ∧ Shh ((gphD xs).after 0 (s.data.toList.take k) = some j)) (fun _ _ _ z _ => s.size - (intOf z).toNat)
  case atStart => exact ⟨0, 0, 0, Nat.zero_le _, rfl, rfl, rfl, hpos, by rw [← hW1]; exact Below.refl _ _, ⟨by rw [List.drop_zero]; omega⟩, ⟨rfl⟩⟩
  case round =>
    obtain ⟨k, j, acc, hkl, rfl, rfl, rfl, hj, hb, hacc, haf⟩ := hrel
    have HB := Shh.mk hb
    clear hW1
    have d0 : wr.cell? ⟨W.heap.size, 0, none⟩ = some (.slice (some ⟨bn, on, none⟩) xs.length nc) := (HRB.out.kept hb HRB.out.lt).cells 0
    have d1 : wr.cell? ⟨W.heap.size, 1, none⟩ = some (.map (some b)) := (HRB.out.kept hb HRB.out.lt).cells 1
    by_cases hk : k < s.size
    · have hki : (k : Int) < (s.size : Int) := by omega
      have hj0 : (0 : Int) ≤ (j : Int) := by omega
      have hj1 : (j : Int) < (xs.length : Int) := by omega
      obtain ⟨c, hcc⟩ : ∃ c : UInt8, s[k]'hk = c := ⟨_, rfl⟩
      have hdr : s.data.toList.drop k = c :: s.data.toList.drop (k + 1) := by
        rw [List.drop_eq_getElem_cons (by rw [HSL.out]; exact hk), ← hcc]
        rfl
      have HNX := Shh.mk (show (gphD xs).after 0 (s.data.toList.take (k + 1)) = (gphD xs).step j c from by rw [Gph.after_take (by rw [HSL.out]; exact hk), haf.out, byte_eq hk, hcc])
      have HCB := Shh.mk (fun (w' : World) (h' : Below W1.heap.size W1 w') => countBefore_any w' (HX.out.below h') HO.out (HCN.out.below h') j hj c)
      have his := step_is HO.out.shp hj c
      have hacc' := hacc.out
      rw [hdr] at hacc'
      obtain ⟨o, hos⟩ : ∃ o, (gphD xs).step j c = o := ⟨_, rfl⟩
      rw [hos] at his HNX
      obtain ⟨BF, hBF⟩ : ∃ BF, (gphD xs).bef j c = BF := ⟨_, rfl⟩
      rw [hBF] at HCB
      have hsum : acc + BF ≤ 3000 := by
        have h2 := HTOT.out
        cases o with
        | none => rw [Gph.rank_dead hos, hBF] at hacc'; omega
        | some p => rw [Gph.rank_some hos, hBF] at hacc'; omega
      obtain ⟨n0, n1, u, n2, hu⟩ := HN.out j hj
      obtain ⟨x, hxx⟩ : ∃ x, nodG xs j = x := ⟨_, rfl⟩
      rw [hxx] at n0 n1 hu his
      obtain ⟨f, ls, ns⟩ := x
      simp only at n0 n1 n2 hu his
      have HST := Shh.mk (fun (w' : World) (h' : Below W1.heap.size W1 w') => step_any (f := f) (ls := ls) w' (hu.below h') c (optI o) his)
      obtain ⟨ua, uc, rfl, -⟩ := hu
      have HND := Shh.mk (fun (w' : World) (h' : Below W1.heap.size W1 w') => show w'.cell? ⟨W.heap.size, 0, none⟩ = some (.slice (some ⟨bn, on, none⟩) xs.length nc) ∧ w'.cell? ⟨W.heap.size, 1, none⟩ = some (.map (some b)) ∧ w'.cell? ⟨bn, on + j * 3, none⟩ = some (.bool f) ∧ w'.cell? ⟨bn, on + j * 3 + 1, none⟩ = some (.string ls) ∧ w'.cell? ⟨bn, on + j * 3 + 2, none⟩ = some (.slice ua ns.length uc) from
        ⟨(HRB.out.kept h' HRB.out.lt).cells 0, (HRB.out.kept h' HRB.out.lt).cells 1, (h'.cell (p := ⟨bn, on + j * 3, none⟩) hbn).trans n0, (h'.cell (p := ⟨bn, on + j * 3 + 1, none⟩) hbn).trans n1, (h'.cell (p := ⟨bn, on + j * 3 + 2, none⟩) hbn).trans n2⟩)
      have HAC := Shh.mk hacc'
      have HOS := Shh.mk hos
      have HBF := Shh.mk hBF
      have hbytes : ((s[k]'hk).toNat : Int) = (c.toNat : Int) := by rw [hcc]
      clear his hxx hdr hacc hacc' hos hBF n0 n1 n2 hcc haf hb
      go_wp2
      go_region_with (go_at_call 120; refine (HCB.out _ (by first | exact HB.out.drew | exact HB.out)).mono ?_; rintro e w2 ⟨rfl, hb2⟩)
      all_goals
        have HB2 := Shh.mk (HB.out.drew.trans (hb2.mono HB.out.size))
        obtain ⟨e0, e1, e2, e3, e4⟩ := HND.out _ HB2.out
        clear hb2 d0 d1
        go_wp2
        cases o with
        | none =>
          rw [optI_none] at HST
          have HR1 := Shh.mk (show acc + BF = (gphD xs).rank 0 s.data.toList from by have h1 := HAC.out; rw [Gph.rank_dead HOS.out, HBF.out] at h1; exact h1)
          have HR2 := Shh.mk (show (gphD xs).cntAt s.data.toList = 0 from by unfold Gph.cntAt; rw [Gph.after_dead (s.size - (k + 1)) (k + 1) (by rw [HSL.out]; omega) HNX.out])
          go_region_with (go_at_call 74; refine (HST.out _ (by first | exact HB2.out.drew | exact HB2.out)).mono ?_; rintro e w4 ⟨rfl, hb4⟩)
          all_goals
            go_wp2
            go_ret2
            exact ⟨by (rw [← HR1.out, HR2.out]; try rfl), HB0.out.trans ((HB2.out.drew.trans (hb4.mono HB2.out.size)).mono HB0.out.size)⟩
        | some p =>
          have hp := HLT.out _ _ HNX.out
          rw [optI_some] at HST
          have hne : ((p : Int) == -1) = false := beq_eq_false_iff_ne.2 (by omega)
          have HR1 := Shh.mk (show (acc + BF) + (gphD xs).rank p (s.data.toList.drop (k + 1)) = (gphD xs).rank 0 s.data.toList from by have h1 := HAC.out; rw [Gph.rank_some HOS.out, HBF.out] at h1; omega)
          go_region_with (go_at_call 74; refine (HST.out _ (by first | exact HB2.out.drew | exact HB2.out)).mono ?_; rintro e w4 ⟨rfl, hb4⟩)
          all_goals
            have HB4 := Shh.mk (HB2.out.drew.trans (hb4.mono HB2.out.size))
            clear hb4
            go_wp2
            go_roundw
            case rel => exact ⟨k + 1, p, acc + BF, by omega, by go_num, rfl, by go_num, hp, HB4.out, HR1, HNX⟩
            case measure => simp [intOf]; omega
    · obtain rfl : k = s.size := by omega
      have HR1 := Shh.mk (show acc = (gphD xs).rank 0 s.data.toList from by
        have h1 := hacc.out
        rw [List.drop_of_length_le (by rw [HSL.out]; exact Nat.le_refl _)] at h1
        exact h1)
      have HR2 := Shh.mk (show (gphD xs).cntAt s.data.toList = (gphD xs).cnt j from by
        have h1 := haf.out
        rw [List.take_of_length_le (by rw [HSL.out]; exact Nat.le_refl _)] at h1
        unfold Gph.cntAt
        rw [h1])
      have hlook := (HCN.out.below HB.out.drew).look hlen hj
      obtain ⟨C2, hC2⟩ : ∃ C2, (gphD xs).cnt j = C2 := ⟨_, rfl⟩
      rw [hC2] at hlook HR2
      clear hacc haf hb hC2
      go_wp2
      go_region
      all_goals
        go_wp2
        go_ret2
        exact ⟨by (rw [← HR1.out, HR2.out]; try rfl), HB0.out.trans (HB.out.drew.mono HB0.out.size)⟩
end Go.Proofs.YtokfkofclpajfaaDoor
