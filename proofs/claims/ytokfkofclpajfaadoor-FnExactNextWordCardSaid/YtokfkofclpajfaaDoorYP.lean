/-
  The string with a number: the program's answer.
-/
import Derived.Test.YtokfkofclpajfaaDoorYN
import Derived.Test.YtokfkofclpajfaaDoorYI
import Derived.Test.YtokfkofclpajfaaDoorQ1
import Derived.Deep.LoopGhost
namespace Go.Proofs.YtokfkofclpajfaaDoor
open Go.RowKit Go.Maps Go.WideMaps

/-- Another byte at the end of a row of the call's own. -/
theorem append_byteP {ops : Array Oper} {rest : List Oper} {o : Oper} {a : Act} {Q : Exit → Act → World → Prop} {B : Nat} {W : World} (hgd : o.guard = none) (s x : Operand)
    (ho : o.op = .call { callee := .builtin .append, args := #[s, x], argTypes := #[96, 96] })
    (v : Value) (l : List UInt8) (c : UInt8) (hs : a.eval s = v) (hx : a.eval x = .slice (some ⟨W.heap.size, 0, none⟩) 1 1)
    (hown : OwnB B W v l) (hlen : l.length ≤ 2097152) (hB : B ≤ W.heap.size)
    (h : ∀ v' w', OwnB B w' v' (l ++ [c]) → (∀ w0, Below B w0 W → Below B w0 w') → wpList Tryd.prog ops Q rest (a.put o.dst v') w') :
    wpList Tryd.prog ops Q (o :: rest) a (W.alloc (.cells #[.int .u8 (c.toNat : Int)] 5)) := by
  obtain ⟨i0, hi, hz0, hz1, hz2⟩ := info_parts info8Q
  refine wpList_append_own _ hgd s x 96 ho B 5 i0 (.int .u8 0) 1 1 Tryd.underlying96 hi hz0 hz1 hz2 rfl (by decide) v l.length (Lib.byteCells l) hs (World.ownsRow.alloc hown _) ⟨W.heap.size, 0, none⟩ 1 1 [.int .u8 (c.toNat : Int)] hx rfl ?_ ?_ ?_ ?_ ?_ ?_
  · exact cell_one_new _ _ _
  · intro u hu; simp at hu; subst hu; rfl
  · simp [maxLen]; omega
  · omega
  · simp; omega
  · intro v' w' ho' hg _
    refine h v' w' ?_ fun w0 h0 => (h0.alloc hB _).grown hg (by simp; omega) (own_blockQ hown)
    unfold OwnB
    rw [← byte_cells_snoc, List.length_append]
    exact ho'
def lenSl (v : Value) : Nat := match v with
  | .slice _ n _ => n
  | _ => 0

set_option maxRecDepth 100000 in
set_option maxHeartbeats 8000000 in
theorem wordAt_any {vd : Value} {b : Nat} {xs : List Nod} (W : World) (hx : Nds W vd xs) (ho : DawgOk xs) (hc : Cnts W b xs) (n0 : Nat) (hn0 : n0 < (gphD xs).cnt 0) :
    Calls Tryd.prog 95 #[.agg #[vd, .map (some b)], .int .i64 (n0 : Int)] W fun e w' => e = .returned (.string (txt ((gphD xs).word 14 0 n0))) ∧ Below W.heap.size W w' := by
  have HB0 := Shh.mk (show Below W.heap.size W (W.alloc (.cells #[vd, .map (some b)] 106)) from (Below.refl _ _).alloc (Nat.le_refl _) _)
  have HRB := Shh.mk (Blk.made W 106 #[vd, .map (some b)])
  have HX := Shh.mk (hx.alloc (.cells #[vd, .map (some b)] 106))
  have HCN := Shh.mk (hc.below HB0.out)
  have HO := Shh.mk ho
  have hlen := ho.shp.len
  have hpos := ho.shp.pos
  have hok0 := ho.short
  obtain ⟨na, nc, rfl, hn1, hn2, -⟩ := hx
  obtain ⟨na2, nc2, he, -, -, hnn⟩ := HX.out
  simp only [Value.slice.injEq] at he
  obtain ⟨rfl, -, rfl⟩ := he
  obtain ⟨bn, on, rfl, hbn, hcn⟩ := hnn (by omega)
  have HN := Shh.mk hcn
  clear hcn hnn ho hc
  obtain ⟨W1, hW1⟩ : ∃ W1, W.alloc (.cells #[.slice (some ⟨bn, on, none⟩) xs.length nc, .map (some b)] 106) = W1 := ⟨_, rfl⟩
  have HSW := Shh.mk (show W1.heap.size = W.heap.size + 1 from by rw [← hW1, World.size_alloc])
  rw [hW1] at HB0 HRB HX HCN HN hbn
  have HNXT := Shh.mk (fun (w' w'' : World) (h : Below W1.heap.size W1 w') (h2 : Below w'.heap.size w' w'') => h.trans (h2.mono h.size))
  go_enter Tryd.func95, Tryd.ntmps95
  go_wp2
  go_step3
  go_wp2
  go_step3
  go_wp2
  go_loopg [1, 5, 6, 7, 8, 32] 14 (fun g t so nd _ _ _ wr => ∃ (j n : Nat) (L : List UInt8) (la : Option Addr) (lc : Nat), t = .int .i64 n ∧ so = .slice la L.length lc ∧ nd = .int .i64 j ∧ j < xs.length ∧ L.length + g = 14 ∧ n < (gphD xs).cnt j ∧ (gphD xs).okH g j = true ∧ Below W1.heap.size W1 wr ∧ Shh (OwnB W1.heap.size wr (.slice la L.length lc) L) ∧ Shh (L ++ (gphD xs).word g j n = (gphD xs).word 14 0 n0))
  case atStart => exact ⟨0, n0, [], none, 0, rfl, rfl, rfl, hpos, rfl, hn0, hok0, by rw [← hW1]; exact Below.refl _ _, ⟨⟨rfl, .inl ⟨rfl, rfl⟩⟩⟩, ⟨by simp⟩⟩
  case round =>
    obtain ⟨w3, hw3⟩ : ∃ w3 : World, w3 = wr := ⟨_, rfl⟩
    subst hw3
    obtain ⟨j, n, L, la, lc, rfl, rfl, rfl, hj, hSr, hn, hok, hb, hown, hword⟩ := hrel
    have HB4 := Shh.mk hb
    clear hn0 hok0 hW1
    obtain ⟨r', rfl⟩ : ∃ r', gk = r' + 1 := by
      cases gk with
      | zero => simp [Gph.okH] at hok
      | succ r' => exact ⟨r', rfl⟩
    have HOKR := Shh.mk hok
    have HOK14 := Shh.mk (HO.out.short_all hj)
    have hcf := HO.out.cnt_few hj
    obtain ⟨m0, m1, u, m2, hu⟩ := HN.out j hj
    have HEL := Shh.mk (HO.out.shp.E_len hj)
    have HEA := Shh.mk (fun m (hm : m < (nodG xs j).ns.length) => HO.out.shp.E_at hj hm)
    have HNX := Shh.mk (fun m (hm : m < (nodG xs j).ns.length) => show 0 ≤ (nodG xs j).ns.getD m 0 ∧ (nodG xs j).ns.getD m 0 < xs.length by rw [List.getD_eq_getElem?_getD, List.getElem?_eq_getElem hm]; exact (HO.out.shp.node j hj).next _ (List.getElem_mem hm))
    have HLEN := Shh.mk ((HO.out.shp.node j hj).len)
    have HFIN := Shh.mk (show (gphD xs).F j = (nodG xs j).f from rfl)
    have HFN := Shh.mk (fun (w' : World) (h' : Below W1.heap.size W1 w') => isFinal_any w' (HX.out.below h') j hj)
    obtain ⟨x, hxx⟩ : ∃ x, nodG xs j = x := ⟨_, rfl⟩
    rw [hxx] at m0 m1 hu HEL HEA HNX HLEN HFIN HFN
    obtain ⟨f, ls, ns⟩ := x
    simp only at m0 m1 m2 hu HEL HEA HNX HLEN HFIN HFN
    have hul := hu.len
    obtain ⟨ua, uc, rfl, hu1, hu2, hu3, -⟩ := hu
    have HU := Shh.mk hu3
    have HND := Shh.mk (fun (w' : World) (h' : Below W1.heap.size W1 w') => show w'.cell? ⟨W.heap.size, 0, none⟩ = some (.slice (some ⟨bn, on, none⟩) xs.length nc) ∧ w'.cell? ⟨W.heap.size, 1, none⟩ = some (.map (some b)) ∧ w'.cell? ⟨bn, on + j * 3 + 1, none⟩ = some (.string ls) ∧ w'.cell? ⟨bn, on + j * 3 + 2, none⟩ = some (.slice ua ns.length uc) from
        ⟨(HRB.out.kept h' HRB.out.lt).cells 0, (HRB.out.kept h' HRB.out.lt).cells 1, (h'.cell (p := ⟨bn, on + j * 3 + 1, none⟩) hbn).trans m1, (h'.cell (p := ⟨bn, on + j * 3 + 2, none⟩) hbn).trans m2⟩)
    obtain ⟨d0, d1, -, -⟩ := HND.out _ hb
    have hj0 : (0 : Int) ≤ (j : Int) := by omega
    have hj1 : (j : Int) < (xs.length : Int) := by omega
    clear hu3 hxx m0 m1 m2 hok hb
    by_cases hfin : f = true ∧ n = 0
    · obtain ⟨rfl, rfl⟩ := hfin
      have HRES := Shh.mk (show (gphD xs).word 14 0 n0 = L from by rw [← hword.out, Gph.word_done HFIN.out, List.append_nil])
      have hz : ((0 : Nat) : Int) = 0 := rfl
      rw [hz]
      clear hword
      go_wp2_with (go_at_call 110; refine (HFN.out _ (by first | exact HB5.out | exact HB4.out)).mono ?_; rintro e w5 ⟨rfl, hb5⟩; have HB5 := Shh.mk (HNXT.out _ _ HB4.out hb5); have hcv := conv_rowQ (hown.out.kept hb5); clear hb5)
      try rw [Exit.noGoto_ret]
      go_ret
      exact ⟨by (rw [HRES.out]; try rfl), HB0.out.trans (HB5.out.mono HB0.out.size)⟩
    · have HNF := Shh.mk (show ¬ ((gphD xs).F j = true ∧ n = 0) from by rw [HFIN.out]; exact hfin)
      have HROOM := Shh.mk (Gph.word_room HOK14.out HNF.out hn)
      have HRUN := Shh.mk (show ∃ (M : Nat), n - (gphD xs).fin j = M ∧ M ≤ 3000 from ⟨_, rfl, by omega⟩)
      obtain ⟨M, hMF, hM3⟩ := HRUN.out
      have HMF := Shh.mk hMF
      have hfi : (gphD xs).fin j = if f = true then 1 else 0 := by unfold Gph.fin; rw [HFIN.out]
      rw [hMF] at HROOM
      have HSTP := Shh.mk (fun (m i2 nn : Nat) (B : UInt8) (hee : ((gphD xs).E j)[m]? = some (B, i2)) (h2 : nn + sumT (gphD xs) j m = M) (h3 : nn < (gphD xs).cnt i2) => show (L ++ [B]) ++ (gphD xs).word r' i2 nn = (gphD xs).word 14 0 n0 from by
        unfold sumT at h2
        rw [← hword.out, Gph.word_step (r := r') HNF.out hee (by rw [hMF]; omega) (by rw [hMF]; show M < _ + (gphD xs).cnt i2; omega)]
        have h5 : n - (gphD xs).fin j - sumOf (gphD xs).cnt (((gphD xs).E j).take m |>.map (·.2)) = nn := by rw [hMF]; omega
        rw [h5]
        simp)
      by_cases hn9 : 0 < n
      case' neg =>
        obtain rfl : n = 0 := by omega
        have hff : f = false := by cases f; rfl; exact absurd ⟨rfl, rfl⟩ hfin
        subst hff
        have HWN := Shh.mk (show (M : Int) = 0 from by omega)
        have hz : ((0 : Nat) : Int) = 0 := rfl
        have hng : ¬ (0 : Int) < 0 := by omega
        have hwn := hz
        rw [hz]
        clear hfi hMF hfin
      case' pos =>
        have hng : (0 : Int) < (n : Int) := by omega
        cases f
        case' false =>
          have HWN := Shh.mk (show (M : Int) = (n : Int) from by have h1 : M = n := (by rw [← hMF, hfi]; simp); omega)
          have hwn := hng
          clear hfi hMF hfin
        case' true =>
          have hwn : IntKind.i64.wrap ((n : Int) - 1) = (M : Int) := by
            have h1 : M = n - 1 := by rw [← hMF, hfi]; simp
            rw [show (n : Int) - 1 = (M : Int) by omega]
            exact IntWalk.i64_in _ (by omega)
          have HWN := Shh.mk (show (M : Int) = (M : Int) from rfl)
          clear hfi hMF hfin
      all_goals
        go_wp2_with (go_at_call 110; refine (HFN.out _ (by first | exact HB5.out | exact HB4.out)).mono ?_; rintro e w5 ⟨rfl, hb5⟩; have HB5 := Shh.mk (HNXT.out _ _ (by first | exact HB5.out | exact HB4.out) hb5); have HOW := Shh.mk ((by first | exact HOW.out | exact hown.out : OwnB W1.heap.size _ (.slice la L.length lc) L).kept hb5); obtain ⟨f0, f1, f2, f3⟩ := HND.out _ HB5.out; clear hb5)
        clear d0 d1
        go_loopg [1, 5, 6, 7, 8, 32] ns.length (fun g2 t so nd _ _ z wr => ∃ m nn : Nat, m + g2 = ns.length ∧ z = .int .i64 m ∧ t = .int .i64 nn ∧ so = .slice la L.length lc ∧ nd = .int .i64 j ∧ wr = w5 ∧ Shh (nn + sumT (gphD xs) j m = M))
        case atStart => exact ⟨0, M, by omega, rfl, by first | rfl | (rw [HWN.out]; rfl) | rw [HWN.out], rfl, rfl, rfl, ⟨by simp [sumT, sumOf]⟩⟩
        case round =>
          obtain ⟨m, nn, hml, rfl, rfl, rfl, rfl, rfl, hnn⟩ := hrel
          have hm : m < ns.length := by
            apply Classical.byContradiction
            intro hge
            have h1 := HROOM.out
            have h2 := hnn.out
            unfold sumT at h2
            rw [List.take_of_length_le (by rw [HEL.out]; omega)] at h2
            omega
          obtain ⟨g2, rfl⟩ : ∃ g2, gk = g2 + 1 := ⟨gk - 1, by omega⟩
          obtain ⟨bu, ou, rfl, hbu, hcu⟩ := HU.out (by omega)
          have cu := (HB5.out.cell (p := ⟨bu, ou + m, none⟩) hbu).trans (hcu m hm)
          have hlm : m < ls.size := by have := HLEN.out; omega
          have hmi : (m : Int) < (ls.size : Int) := by omega
          have hm0 : (m : Int) < (ns.length : Int) := by omega
          have hee := HEA.out m hm
          rw [byte_eq hlm] at hee
          obtain ⟨hz0, hz1⟩ := HNX.out m hm
          obtain ⟨z, hz⟩ : ∃ z, ns.getD m 0 = z := ⟨_, rfl⟩
          rw [hz] at cu hz0 hz1 hee
          obtain ⟨i2, rfl⟩ : ∃ i2 : Nat, z = (i2 : Int) := ⟨z.toNat, by omega⟩
          rw [toNat_cast] at hee
          have hi2 : i2 < xs.length := by omega
          have hlook := (HCN.out.below HB5.out).look hlen hi2
          have hsx := sumOf_takeE (cnt := (gphD xs).cnt) hee
          simp only at hsx
          obtain ⟨C2, hC2⟩ : ∃ C2, (gphD xs).cnt i2 = C2 := ⟨_, rfl⟩
          rw [hC2] at hlook hsx
          have hi20 : (0 : Int) ≤ (i2 : Int) := by omega
          have hi21 : (i2 : Int) < (xs.length : Int) := by omega
          have hnn3 : nn ≤ 3000 := by have h2 := hnn.out; omega
          by_cases hge : C2 ≤ nn
          · have hgi : ¬ (nn : Int) < (C2 : Int) := by omega
            have HNN := Shh.mk (show nn - C2 + sumT (gphD xs) j (m + 1) = M from by have h2 := hnn.out; unfold sumT at h2 ⊢; rw [hsx]; omega)
            have hwn2 : IntKind.i64.wrap ((nn : Int) - (C2 : Int)) = ((nn - C2 : Nat) : Int) := by rw [show (nn : Int) - (C2 : Int) = ((nn - C2 : Nat) : Int) by omega]; exact IntWalk.i64_in _ (by omega)
            clear hcu hz hz0 hz1 hee hsx hC2 hnn hwn hng
            go_wp2
            go_roundg g2
            case rel => exact ⟨m + 1, nn - C2, by omega, by go_num, by first | rfl | (rw [hwn2]) | go_num, rfl, rfl, rfl, HNN⟩
            case measure => omega
          · have hgi : (nn : Int) < (C2 : Int) := by omega
            have hn2 : nn < (gphD xs).cnt i2 := by rw [hC2]; omega
            have HNW := Shh.mk (HSTP.out m i2 nn (ls[m]'hlm) hee hnn.out hn2)
            have hok2 := Gph.okH_step.1 HOKR.out _ (List.mem_of_getElem? hee)
            have HK2 := Shh.mk hok2
            have HN2 := Shh.mk hn2
            have hL14 : L.length ≤ 14 := by omega
            have HSZ5 := Shh.mk HB5.out.size
            clear hcu hz hz0 hz1 hee hsx hC2 hnn hn2 hwn hng hok2
            go_wp2_with (refine append_byteP rfl _ _ rfl _ L (ls[m]'hlm) rfl rfl HOW.out (by omega) HSZ5.out ?_; intro v' w6 ho6 hb6; have HO6 := Shh.mk ho6; obtain ⟨a6, c6, e6, -, -, -⟩ := own_formQ ho6; obtain ⟨L6, hL6⟩ : ∃ l, L ++ [ls[m]'hlm] = l := ⟨_, rfl⟩; have HL6 := Shh.mk hL6; have HLL := Shh.mk (show L6.length = L.length + 1 from by rw [← hL6]; simp); rw [hL6] at e6 HO6; subst e6; have HB6 := Shh.mk (hb6 _ HB5.out); clear hL6 ho6 hb6)
            go_roundg r'
            case measure => omega
            case rel => exact ⟨i2, nn, L6, a6, c6, rfl, rfl, rfl, hi2, by have := HLL.out; omega, HN2.out, HK2.out, HB6.out, HO6, ⟨by rw [← HL6.out]; exact HNW.out⟩⟩
end Go.Proofs.YtokfkofclpajfaaDoor
