/-
  The string with a number: the model's answer.
-/
import Derived.Test.YtokfkofclpajfaaDoorYG
import Derived.Test.YtokfkofclpajfaaDoorVI
namespace Go.Proofs.YtokfkofclpajfaaDoor
open Go.RowKit

def szOf (v : Value) : Nat := match v with
  | .string s => s.size
  | _ => 0
def sumT (G : Gph) (j m : Nat) : Nat := sumOf G.cnt (((G.E j).take m).map (·.2))

set_option maxRecDepth 100000 in
set_option maxHeartbeats 8000000 in
theorem l07At_any {gd : Nat} {v : Value} {xs : List Nod} (W : World) (hd : Blk W gd 29 #[v]) (hx : Nds W v xs) (ho : DawgOk xs) (n0 : Nat) (hn0 : n0 < (gphD xs).cnt 0) :
    Calls Tryd.prog 94 #[.pointer (some ⟨gd, 0, none⟩), .int .i64 (n0 : Int)] W fun e w' => e = .returned (.string (txt ((gphD xs).word 14 0 n0))) ∧ Below W.heap.size W w' := by
  have HC := Shh.mk (l07Counts_any W hd hx ho)
  have HDB := Shh.mk hd
  have HX := Shh.mk hx
  have HO := Shh.mk ho
  have hpos := ho.shp.pos
  have hlen := ho.shp.len
  have hok0 := ho.short
  obtain ⟨na, nc, rfl, hn1, hn2, -⟩ := hx
  clear hd ho
  go_enter Tryd.func94, Tryd.ntmps94
  go_wp2_with (go_at_call 90; refine (HC.out).mono ?_; rintro e w2 ⟨g, cp, rfl, hrow, hb2⟩; have HR := Shh.mk hrow; have HB2 := Shh.mk hb2; have d0 := (HDB.out.kept hb2 HDB.out.lt).cells 0; have HD2 := Shh.mk d0; have HX2 := Shh.mk (HX.out.below hb2); clear hrow hb2 HC)
  clear d0
  obtain ⟨na2, nc2, he, -, -, hnn⟩ := HX2.out
  simp only [Value.slice.injEq] at he
  obtain ⟨rfl, -, rfl⟩ := he
  obtain ⟨bn, on, rfl, hbn, hcn⟩ := hnn hpos
  have HN := Shh.mk hcn
  clear hcn hnn
  go_loopw [1, 6, 7, 8, 9] (fun t so nd _ _ wr => ∃ (q r j n : Nat) (S : ByteArray), t = .int .i64 n ∧ so = .string S ∧ nd = .int .i64 j ∧ wr = w2.drewN q ∧ j < xs.length ∧ S.size + r = 14 ∧ n < (gphD xs).cnt j ∧ (gphD xs).okH r j = true ∧ Shh (S.data.toList ++ (gphD xs).word r j n = (gphD xs).word 14 0 n0)) (fun _ so _ _ _ _ => 14 - szOf so)
  case atStart => exact ⟨0, 14, 0, n0, ByteArray.empty, rfl, rfl, rfl, rfl, hpos, rfl, hn0, hok0, ⟨by simp⟩⟩
  case round =>
    obtain ⟨w3, hw3⟩ : ∃ w3 : World, w3 = wr := ⟨_, rfl⟩
    subst hw3
    obtain ⟨q, r, j, n, S, rfl, rfl, rfl, hwq, hj, hSr, hn, hok, hword⟩ := hrel
    have HWQ := Shh.mk hwq
    clear hn0 hok0
    obtain ⟨r', rfl⟩ : ∃ r', r = r' + 1 := by
      cases r with
      | zero => simp [Gph.okH] at hok
      | succ r' => exact ⟨r', rfl⟩
    have HOKR := Shh.mk hok
    have HOK14 := Shh.mk (HO.out.short_all hj)
    have hcf := HO.out.cnt_few hj
    obtain ⟨m0, m1, u, m2, hu⟩ := HN.out j hj
    have HEL := Shh.mk (HO.out.shp.E_len hj)
    have HEA := Shh.mk (fun m (hm : m < (nodG xs j).ns.length) => HO.out.shp.E_at hj hm)
    have HNX := Shh.mk (fun m (hm : m < (nodG xs j).ns.length) => show 0 ≤ (nodG xs j).ns.getD m 0 ∧ (nodG xs j).ns.getD m 0 < xs.length by rw [List.getD_eq_getElem?_getD, List.getElem?_eq_getElem hm]; exact (HO.out.shp.node j hj).next _ (List.getElem_mem hm))
    have HLEN := Shh.mk ((HO.out.shp.node j hj).len)
    have HFIN := Shh.mk (show (gphD xs).F j = (nodG xs j).f from rfl)
    obtain ⟨x, hxx⟩ : ∃ x, nodG xs j = x := ⟨_, rfl⟩
    rw [hxx] at m0 m1 hu HEL HEA HNX HLEN HFIN
    obtain ⟨f, ls, ns⟩ := x
    simp only at m0 m1 m2 hu HEL HEA HNX HLEN HFIN
    have hul := hu.len
    obtain ⟨ua, uc, rfl, hu1, hu2, hu3, -⟩ := hu
    have HU := Shh.mk hu3
    have HND := Shh.mk (And.intro m1 m2)
    have d0 : w3.cell? ⟨gd, 0, none⟩ = some (.slice (some ⟨bn, on, none⟩) xs.length nc) := by rw [hwq]; exact HD2.out
    have e0 : w3.cell? ⟨bn, on + j * 3, none⟩ = some (.bool f) := by rw [hwq]; exact m0
    have hj0 : (0 : Int) ≤ (j : Int) := by omega
    have hj1 : (j : Int) < (xs.length : Int) := by omega
    clear hu3 hxx m0 m1 m2 hwq hok
    by_cases hfin : f = true ∧ n = 0
    · obtain ⟨rfl, rfl⟩ := hfin
      have HRES := Shh.mk (show txt ((gphD xs).word 14 0 n0) = S from by rw [← hword.out, Gph.word_done HFIN.out, List.append_nil, txt_of])
      have hz : ((0 : Nat) : Int) = 0 := rfl
      rw [hz]
      clear hword
      go_wp2
      go_ret
      exact ⟨by (rw [HRES.out]; try rfl), by rw [HWQ.out]; exact below_drewN HB2.out _⟩
    · have HNF := Shh.mk (show ¬ ((gphD xs).F j = true ∧ n = 0) from by rw [HFIN.out]; exact hfin)
      have HROOM := Shh.mk (Gph.word_room HOK14.out HNF.out hn)
      cases f
      case' false =>
        obtain ⟨M, hM⟩ : ∃ M, M = n := ⟨_, rfl⟩
        have HMF := Shh.mk (show n - (gphD xs).fin j = M from by unfold Gph.fin; rw [HFIN.out, hM]; simp)
        have hnb := hj0
        have hwn := hj0
      case' true =>
        have hnz : n ≠ 0 := fun e => hfin ⟨rfl, e⟩
        obtain ⟨M, hM⟩ : ∃ M, M = n - 1 := ⟨_, rfl⟩
        have HMF := Shh.mk (show n - (gphD xs).fin j = M from by unfold Gph.fin; rw [HFIN.out, hM]; simp)
        have hnb : ((n : Int) == 0) = false := beq_eq_false_iff_ne.2 (by omega)
        have hwn : IntKind.i64.wrap ((n : Int) - 1) = (M : Int) := by rw [show (n : Int) - 1 = (M : Int) by omega]; exact IntWalk.i64_in _ (by omega)
      all_goals
        rw [HMF.out] at HROOM
        have HMM := Shh.mk hM
        have hM3 : M ≤ 3000 := by omega
        clear hfin hM
        go_wp2
        go_loopw [1, 9] (fun t z wr => ∃ m p nn : Nat, m ≤ ns.length ∧ z = .int .i64 m ∧ t = .int .i64 nn ∧ wr = w2.drewN p ∧ Shh (nn + sumT (gphD xs) j m = M)) (fun _ z _ => ns.length - (intOf z).toNat)
        case atStart => exact ⟨0, _, M, Nat.zero_le _, rfl, by first | rfl | (rw [HMM.out]; try rfl), by first | exact HWQ.out | (rw [HWQ.out]; exact World.drewN_drewN _ _ _), ⟨by simp [sumT, sumOf]⟩⟩
        case round =>
          obtain ⟨m, p, nn, hml, rfl, rfl, hwp, hnn⟩ := hrel
          have HWP := Shh.mk hwp
          have m1 : wr.cell? ⟨bn, on + j * 3 + 1, none⟩ = some (.string ls) := by rw [hwp]; exact HND.out.1
          have m2 : wr.cell? ⟨bn, on + j * 3 + 2, none⟩ = some (.slice ua ns.length uc) := by rw [hwp]; exact HND.out.2
          clear d0 e0
          have hm : m < ns.length := by
            apply Classical.byContradiction
            intro hge
            have h1 := HROOM.out
            have h2 := hnn.out
            unfold sumT at h2
            rw [List.take_of_length_le (by rw [HEL.out]; omega)] at h2
            omega
          obtain ⟨bu, ou, rfl, hbu, hcu⟩ := HU.out (by omega)
          have cu : wr.cell? ⟨bu, ou + m, none⟩ = some (.int .i64 (ns.getD m 0)) := by rw [hwp]; exact hcu m hm
          have hlm : m < ls.size := by have := HLEN.out; omega
          have hee := HEA.out m hm
          obtain ⟨hz0, hz1⟩ := HNX.out m hm
          obtain ⟨z, hz⟩ : ∃ z, ns.getD m 0 = z := ⟨_, rfl⟩
          rw [hz] at cu hz0 hz1 hee
          obtain ⟨i2, rfl⟩ : ∃ i2 : Nat, z = (i2 : Int) := ⟨z.toNat, by omega⟩
          rw [toNat_cast] at hee
          have hi2 : i2 < xs.length := by omega
          have hrc := (rowI_at (m := fun i => ((gphD xs).cnt i : Int)) HR.out hi2).1
          have cr : wr.cell? ⟨g, i2, none⟩ = some (.int .i64 ((gphD xs).cnt i2 : Int)) := by rw [hwp]; exact hrc
          have hsx := sumOf_takeE (cnt := (gphD xs).cnt) hee
          simp only at hsx
          obtain ⟨C2, hC2⟩ : ∃ C2, (gphD xs).cnt i2 = C2 := ⟨_, rfl⟩
          rw [hC2] at cr hsx
          have hi20 : (0 : Int) ≤ (i2 : Int) := by omega
          have hi21 : (i2 : Int) < (xs.length : Int) := by omega
          have hnn3 : nn ≤ 3000 := by have h2 := hnn.out; omega
          by_cases hge : C2 ≤ nn
          · have hgi : (C2 : Int) ≤ (nn : Int) := by omega
            have HNN := Shh.mk (show nn - C2 + sumT (gphD xs) j (m + 1) = M from by have h2 := hnn.out; unfold sumT at h2 ⊢; rw [hsx]; omega)
            have hwn2 : IntKind.i64.wrap ((nn : Int) - (C2 : Int)) = ((nn - C2 : Nat) : Int) := by rw [show (nn : Int) - (C2 : Int) = ((nn - C2 : Nat) : Int) by omega]; exact IntWalk.i64_in _ (by omega)
            clear hcu hwp hz hz0 hz1 hee hsx hC2 hrc hnn
            go_wp2
            go_roundw
            case rel => exact ⟨m + 1, p, nn - C2, by omega, by go_num, by first | rfl | (rw [hwn2]) | go_num, HWP.out, HNN⟩
            case measure => simp [intOf]; omega
          · have hgi : ¬ (C2 : Int) ≤ (nn : Int) := by omega
            obtain ⟨S2, hS2⟩ : ∃ S2, S ++ ls.extract m (m + 1) = S2 := ⟨_, rfl⟩
            obtain ⟨c, hc'⟩ : ∃ c, ls.data.toList.getD m 0 = c := ⟨_, rfl⟩
            rw [hc'] at hee
            have hS3 : S2 = catB S [c] := by rw [← hS2, ← hc']; exact cat_at hlm
            have hsz2 : S2.size = S.size + 1 := by rw [hS3, catB_size]
            have HST := Shh.mk (Gph.word_step (r := r') HNF.out hee (by have h2 := hnn.out; unfold sumT at h2; rw [HMF.out]; omega) (by have h2 := hnn.out; unfold sumT at h2; rw [HMF.out]; show M < _ + (gphD xs).cnt i2; rw [hC2]; omega))
            have HNW := Shh.mk (show S2.data.toList ++ (gphD xs).word r' i2 nn = (gphD xs).word 14 0 n0 from by
              rw [← hword.out, HST.out, hS3]
              have h2 := hnn.out
              have h3 : n - (gphD xs).fin j - sumOf (gphD xs).cnt (((gphD xs).E j).take m |>.map (·.2)) = nn := by rw [HMF.out]; unfold sumT at h2; omega
              rw [h3]
              unfold catB
              rw [txt_list]
              simp)
            have hok2 := Gph.okH_step.1 HOKR.out _ (List.mem_of_getElem? hee)
            have hn2 : nn < (gphD xs).cnt i2 := by rw [hC2]; omega
            have hlk : (m : Int) + 1 ≤ (ls.size : Int) := by omega
            have hwr : IntKind.i64.wrap ((m : Int) + 1) = (m : Int) + 1 := IntWalk.i64_in _ (by omega)
            have hlo : (0 : Int) ≤ (m : Int) + 1 := by omega
            have hup : (m : Int) ≤ (m : Int) + 1 := by omega
            have hnn' : ((m : Int) + 1).toNat = m + 1 := by omega
            have hmx : ¬ 9223372036854775807 < S.size + (min (m + 1) ls.size - m) := by omega
            have HSZ := Shh.mk hsz2
            have HN2 := Shh.mk hn2
            clear hcu hwp hz hz0 hz1 hee hsx hC2 hrc hnn hc' hS3 hsz2 hn2
            go_wp2
            go_roundw
            case rel => exact ⟨p, r', i2, nn, S2, rfl, rfl, rfl, HWP.out, hi2, by have := HSZ.out; omega, HN2.out, hok2, HNW⟩
            case measure => have := HSZ.out; simp [szOf]; omega
end Go.Proofs.YtokfkofclpajfaaDoor
