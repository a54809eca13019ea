/-
  How many strings come before a string, and the string with a number: the model's answers.
-/
import Derived.Test.YtokfkofclpajfaaDoorYF
namespace Go.Proofs.YtokfkofclpajfaaDoor
open Go.RowKit

def foundT (es : List (UInt8 × Nat)) (c : UInt8) (m : Nat) : Option Nat := ((es.take m).find? fun e => e.1 == c).map (·.2)
theorem foundT_snoc {es : List (UInt8 × Nat)} {c : UInt8} {m : Nat} {e : UInt8 × Nat} (hp : (es.map (·.1)).Pairwise (· < ·)) (h : es[m]? = some e) : foundT es c (m + 1) = if e.1 = c then some e.2 else foundT es c m := by
  unfold foundT
  rw [List.take_add_one, h]
  show ((es.take m ++ [e]).find? _).map _ = _
  rw [List.find?_append]
  by_cases hc : e.1 = c
  · rw [if_pos hc]
    have hn : (es.take m).find? (fun x => x.1 == c) = none := List.find?_eq_none.2 fun x hx => by
      obtain ⟨p, hpm⟩ := List.mem_iff_getElem?.1 hx
      have hpl := (List.getElem?_eq_some_iff.1 hpm).1
      rw [List.length_take] at hpl
      rw [List.getElem?_take_of_lt (by omega)] at hpm
      obtain ⟨q1, q2⟩ := List.getElem?_eq_some_iff.1 hpm
      obtain ⟨r1, r2⟩ := List.getElem?_eq_some_iff.1 h
      have := List.pairwise_iff_getElem.1 hp p m (by simpa using q1) (by simpa using r1) (by omega)
      simp only [List.getElem_map] at this
      rw [q2, r2, hc, UInt8.lt_iff_toNat_lt] at this
      intro e2
      have e3 := eq_of_beq e2
      rw [e3] at this
      omega
    rw [hn]
    simp [hc]
  · rw [if_neg hc]
    have hb : (e.1 == c) = false := beq_eq_false_iff_ne.2 hc
    simp [hb]
theorem foundT_all {G : Gph} {i : Nat} {c : UInt8} {n : Nat} (h : (G.E i).length = n) : foundT (G.E i) c n = G.step i c := by
  unfold foundT Gph.step
  rw [List.take_of_length_le (by omega)]
theorem befL_take_le (cnt : Nat → Nat) (c : UInt8) : ∀ (es : List (UInt8 × Nat)) (m : Nat), befL cnt c (es.take m) ≤ befL cnt c es
  | [], m => by simp [befL]
  | e :: es, 0 => by simp [befL]
  | e :: es, m + 1 => by
    rw [List.take_succ_cons]
    show _ + befL cnt c (es.take m) ≤ _ + befL cnt c es
    have := befL_take_le cnt c es m
    omega
theorem Shp.rise {xs : List Nod} (hs : Shp xs) {i : Nat} (hi : i < xs.length) : (((gphD xs).E i).map (·.1)).Pairwise (· < ·) := by
  have h := hs.L hi
  unfold Gph.L at h
  rw [h]
  exact (hs.node i hi).rise
theorem sumOf_takeE {cnt : Nat → Nat} {es : List (UInt8 × Nat)} {m : Nat} {e : UInt8 × Nat} (h : es[m]? = some e) : sumOf cnt ((es.take (m + 1)).map (·.2)) = sumOf cnt ((es.take m).map (·.2)) + cnt e.2 := by
  rw [List.take_add_one, h]
  show sumOf cnt ((es.take m ++ [e]).map (·.2)) = _
  rw [List.map_append, List.map_cons, List.map_nil, sumOf_snoc]

set_option maxRecDepth 100000 in
set_option maxHeartbeats 8000000 in
theorem l07Less_any {gd : Nat} {v : Value} {xs : List Nod} (W : World) (hd : Blk W gd 29 #[v]) (hx : Nds W v xs) (ho : DawgOk xs) (s : ByteArray) (hsz : s.size ≤ 1048576) :
    Calls Tryd.prog 92 #[.pointer (some ⟨gd, 0, none⟩), .string s] W fun e w' => e = .returned (.int .i64 ((gphD xs).rank 0 s.data.toList : Int)) ∧ Below W.heap.size W w' := by
  have HC := Shh.mk (l07Counts_any W hd hx ho)
  have HDB := Shh.mk hd
  have HX := Shh.mk hx
  have HS := Shh.mk ho.shp
  have hpos := ho.shp.pos
  have hlen := ho.shp.len
  have HSL := Shh.mk (list_size s)
  have HTOT := Shh.mk (show (gphD xs).rank 0 s.data.toList ≤ 3000 from by
    have h1 := Gph.rank_le (G := gphD xs) (s := s.data.toList) (i := 0) ho.short
    have h2 := ho.cnt_few ho.shp.pos
    omega)
  have HSM := Shh.mk (fun (i : Nat) (hi : i < xs.length) => ho.cnt_few hi)
  obtain ⟨na, nc, rfl, hn1, hn2, -⟩ := hx
  clear hd ho
  go_enter Tryd.func92, Tryd.ntmps92
  go_wp2_with (go_at_call 90; refine (HC.out).mono ?_; rintro e w2 ⟨g, cp, rfl, hrow, hb2⟩; have HR := Shh.mk hrow; have HB2 := Shh.mk hb2; have d0 := (HDB.out.kept hb2 HDB.out.lt).cells 0; have HD2 := Shh.mk d0; have HX2 := Shh.mk (HX.out.below hb2); clear hrow hb2 HC)
  clear d0
  obtain ⟨na2, nc2, he, -, -, hnn⟩ := HX2.out
  simp only [Value.slice.injEq] at he
  obtain ⟨rfl, -, rfl⟩ := he
  obtain ⟨bn, on, rfl, hbn, hcn⟩ := hnn hpos
  have HN := Shh.mk hcn
  clear hcn hnn
  go_loopw [6, 7, 8, 9, 10, 11] (fun t nd z _ _ _ wr => ∃ k q j acc : Nat, k ≤ s.size ∧ z = .int .i64 k ∧ nd = .int .i64 j ∧ t = .int .i64 acc ∧ wr = w2.drewN q ∧ j < xs.length ∧ Shh (acc + (gphD xs).rank j (s.data.toList.drop k) = (gphD xs).rank 0 s.data.toList)) (fun _ _ z _ _ _ _ => s.size - (intOf z).toNat)
  case atStart => exact ⟨0, 0, 0, 0, Nat.zero_le _, rfl, rfl, rfl, rfl, hpos, ⟨by rw [List.drop_zero]; omega⟩⟩
  case round =>
    obtain ⟨w3, hw3⟩ : ∃ w3 : World, w3 = wr := ⟨_, rfl⟩
    subst hw3
    obtain ⟨k, q, j, acc, hkl, rfl, rfl, rfl, hwq, hj, hacc⟩ := hrel
    have HWQ := Shh.mk hwq
    by_cases hk : k < s.size
    · have hki : (k : Int) < (s.size : Int) := by omega
      obtain ⟨n0, n1, u, n2, hu⟩ := HN.out j hj
      have hdr : s.data.toList.drop k = (s[k]'hk) :: s.data.toList.drop (k + 1) := by
        rw [List.drop_eq_getElem_cons (by rw [HSL.out]; exact hk)]
        rfl
      obtain ⟨c, hc⟩ : ∃ c : UInt8, s[k]'hk = c := ⟨_, rfl⟩
      obtain ⟨CI, hCI⟩ : ∃ CI : Int, ((s[k]'hk).toNat : Int) = CI := ⟨_, rfl⟩
      have HCI := Shh.mk (show CI = (c.toNat : Int) from by rw [← hCI, hc])
      rw [hc] at hdr
      have HACC := Shh.mk (show acc + ((gphD xs).bef j c + (match (gphD xs).step j c with | some p => (gphD xs).rank p (s.data.toList.drop (k + 1)) | none => 0)) = (gphD xs).rank 0 s.data.toList from by rw [← hacc.out, hdr]; rfl)
      have HBEF := Shh.mk (show acc + (gphD xs).bef j c ≤ 3000 from by have h1 := HACC.out; have h2 := HTOT.out; omega)
      have HRISE := Shh.mk (HS.out.rise hj)
      have HEL := Shh.mk (HS.out.E_len hj)
      have HEA := Shh.mk (fun m (hm : m < (nodG xs j).ns.length) => HS.out.E_at hj hm)
      have HNX := Shh.mk (fun m (hm : m < (nodG xs j).ns.length) => show 0 ≤ (nodG xs j).ns.getD m 0 ∧ (nodG xs j).ns.getD m 0 < xs.length by rw [List.getD_eq_getElem?_getD, List.getElem?_eq_getElem hm]; exact (HS.out.node j hj).next _ (List.getElem_mem hm))
      have HLEN := Shh.mk ((HS.out.node j hj).len)
      have HFIN := Shh.mk (show (gphD xs).fin j = if (nodG xs j).f = true then 1 else 0 from rfl)
      obtain ⟨x, hxx⟩ : ∃ x, nodG xs j = x := ⟨_, rfl⟩
      rw [hxx] at n0 n1 hu HEL HEA HNX HLEN HFIN
      obtain ⟨f, ls, ns⟩ := x
      simp only at n0 n1 n2 hu HEL HEA HNX HLEN HFIN
      have hul := hu.len
      obtain ⟨ua, uc, rfl, hu1, hu2, hu3, -⟩ := hu
      have HU := Shh.mk hu3
      have HND := Shh.mk (And.intro n1 n2)
      have hj0 : (0 : Int) ≤ (j : Int) := by omega
      have d0 : w3.cell? ⟨gd, 0, none⟩ = some (.slice (some ⟨bn, on, none⟩) xs.length nc) := by rw [hwq]; exact HD2.out
      have e0 : w3.cell? ⟨bn, on + j * 3, none⟩ = some (.bool f) := by rw [hwq]; exact n0
      clear hu3 hxx hdr hacc hc n0 n1 n2 hwq
      cases f
      case' false => obtain ⟨F0, hF0⟩ : ∃ F0 : Nat, F0 = 0 := ⟨_, rfl⟩
      case' true => obtain ⟨F0, hF0⟩ : ∃ F0 : Nat, F0 = 1 := ⟨_, rfl⟩
      all_goals
        have HF0 := Shh.mk (show (gphD xs).fin j = F0 from by rw [HFIN.out, hF0]; rfl)
        have hBEF0 := HBEF.out
        have hF1 : F0 ≤ 1 := by omega
        have hacc2 : acc + F0 ≤ 3000 := by have h1 := HF0.out; unfold Gph.bef at hBEF0; omega
        have HE0 := Shh.mk hF0
        clear hBEF0 hF0
        go_wp2
        go_loopw [6, 10, 11] (fun t nx z wr => ∃ (m p r : Nat) (o : Option Nat), m ≤ ns.length ∧ z = .int .i64 m ∧ t = .int .i64 r ∧ nx = .int .i64 (optI o) ∧ wr = w2.drewN p ∧ Shh (r = acc + F0 + befL (gphD xs).cnt c (((gphD xs).E j).take m)) ∧ Shh (o = foundT ((gphD xs).E j) c m)) (fun _ _ z _ => ns.length - (intOf z).toNat)
        case atStart => exact ⟨0, _, acc + F0, none, Nat.zero_le _, rfl, by first | rfl | (rw [HE0.out]; first | rfl | go_num), rfl, by first | exact HWQ.out | (rw [HWQ.out]; exact World.drewN_drewN _ _ _), ⟨by simp [befL]⟩, ⟨by simp [foundT]⟩⟩
        case round =>
          obtain ⟨m, p, r, o, hml, rfl, rfl, rfl, hwp, hr, hfo⟩ := hrel
          have HWP := Shh.mk hwp
          have n1 : wr.cell? ⟨bn, on + j * 3 + 1, none⟩ = some (.string ls) := by rw [hwp]; exact HND.out.1
          have n2 : wr.cell? ⟨bn, on + j * 3 + 2, none⟩ = some (.slice ua ns.length uc) := by rw [hwp]; exact HND.out.2
          clear d0 e0
          by_cases hm : m < ns.length
          · obtain ⟨bu, ou, rfl, hbu, hcu⟩ := HU.out (by omega)
            have cu : wr.cell? ⟨bu, ou + m, none⟩ = some (.int .i64 (ns.getD m 0)) := by rw [hwp]; exact hcu m hm
            have hlm : m < ls.size := by have := HLEN.out; omega
            have hmi : (m : Int) < (ls.size : Int) := by omega
            have he := HEA.out m hm
            rw [byte_eq hlm] at he
            obtain ⟨hz0, hz1⟩ := HNX.out m hm
            obtain ⟨z, hz⟩ : ∃ z, ns.getD m 0 = z := ⟨_, rfl⟩
            rw [hz] at cu hz0 hz1 he
            obtain ⟨i2, rfl⟩ : ∃ i2 : Nat, z = (i2 : Int) := ⟨z.toNat, by omega⟩
            rw [toNat_cast] at he
            have hi2 : i2 < xs.length := by omega
            have hrc := (rowI_at HR.out hi2).1
            have cr : wr.cell? ⟨g, i2, none⟩ = some (.int .i64 ((gphD xs).cnt i2 : Int)) := by rw [hwp]; exact hrc
            obtain ⟨B, hB⟩ : ∃ B : UInt8, ls[m]'hlm = B := ⟨_, rfl⟩
            obtain ⟨BI, hBI⟩ : ∃ BI : Int, ((ls[m]'hlm).toNat : Int) = BI := ⟨_, rfl⟩
            have hBB : BI = (B.toNat : Int) := by rw [← hBI, hB]
            rw [hB] at he
            have hbt := befL_take (cnt := (gphD xs).cnt) (c := c) he
            have hft := foundT_snoc (c := c) HRISE.out he
            simp only at hbt hft
            have hbl := befL_take_le (gphD xs).cnt c ((gphD xs).E j) (m + 1)
            have HB9 := HBEF.out
            unfold Gph.bef at HB9
            rw [HF0.out] at HB9
            obtain ⟨C2, hC2⟩ : ∃ C2, (gphD xs).cnt i2 = C2 := ⟨_, rfl⟩
            rw [hC2] at cr hbt
            have HCC := Shh.mk (And.intro n1 (And.intro n2 (And.intro cu cr)))
            have hi20 : (0 : Int) ≤ (i2 : Int) := by omega
            by_cases hlt : B < c
            · have hne : ¬ B = c := fun e => by rw [e, UInt8.lt_iff_toNat_lt] at hlt; omega
              rw [if_pos hlt] at hbt
              rw [if_neg hne] at hft
              have l1 : BI < CI := by rw [hBB, HCI.out]; rw [UInt8.lt_iff_toNat_lt] at hlt; omega
              have l2 : (BI == CI) = false := beq_eq_false_iff_ne.2 (by omega)
              have hsum : r + C2 ≤ 3000 := by have h1 := hr.out; omega
              have HNR := Shh.mk (show r + C2 = acc + F0 + befL (gphD xs).cnt c (((gphD xs).E j).take (m + 1)) from by rw [hbt, hr.out]; omega)
              have HNF := Shh.mk (show o = foundT ((gphD xs).E j) c (m + 1) from by rw [hft]; exact hfo.out)
              clear hcu hwp hz hz0 hz1 he hB hBB hbt hft hbl HB9 hC2 hrc hr hfo hlt hne
              go_wp2
              go_quiet (fail)
              go_wp2
              go_quiet (fail)
              go_wp2
              go_roundw
              case rel => exact ⟨m + 1, _, r + C2, o, by omega, by go_num, by go_num, rfl, by rw [HWP.out]; repeat' first | rfl | rw [World.drewN_drewN], HNR, HNF⟩
              case measure => simp [intOf]; omega
            · rw [if_neg hlt, Nat.add_zero] at hbt
              have l1 : ¬ BI < CI := by rw [hBB, HCI.out]; rw [UInt8.lt_iff_toNat_lt] at hlt; omega
              have HNR := Shh.mk (show r = acc + F0 + befL (gphD xs).cnt c (((gphD xs).E j).take (m + 1)) from by rw [hbt]; exact hr.out)
              by_cases heq : B = c
              · rw [if_pos heq] at hft
                have l2 : (BI == CI) = true := by rw [hBB, HCI.out, heq]; exact beq_self_eq_true _
                have HNF := Shh.mk (show some i2 = foundT ((gphD xs).E j) c (m + 1) from hft.symm)
                clear hcu hwp hz hz0 hz1 he hB hBB hbt hft hbl HB9 hC2 hrc hr hfo hlt heq
                go_wp2
                go_quiet (fail)
                go_wp2
                go_quiet (fail)
                go_wp2
                go_roundw
                case rel => exact ⟨m + 1, _, r, some i2, by omega, by go_num, rfl, by first | rfl | (rw [optI_some]), by rw [HWP.out]; repeat' first | rfl | rw [World.drewN_drewN], HNR, HNF⟩
                case measure => simp [intOf]; omega
              · rw [if_neg heq] at hft
                have l2 : (BI == CI) = false := beq_eq_false_iff_ne.2 fun e => heq (by rw [hBB, HCI.out] at e; exact u8_int.1 e)
                have HNF := Shh.mk (show o = foundT ((gphD xs).E j) c (m + 1) from by rw [hft]; exact hfo.out)
                clear hcu hwp hz hz0 hz1 he hB hBB hbt hft hbl HB9 hC2 hrc hr hfo hlt heq
                go_wp2
                go_quiet (fail)
                go_wp2
                go_quiet (fail)
                go_wp2
                go_roundw
                case rel => exact ⟨m + 1, _, r, o, by omega, by go_num, rfl, rfl, by rw [HWP.out]; repeat' first | rfl | rw [World.drewN_drewN], HNR, HNF⟩
                case measure => simp [intOf]; omega
          · obtain rfl : m = ns.length := by omega
            have hst := foundT_all (G := gphD xs) (i := j) (c := c) HEL.out
            have hrr : r = acc + (gphD xs).bef j c := by
              have h1 := hr.out
              rw [List.take_of_length_le (by rw [HEL.out]; exact Nat.le_refl _)] at h1
              unfold Gph.bef
              rw [HF0.out]
              omega
            have hos : o = (gphD xs).step j c := hfo.out.trans hst
            cases o with
            | none =>
              have HRES := Shh.mk (show r = (gphD xs).rank 0 s.data.toList from by rw [← HACC.out, hrr, ← hos]; rfl)
              rw [optI_none]
              clear hwp hst hrr hos hr hfo
              go_wp2
              go_ret
              exact ⟨by (rw [HRES.out]; try rfl), by rw [HWP.out]; exact below_drewN HB2.out _⟩
            | some i2 =>
              have hi2 : i2 < xs.length := HS.out.step_lt hj hos.symm
              have HRES := Shh.mk (show r + (gphD xs).rank i2 (s.data.toList.drop (k + 1)) = (gphD xs).rank 0 s.data.toList from by rw [← HACC.out, hrr, ← hos]; exact Nat.add_assoc _ _ _)
              have hneg : ¬ (i2 : Int) < 0 := by omega
              rw [optI_some]
              clear hwp hst hrr hos hr hfo
              go_wp2
              go_roundw
              case rel => exact ⟨k + 1, _, i2, r, by omega, by go_num, rfl, rfl, by rw [HWP.out]; repeat' first | rfl | rw [World.drewN_drewN], hi2, HRES⟩
              case measure => simp [intOf]; omega
    · obtain rfl : k = s.size := by omega
      have HRES := Shh.mk (show acc = (gphD xs).rank 0 s.data.toList from by
        have h1 := hacc.out
        rw [List.drop_of_length_le (by rw [HSL.out]; exact Nat.le_refl _)] at h1
        exact h1)
      clear hwq hacc
      go_wp2
      go_ret
      exact ⟨by (rw [HRES.out]; try rfl), by rw [HWQ.out]; exact below_drewN HB2.out _⟩
end Go.Proofs.YtokfkofclpajfaaDoor
