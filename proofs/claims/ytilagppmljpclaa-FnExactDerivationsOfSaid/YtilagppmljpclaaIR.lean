/-
  DerivationsOf, both sides, and the law's marks: XII to XIN in one.
-/
import Derived.Test.YtilagppmljpclaaIQ
import Derived.Test.YtilagppmljpclaaIP
import Derived.Test.YtilagppmljpclaaS1
namespace Go.Proofs.Ytilagppmljpclaa
open Go.RowKit

theorem ways_is {v : Value} {us : List ByteArray} {L : List (List ByteArray)} (h : waysU us = L) (w : World) (hu : Strs w v us) (hn : us.length ≤ 12) :
    Calls Try.prog 81 #[v] w fun e w' => ∃ a c vs, e = .returned (.slice a L.length c) ∧ Lists w.heap.size w' (.slice a L.length c) vs L ∧ vs.length = L.length ∧ Below w.heap.size w w' :=
  (l04Ways_any w hu (by omega)).mono fun e w' ⟨r, vs, h1, h2, h3⟩ => by
    rw [h] at h2
    obtain ⟨hl, a, c, rfl, -⟩ := lists_own h2
    rw [hl] at h1 h2
    exact ⟨a, c, vs, h1, h2, hl, h3⟩
theorem Ders.lower {B C : Nat} {w : World} {v : Value} {us : List Value} {ds : List Stm} (h : Ders B w v us ds) (hC : C ≤ B) : Ders C w v us ds :=
  ⟨⟨h.row.1, h.row.2.imp id fun ⟨g, cap, cur, e, hb, rest⟩ => ⟨g, cap, cur, e, Nat.le_trans hC hb, rest⟩⟩, h.kin.lower hC, h.off⟩
theorem lists_at {S n cap : Nat} {a : Option Addr} {w : World} {us : List Value} {L : List (List ByteArray)} (h : Lists S w (.slice a n cap) us L) (hp : 0 < us.length) : ∃ g, a = some ⟨g, 0, none⟩ ∧ S ≤ g ∧ g < w.heap.size := by
  obtain ⟨a', cap', hv, -, -, h3⟩ := own_form h.row
  injection hv with h1
  subst h1
  exact h3 hp
theorem rowG_memI {L : List (List ByteArray)} {j : Nat} (h : j < L.length) : rowG L j ∈ L := by
  unfold rowG
  rw [List.getD_eq_getElem?_getD, List.getElem?_eq_getElem h]
  exact List.getElem_mem _
theorem okG_is {g : Nat} {va vs : Value} {xs : List Aff} {ss : List Stm} {b : Bool} (h : okG xs ss = b) (W : World) (hg : GramAt W g va vs xs ss) (hx : ∀ x ∈ xs, AffFine x) (hs : ∀ x ∈ ss, StmFine x) :
    Calls Try.prog 67 #[.pointer (some ⟨g, 0, none⟩)] W fun e w' => e = .returned (.bool b) ∧ ∃ k, w' = W.drewN k := by rw [← h]; exact l04Ok_any W hg hx hs

set_option maxRecDepth 100000 in
set_option maxHeartbeats 4000000 in
theorem specDerivationsOf_any {va vs : Value} {xs : List Aff} {ss : List Stm} {word : ByteArray} (W : World) (hg : Gram W va vs xs ss) (hx : ∀ x ∈ xs, AffFine x) (hs : ∀ x ∈ ss, StmFine x) (hw : word.size ≤ maxLen) :
    Calls Try.prog 28 #[.agg #[va, vs], .string word] W fun e w' => ∃ r us, e = .returned (.tuple #[r, .int .i64 (derOut xs ss word).2]) ∧ Ders W.heap.size w' r us (derOut xs ss word).1 ∧ Below W.heap.size W w' := by
  have hB := (Below.refl W.heap.size W).alloc (Nat.le_refl _) (.cells #[va, vs] 48)
  have HG := Shh.mk (show GramAt (W.alloc (.cells #[va, vs] 48)) W.heap.size va vs xs ss from ⟨Blk.made W _ _, hg.alloc _⟩)
  obtain ⟨⟨aa, ac, rfl, -⟩, ⟨sa, sc, rfl, -⟩⟩ := hg
  obtain ⟨t, htt⟩ : ∃ t, okG xs ss = t := ⟨_, rfl⟩
  have HT := Shh.mk htt
  cases t
  · have HR := Shh.mk (derOut_bad (word := word) htt)
    clear htt
    go_enter Try.func28, Try.ntmps28
    go_wp2_with fail
    refine (okG_is HT.out _ HG.out hx hs).mono ?_
    rintro e w1 ⟨rfl, k, rfl⟩
    go_wp2
    go_ret2
    exact ⟨.slice none 0 0, [], by rw [HR.out]; rfl, by rw [HR.out]; exact Ders.void _ _, below_drewN hB _⟩
  · obtain ⟨t2, htt2⟩ : ∃ t, longB word = t := ⟨_, rfl⟩
    have HT2 := Shh.mk htt2
    cases t2
    · have HR := Shh.mk (derOut_no htt htt2)
      clear htt htt2
      go_enter Try.func28, Try.ntmps28
      go_wp2_with fail
      refine (okG_is HT.out _ HG.out hx hs).mono ?_
      rintro e w1 ⟨rfl, k, rfl⟩
      go_wp2_with fail
      refine (long_is HT2.out _ hw).mono ?_
      rintro e w2 ⟨rfl, rfl⟩
      go_wp2
      go_ret2
      exact ⟨.slice none 0 0, [], by rw [HR.out]; rfl, by rw [HR.out]; exact Ders.void _ _, below_drewN hB _⟩
    · have HR := Shh.mk (derOut_yes htt htt2)
      have HSL := Shh.mk (okG_small htt).2
      have HXA := Shh.mk (okG_add htt)
      have HOK := Shh.mk htt
      clear htt htt2
      go_enter Try.func28, Try.ntmps28
      go_wp2_with fail
      refine (okG_is HT.out _ HG.out hx hs).mono ?_
      rintro e w1 ⟨rfl, k, hw1⟩
      have G1 := Shh.mk (show GramAt w1 W.heap.size _ _ xs ss by rw [hw1]; exact HG.out.drewN k)
      have B1 := Shh.mk (show Below W.heap.size W w1 by rw [hw1]; exact below_drewN hB k)
      clear hw1 hB
      go_wp2_with fail
      refine (long_is HT2.out _ hw).mono ?_
      rintro e w2 ⟨rfl, rfl⟩
      have HB0 := Shh.mk ((Below.refl w1.heap.size w1).alloc (Nat.le_refl _) (.cells #[] 50))
      have H0 := Shh.mk (show Shh (Ders w1.heap.size (w1.alloc (.cells #[] 50)) (.slice (some ⟨w1.heap.size, 0, none⟩) 0 0) [] ((dersTo ss 0).filter (hitB xs word))) from ⟨Ders.lit0 w1 (Nat.le_refl _)⟩)
      have HSC : Shh (0 < ss.length → ∃ b off, sa = some ⟨b, off, none⟩ ∧ b < w1.heap.size ∧ ∀ j, j < ss.length → StmIs w1 b (off + j * 2) (stmG ss j)) := by
        obtain ⟨-, sa', sc', hsv, hs1, hs2, hs3⟩ := G1.out.gram
        injection hsv with e1 e2 e3
        subst e1
        exact ⟨hs3⟩
      have hc0 := (G1.out.belowI HB0.out).blk.cells
      go_wp2
      clear hc0
      go_loopw [6, 7] (fun o i wr => ∃ (k : Nat) (us : List Value), k ≤ ss.length ∧ i = .int .i64 k ∧ Shh (Ders w1.heap.size wr o us ((dersTo ss k).filter (hitB xs word))) ∧ Shh (Below w1.heap.size w1 wr)) (fun _ i _ => ss.length - (intOf i).toNat)
      case atStart => exact ⟨0, _, Nat.zero_le _, rfl, H0.out, HB0⟩
      case round =>
        clear H0 HB0
        obtain ⟨k, us, hk, rfl, ho, hB⟩ := hrel
        have hoF := own_formN ho.out.row
        obtain ⟨oa, oc, rfl, ho1, ho2, -⟩ := hoF
        have hgr := Shh.mk (G1.out.belowI hB.out)
        have c0 := hgr.out.blk.cells
        by_cases hlt : k < ss.length
        · obtain ⟨bs, os, rfl, hbs, hcc⟩ := HSC.out (by omega)
          have HK0 := Shh.mk (hcc k hlt).1
          obtain ⟨k0, u, k1, hu⟩ := (hcc k hlt).below hB.out hbs
          have HU := Shh.mk hu
          have HKD := Shh.mk (okG_stem HOK.out hlt)
          have HUS := Shh.mk (okG_uses HOK.out hlt)
          have HWL := Shh.mk (waysU_len HUS.out)
          have HDL := Shh.mk (dersTo_len HOK.out (i := k) (by omega))
          have HTO := Shh.mk (dersTo_snoc ss k)
          have HRW := Shh.mk (fun l (hl : l ∈ waysU (stmG ss k).uses) => waysU_row hl)
          have HSN := Shh.mk (fun j (hj : j < (waysU (stmG ss k).uses).length) => stemD_snoc ss hj)
          obtain ⟨ua, uc, rfl, -⟩ := hu
          obtain ⟨x, hxw⟩ : ∃ x, (stmG ss k).word = x := ⟨_, rfl⟩
          rw [hxw] at k0 HKD HSN HK0
          have HUA := Shh.mk (fun j (hj : j < (stmG ss k).uses.length) => strAt_mem hj)
          obtain ⟨L, hL⟩ : ∃ L, waysU (stmG ss k).uses = L := ⟨_, rfl⟩
          have HLL := Shh.mk hL
          rw [hL] at HWL HTO HRW HSN
          obtain ⟨U, hU⟩ : ∃ U, (stmG ss k).uses = U := ⟨_, rfl⟩
          rw [hU] at k1 HU HKD HUS HRW HLL
          clear hcc hL hU hxw HUA
          go_wp2_with fail
          refine (ways_is HLL.out _ HU.out HUS.out).mono ?_
          rintro e w3 ⟨ra, rc, ws, rfl, hls, hwl, hb3⟩
          have HM := Shh.mk (show Shh (Mid w1.heap.size wr.heap.size w3.heap.size w3 (.slice oa us.length oc) us ((dersTo ss k).filter (hitB xs word) ++ (stemD ss k 0).filter (hitB xs word)) ws 0) from ⟨by unfold stemD; rw [List.take_zero, List.map_nil, List.filter_nil, List.append_nil]; exact Mid.start ho.out hb3 hls.kin⟩)
          have HLS := Shh.mk hls
          have HB3 := Shh.mk (hB.out.trans (hb3.mono hB.out.size))
          have HT3 := Shh.mk (fun b hb => (hls.under b hb).2)
          have HAT := Shh.mk (fun hp => lists_at hls hp)
          have HSZ := Shh.mk hB.out.size
          obtain ⟨M, hM⟩ : ∃ M, (dersTo ss k).filter (hitB xs word) = M := ⟨_, rfl⟩
          have HML := Shh.mk (show M.length ≤ 6000 by rw [← hM]; have := List.length_filter_le (hitB xs word) (dersTo ss k); have h1 := HDL.out; have h2 := HSL.out; omega)
          rw [hM] at HM
          have HMM := Shh.mk hM
          have HWS := Shh.mk hwl
          clear hls hb3 hM hwl ho hB c0 hgr k0 k1
          go_wp2
          go_loopw [6, 9] (fun o i wr' => ∃ (j : Nat) (us : List Value), j ≤ L.length ∧ i = .int .i64 j ∧ Shh (Mid w1.heap.size wr.heap.size w3.heap.size wr' o us (M ++ (stemD ss k j).filter (hitB xs word)) ws j) ∧ Shh (Lists wr.heap.size wr' (.slice ra L.length rc) ws L) ∧ Shh (Below w1.heap.size w1 wr')) (fun _ i _ => L.length - (intOf i).toNat)
          case atStart => exact ⟨0, _, Nat.zero_le _, rfl, HM.out, HLS, HB3⟩
          case round =>
            clear HM HLS HB3
            obtain ⟨j, us2, hj, rfl, hm, hl, hB⟩ := hrel
            obtain ⟨pa, pc, rfl, hp1, hp2, -⟩ := own_formN hm.out.ders.row
            have hdl := hm.out.ders.len
            have hu9 : us2.length ≤ 10000 := by
              rw [List.length_append] at hdl
              have h1 := List.length_filter_le (hitB xs word) (stemD ss k j)
              have h2 := stemD_len ss k j
              have h3 := HML.out
              have h4 := HWL.out
              omega
            clear hdl
            have hgr := Shh.mk (G1.out.belowI hB.out)
            have c0 := hgr.out.blk.cells
            by_cases hjl : j < L.length
            · have hws := HWS.out
              have hL9 := HWL.out
              obtain ⟨g, rfl, -, -⟩ := HAT.out (by omega)
              have cu := hl.out.cell (k := j) (by omega)
              have ck : wr.cell? ⟨bs, os + k * 2, none⟩ = some (.string x) := (hB.out.cell (p := ⟨bs, os + k * 2, none⟩) hbs).trans HK0.out
              have how := hl.out.kin.own j (by omega)
              have HFR := Shh.mk (hm.out.free (by omega) hl.out.kin)
              have hlm := rowG_memI hjl
              have HSS := Shh.mk (HSN.out j hjl)
              obtain ⟨l, hll⟩ : ∃ l, rowG L j = l := ⟨_, rfl⟩
              rw [hll] at how hlm HSS
              obtain ⟨la, lc, huv, -, -, -⟩ := own_form how
              have HUV := Shh.mk huv
              rw [huv] at cu how HFR
              have HOW := Shh.mk how
              have HKN := Shh.mk (fun u (hu : u ∈ l) => show knowsTo xs u xs.length = true by
                obtain ⟨i, hi, rfl⟩ := (HRW.out l hlm).2 u hu
                exact HKD.out.2 i hi)
              obtain ⟨⟨r, c⟩, hr⟩ : ∃ p, wordX xs l x = p := ⟨_, rfl⟩
              have HRR := Shh.mk hr
              have hhit : hitB xs word ⟨x, l⟩ = (decide (c = 0) && (r.toList == word.toList)) := by unfold hitB; rw [hr]
              have HY := Shh.mk (fun (e : hitB xs word ⟨x, l⟩ = true) => show M ++ (stemD ss k (j + 1)).filter (hitB xs word) = (M ++ (stemD ss k j).filter (hitB xs word)) ++ [⟨x, l⟩] by
                rw [HSS.out, List.filter_append, ← List.append_assoc]; congr 1; exact List.filter_cons_of_pos e)
              have HN := Shh.mk (fun (e : hitB xs word ⟨x, l⟩ = false) => show M ++ (stemD ss k (j + 1)).filter (hitB xs word) = M ++ (stemD ss k j).filter (hitB xs word) by
                rw [HSS.out, List.filter_append, show [mkD x l].filter (hitB xs word) = [] from List.filter_cons_of_neg (by show ¬ hitB xs word ⟨x, l⟩ = true; rw [e]; exact fun e => by cases e), List.append_nil])
              have hjc : (j : Int) < (L.length : Int) := by omega
              have hj0 : (0 : Int) ≤ (j : Int) := by omega
              have hxs := HKD.out.1
              clear hll hr hlm huv how HSS
              by_cases hc : c = 0
              · subst hc
                cases hb : (r.toList == word.toList)
                · have HX := Shh.mk (HN.out (by rw [hhit, hb]; rfl))
                  clear HY HN hhit
                  go_wp2
                  go_quiet (first | (go_at_call 70; exact Calls.quiet_of (word_is HRR.out _ (hgr.out.drewN _) (HOW.out.strs.drewN _) hx HXA.out HKN.out (by omega))))
                  go_wp2
                  go_roundw
                  case rel => exact ⟨j + 1, _, by omega, by go_num, ⟨by rw [HX.out]; exact (hm.out.quiet (below_drewN (Below.refl _ _) _)).skip⟩, ⟨hl.out.quiet (below_drewN (Below.refl _ _) _)⟩, ⟨below_drewN hB.out _⟩⟩
                  case measure => simp [intOf]; omega
                · have HX := Shh.mk (HY.out (by rw [hhit, hb]; rfl))
                  have hbs2 := hB.out.size
                  have hsz := HSZ.out
                  have hkk := (fun m => (show (wr.drewN m).cell? ⟨bs, os + k * 2, none⟩ = some (.string x) from ck))
                  clear HY HN hhit
                  go_wp2
                  go_quiet (first | (go_at_call 70; exact Calls.quiet_of (word_is HRR.out _ (hgr.out.drewN _) (HOW.out.strs.drewN _) hx HXA.out HKN.out (by omega))))
                  go_wp2_with fail
                  go_region_law (first
                    | (refine step_append_derD (W0 := wr) (by rfl) _ _ (by rfl) _ _ us2 _ ⟨x, l⟩ (by rfl) (by rfl) (by simp [World.drew]) (by rfl) hm.out.ders (by repeat' first | exact Below.refl _ _ | apply below_drewN | apply Below.drew | apply below_alI) (by omega) (by omega) (HOW.out.lower (by omega)) HFR.out ?_; intro g5 c5 w5 ho5 hk5 hl5)
                    | (refine step_append_der (W0 := wr) (by rfl) _ _ (by rfl) _ _ us2 _ ⟨x, l⟩ (by rfl) (by rfl) (by simp) (by rfl) hm.out.ders (by repeat' first | exact Below.refl _ _ | apply below_drewN | apply Below.drew | apply below_alI) (by omega) (by omega) (HOW.out.lower (by omega)) HFR.out ?_; intro g5 c5 w5 ho5 hk5 hl5))
                  all_goals
                    rw [← HX.out, ← HUV.out] at ho5
                    have HB5 := Shh.mk (hm.out.below hB.out hk5 rfl)
                    have HL5 := Shh.mk (hm.out.lists hl.out HT3.out hk5)
                    have HM5 := Shh.mk (hm.out.put (k := j) (by omega) (d := ⟨x, l⟩) (by rw [HX.out] at ho5; exact ho5) hk5 hl5)
                    rw [← HX.out] at HM5
                    clear ho5 hk5 hl5
                    go_wp2
                    go_roundw
                    case rel => exact ⟨j + 1, _, by omega, by go_num, HM5, HL5, HB5⟩
                    case measure => simp [intOf]; omega
              · have HX := Shh.mk (HN.out (by rw [hhit, decide_eq_false hc]; rfl))
                have hcb : (c == 0) = false := by simpa using hc
                clear HY HN hhit
                go_wp2
                go_quiet (first | (go_at_call 70; exact Calls.quiet_of (word_is HRR.out _ (hgr.out.drewN _) (HOW.out.strs.drewN _) hx HXA.out HKN.out (by omega))))
                go_wp2
                go_roundw
                case rel => exact ⟨j + 1, _, by omega, by go_num, ⟨by rw [HX.out]; exact (hm.out.quiet (below_drewN (Below.refl _ _) _)).skip⟩, ⟨hl.out.quiet (below_drewN (Below.refl _ _) _)⟩, ⟨below_drewN hB.out _⟩⟩
                case measure => simp [intOf]; omega
            · obtain rfl : j = L.length := by omega
              have hs9 := HSL.out
              have HO9 := Shh.mk (show Shh (Ders w1.heap.size wr (.slice pa us2.length pc) us2 ((dersTo ss (k + 1)).filter (hitB xs word))) from ⟨by rw [HTO.out, List.filter_append, HMM.out]; exact hm.out.ders⟩)
              clear hm
              go_wp2
              go_roundw
              case rel => exact ⟨k + 1, _, by omega, by go_num, HO9.out, hB⟩
              case measure => simp [intOf]; omega
        · obtain rfl : k = ss.length := by omega
          go_wp2
          go_ret2
          exact ⟨.slice oa us.length oc, us, by rw [HR.out]; rfl, by rw [HR.out]; exact ho.out.lower B1.out.size, B1.out.trans (hB.out.mono B1.out.size)⟩
end Go.Proofs.Ytilagppmljpclaa

namespace Go.Proofs.Ytilagppmljpclaa
open Go.RowKit

theorem cho_is {v : Value} {us : List ByteArray} {L : List (List ByteArray)} (h : waysU us = L) (hr : Rise us) (w : World) (hu : Strs w v us) (hn : us.length ≤ 12) :
    Calls Try.prog 137 #[v] w fun e w' => ∃ a c vs, e = .returned (.slice a L.length c) ∧ Lists w.heap.size w' (.slice a L.length c) vs L ∧ vs.length = L.length ∧ Below w.heap.size w w' :=
  (choicesOf_any w hu (by omega)).mono fun e w' ⟨r, vs, h1, h2, h3⟩ => by
    rw [choA_ways hr, h] at h2
    obtain ⟨hl, a, c, rfl, -⟩ := lists_own h2
    rw [hl] at h1 h2
    exact ⟨a, c, vs, h1, h2, hl, h3⟩

set_option maxRecDepth 100000 in
set_option maxHeartbeats 4000000 in
theorem allDerivations_any {va vs : Value} {xs : List Aff} {ss : List Stm} (W : World) (hok : okG xs ss = true) (hg : Gram W va vs xs ss) :
    Calls Try.prog 83 #[.agg #[va, vs]] W fun e w' => ∃ r us, e = .returned r ∧ Ders W.heap.size w' r us (dersTo ss ss.length) ∧ Below W.heap.size W w' := by
  have HB0 := Shh.mk ((Below.refl W.heap.size W).alloc (Nat.le_refl _) (.cells #[va, vs] 48))
  have HP := Shh.mk (Blk.made W 48 #[va, vs])
  have hp0 := HP.out.cells
  have HOK := Shh.mk hok
  have HSL := Shh.mk (okG_small hok).2
  obtain ⟨⟨aa, ac, rfl, -⟩, ⟨sa, sc, rfl, hs1, hs2, hsc⟩⟩ := hg
  have HSC := Shh.mk hsc
  have H0 := Shh.mk (show Shh (Ders W.heap.size (W.alloc (.cells #[.slice aa xs.length ac, .slice sa ss.length sc] 48)) (.slice none 0 0) [] (dersTo ss 0)) from ⟨Ders.void _ _⟩)
  clear hsc hok
  go_enter Try.func83, Try.ntmps83
  go_wp2
  clear hp0
  go_loopw [3, 11] (fun o i wr => ∃ (k : Nat) (us : List Value), k ≤ ss.length ∧ i = .int .i64 k ∧ Shh (Ders W.heap.size wr o us (dersTo ss k)) ∧ Shh (Below W.heap.size W wr)) (fun _ i _ => ss.length - (intOf i).toNat)
  case atStart => exact ⟨0, _, Nat.zero_le _, rfl, H0.out, HB0⟩
  case round =>
    clear H0 HB0
    obtain ⟨k, us, hk, rfl, ho, hB⟩ := hrel
    obtain ⟨oa, oc, rfl, ho1, ho2, -⟩ := own_formN ho.out.row
    have hs9 := HSL.out
    by_cases hlt : k < ss.length
    · obtain ⟨bs, os, rfl, hbs, hcc⟩ := HSC.out (by omega)
      obtain ⟨k0, u, k1, hu⟩ := (hcc k hlt).below hB.out hbs
      have HU := Shh.mk hu
      have HUS := Shh.mk (okG_uses HOK.out hlt)
      have HRI := Shh.mk (okG_rise HOK.out hlt)
      have HWL := Shh.mk (waysU_len HUS.out)
      have HDL := Shh.mk (dersTo_len HOK.out (i := k) (by omega))
      have HTO := Shh.mk (dersTo_snoc ss k)
      have HSN := Shh.mk (fun j (hj : j < (waysU (stmG ss k).uses).length) => stemD_snoc ss hj)
      obtain ⟨ua, uc, rfl, -⟩ := hu
      obtain ⟨x, hxw⟩ : ∃ x, (stmG ss k).word = x := ⟨_, rfl⟩
      rw [hxw] at k0 HSN
      obtain ⟨L, hL⟩ : ∃ L, waysU (stmG ss k).uses = L := ⟨_, rfl⟩
      have HLL := Shh.mk hL
      rw [hL] at HWL HTO HSN
      obtain ⟨U, hU⟩ : ∃ U, (stmG ss k).uses = U := ⟨_, rfl⟩
      rw [hU] at k1 HU HUS HLL HRI
      have HBX := Shh.mk (Blk.made wr 111 #[.string x, .slice ua U.length uc])
      have HU2 := Shh.mk (HU.out.alloc (.cells #[.string x, .slice ua U.length uc] 111))
      have hbx := HBX.out.cells
      have HB2 := Shh.mk ((Below.refl wr.heap.size wr).alloc (Nat.le_refl _) (.cells #[.string x, .slice ua U.length uc] 111))
      clear hcc hL hU hxw
      go_wp2_with fail
      refine (cho_is HLL.out HRI.out _ HU2.out HUS.out).mono ?_
      rintro e w3 ⟨ra, rc, ws, rfl, hls0, hwl, hb3⟩
      have hb2 := HB2.out.size
      have HB3' := Shh.mk (HB2.out.trans (hb3.mono hb2))
      have hls := hls0.lower hb2
      have HM := Shh.mk (show Shh (Mid W.heap.size wr.heap.size w3.heap.size w3 (.slice oa us.length oc) us (dersTo ss k ++ stemD ss k 0) ws 0) from ⟨by unfold stemD; rw [List.take_zero, List.map_nil, List.append_nil]; exact Mid.start ho.out HB3'.out hls.kin⟩)
      have HLS := Shh.mk hls
      have HB3 := Shh.mk (hB.out.trans (HB3'.out.mono hB.out.size))
      have HT3 := Shh.mk (fun b hb => (hls.under b hb).2)
      have HAT := Shh.mk (fun hp => lists_at hls hp)
      have HBX3 := Shh.mk (HBX.out.kept hb3 HBX.out.lt)
      have HTX := Shh.mk HBX3.out.lt
      have HSZ := Shh.mk hB.out.size
      obtain ⟨M, hM⟩ : ∃ M, dersTo ss k = M := ⟨_, rfl⟩
      have HML := Shh.mk (show M.length ≤ 6000 by rw [← hM]; have h1 := HDL.out; omega)
      rw [hM] at HM HTO
      have HWS := Shh.mk hwl
      clear hls hls0 hb3 hM hwl ho hB k0 k1 hbx hb2
      go_wp2
      go_loopw [3, 19] (fun o i wr' => ∃ (j : Nat) (us : List Value), j ≤ L.length ∧ i = .int .i64 j ∧ Shh (Mid W.heap.size wr.heap.size w3.heap.size wr' o us (M ++ stemD ss k j) ws j) ∧ Shh (Lists wr.heap.size wr' (.slice ra L.length rc) ws L) ∧ Shh (Below W.heap.size W wr') ∧ Shh (Blk wr' wr.heap.size 111 #[.string x, .slice ua U.length uc])) (fun _ i _ => L.length - (intOf i).toNat)
      case atStart => exact ⟨0, _, Nat.zero_le _, rfl, HM.out, HLS, HB3, HBX3⟩
      case round =>
        clear HM HLS HB3 HBX3
        obtain ⟨j, us2, hj, rfl, hm, hl, hB, hbx⟩ := hrel
        obtain ⟨pa, pc, rfl, hp1, hp2, -⟩ := own_formN hm.out.ders.row
        have hdl := hm.out.ders.len
        have hu9 : us2.length ≤ 10000 := by
          rw [List.length_append] at hdl
          have h2 := stemD_len ss k j
          have h3 := HML.out
          have h4 := HWL.out
          omega
        clear hdl
        have c0 := hbx.out.cells
        have hL9 := HWL.out
        by_cases hjl : j < L.length
        · have hws := HWS.out
          obtain ⟨g, rfl, -, -⟩ := HAT.out (by omega)
          have cu := hl.out.cell (k := j) (by omega)
          have how := hl.out.kin.own j (by omega)
          have HFR := Shh.mk (hm.out.free (by omega) hl.out.kin)
          have HSS := Shh.mk (HSN.out j hjl)
          obtain ⟨l, hll⟩ : ∃ l, rowG L j = l := ⟨_, rfl⟩
          rw [hll] at how HSS
          obtain ⟨la, lc, huv, -, -, -⟩ := own_form how
          have HUV := Shh.mk huv
          rw [huv] at cu how HFR
          have HOW := Shh.mk how
          have HX := Shh.mk (show M ++ stemD ss k (j + 1) = (M ++ stemD ss k j) ++ [⟨x, l⟩] by rw [HSS.out, ← List.append_assoc]; rfl)
          have hjc : (j : Int) < (L.length : Int) := by omega
          have hj0 : (0 : Int) ≤ (j : Int) := by omega
          have hbs2 := hB.out.size
          have hsz := HSZ.out
          clear hll huv how HSS
          go_wp2_with (at_builtin; go_loud (refine wpList_append_der rfl _ _ rfl (.slice pa us2.length pc) _ us2 _ ⟨x, l⟩ rfl rfl (by first | rfl | simp) rfl hm.out.ders (by omega) (by omega) (HOW.out.lower (by omega)) HFR.out ?_; intro g5 c5 w5 ho5 hk5 hl5))
          rw [← HX.out, ← HUV.out] at ho5
          have HB5 := Shh.mk (hm.out.below hB.out hk5 rfl)
          have HL5 := Shh.mk (hm.out.lists hl.out HT3.out hk5)
          have HM5 := Shh.mk (hm.out.put (k := j) (by omega) (d := ⟨x, l⟩) (by rw [HX.out] at ho5; exact ho5) hk5 hl5)
          rw [← HX.out] at HM5
          have HBX5 := Shh.mk (hbx.out.apart hk5 (fun e => by have := hm.out.far _ e; have := HTX.out; omega))
          clear ho5 hk5 hl5
          go_wp2
          go_roundw
          case rel => exact ⟨j + 1, _, by omega, by go_num, HM5, HL5, HB5, HBX5⟩
          case measure => simp [intOf]; omega
        · obtain rfl : j = L.length := by omega
          have HO9 := Shh.mk (show Shh (Ders W.heap.size wr (.slice pa us2.length pc) us2 (dersTo ss (k + 1))) from ⟨by rw [HTO.out]; exact hm.out.ders⟩)
          clear hm
          go_wp2
          go_roundw
          case rel => exact ⟨k + 1, _, by omega, by go_num, HO9.out, hB⟩
          case measure => simp [intOf]; omega
    · obtain rfl : k = ss.length := by omega
      go_wp2
      go_ret
      exact ⟨_, us, rfl, ho.out, hB.out⟩
end Go.Proofs.Ytilagppmljpclaa

namespace Go.Proofs.Ytilagppmljpclaa
open Go.RowKit

theorem allD_is {va vs : Value} {xs : List Aff} {ss : List Stm} {DS : List Stm} (h : dersTo ss ss.length = DS) (W : World) (hok : okG xs ss = true) (hg : Gram W va vs xs ss) :
    Calls Try.prog 83 #[.agg #[va, vs]] W fun e w' => ∃ a c us, e = .returned (.slice a DS.length c) ∧ Ders W.heap.size w' (.slice a DS.length c) us DS ∧ us.length = DS.length ∧ Below W.heap.size W w' :=
  (allDerivations_any W hok hg).mono fun e w' ⟨r, vs, h1, h2, h3⟩ => by
    rw [h] at h2
    have hl := h2.len
    obtain ⟨a, c, rfl, -⟩ := own_formN h2.row
    rw [hl] at h1 h2
    exact ⟨a, c, vs, h1, h2, hl, h3⟩
theorem longI_is {s : ByteArray} {b : Bool} (h : longB s = b) (w : World) (hs : s.size ≤ maxLen) : Calls Try.prog 82 #[.string s] w fun e w' => e = .returned (.bool b) ∧ Below w.heap.size w w' := by rw [← h]; exact isLongWord_any s w hs
theorem derV_is {b n : Nat} {D : DataW Value} {v : Value} {xs : List Aff} {us : List ByteArray} {stem r : ByteArray} {c : Int} (hr : wordX xs us stem = (r, c)) (w : World) (hst : Steps w b n D xs xs.length) (hu : Strs w v us) (hx : Shortish xs) (hnm : Names xs)
    (hi : ∀ u ∈ us, knowsTo xs u xs.length = true) (hul : us.length ≤ 2) (hw : stem.size ≤ 1000) :
    Calls Try.prog 76 #[.map (some b), .agg #[.string stem, v]] w fun e w' => e = .returned (.tuple #[.string r, .int .i64 c]) ∧ Below w.heap.size w w' := by
  have := derive_any w hst hu hx hnm hi hul hw
  rw [hr] at this
  exact this
theorem dersTo_fact {xs : List Aff} {ss : List Stm} (h : okG xs ss = true) : ∀ d ∈ dersTo ss ss.length, (∀ u ∈ d.uses, knowsTo xs u xs.length = true) ∧ d.uses.length ≤ 2 ∧ d.word.size ≤ 1000 := by
  intro d hd
  unfold dersTo stemD at hd
  simp only [List.mem_flatMap, List.mem_range, List.mem_map] at hd
  obtain ⟨i, hi, l, hl, rfl⟩ := hd
  have hl' := waysU_row (List.mem_of_mem_take hl)
  have hs := okG_stem h hi
  refine ⟨fun u hu => ?_, hl'.1, by have := hs.1; show (stmG ss i).word.size ≤ 1000; omega⟩
  obtain ⟨j, hj, rfl⟩ := hl'.2 u hu
  exact hs.2 j hj
theorem stmG_memK {ds : List Stm} {j : Nat} (h : j < ds.length) : stmG ds j ∈ ds := by
  unfold stmG
  rw [List.getD_eq_getElem?_getD, List.getElem?_eq_getElem h]
  exact List.getElem_mem _
theorem rowG_map {ds : List Stm} {j : Nat} (h : j < ds.length) : rowG (ds.map Stm.uses) j = (stmG ds j).uses := by
  unfold rowG stmG
  rw [List.getD_eq_getElem?_getD, List.getD_eq_getElem?_getD, List.getElem?_map, List.getElem?_eq_getElem h]
  rfl
theorem take_stm {ds : List Stm} {j : Nat} (h : j < ds.length) : ds.take (j + 1) = ds.take j ++ [stmG ds j] := by
  rw [List.take_succ_eq_append_getElem h]
  unfold stmG
  rw [List.getD_eq_getElem?_getD, List.getElem?_eq_getElem h]
  rfl
/-- The rows that are read lie as they did behind an append. -/
theorem Mid.source {B S T k : Nat} {w w' : World} {v r : Value} {us vs : List Value} {ds DS : List Stm} (h : Mid B S T w v us ds vs k) (hL : Ders S w r vs DS) (hr : ∀ b, r.ownBlock = some b → b < T) (hap : Apart (fun b => v.ownBlock = some b) w w') : Ders S w' r vs DS :=
  hL.apart hap (fun b hb e => by have := (hL.under b hb).1; have := hr b hb; have := h.far b e; omega) fun j hj b hb e => by have := h.near j hj b hb; have := h.far b e; omega
theorem Mid.startD {ws w : World} {vs : List Value} {DS : List Stm} (hL : Kin ws.heap.size w vs (DS.map Stm.uses)) : Mid ws.heap.size ws.heap.size w.heap.size w (.slice none 0 0) [] [] vs 0 :=
  ⟨Ders.void _ _, fun b hb => by simp [Value.ownBlock] at hb, fun _ hj b hb => hL.under hj b hb, fun j hj => absurd hj (by simp), Nat.le_refl _⟩
theorem ders_at {S n cap : Nat} {a : Option Addr} {w : World} {us : List Value} {L : List Stm} (h : Ders S w (.slice a n cap) us L) (hp : 0 < us.length) : ∃ g, a = some ⟨g, 0, none⟩ ∧ S ≤ g ∧ g < w.heap.size := by
  obtain ⟨a', cap', hv, -, -, h3⟩ := own_formN h.row
  injection hv with h1
  subst h1
  exact h3 hp

set_option maxRecDepth 100000 in
set_option maxHeartbeats 4000000 in
theorem implDerivationsOf_any {va vs : Value} {xs : List Aff} {ss : List Stm} {word : ByteArray} (W : World) (hg : Gram W va vs xs ss) (hx : ∀ x ∈ xs, AffFine x) (hs : ∀ x ∈ ss, StmFine x) (hw : word.size ≤ maxLen) :
    Calls Try.prog 29 #[.agg #[va, vs], .string word] W fun e w' => ∃ r us, e = .returned (.tuple #[r, .int .i64 (derOut xs ss word).2]) ∧ Ders W.heap.size w' r us (derOut xs ss word).1 ∧ Below W.heap.size W w' := by
  have HB := Shh.mk ((Below.refl W.heap.size W).alloc (Nat.le_refl _) (.cells #[va, vs] 48))
  have HP := Shh.mk (Blk.made W 48 #[va, vs])
  have HG := Shh.mk (hg.alloc (.cells #[va, vs] 48))
  have hp0 := HP.out.cells
  obtain ⟨⟨aa, ac, rfl, -⟩, ⟨sa, sc, rfl, -⟩⟩ := hg
  obtain ⟨t, htt⟩ : ∃ t, okG xs ss = t := ⟨_, rfl⟩
  have HT := Shh.mk htt
  cases t
  · have HR := Shh.mk (derOut_bad (word := word) htt)
    clear htt
    go_enter Try.func29, Try.ntmps29
    go_wp2_with fail
    refine (validG_is HT.out _ HG.out hx hs).mono ?_
    rintro e w1 ⟨rfl, hb1⟩
    go_wp2
    go_ret2
    exact ⟨.slice none 0 0, [], by rw [HR.out]; rfl, by rw [HR.out]; exact Ders.void _ _, HB.out.trans (hb1.mono HB.out.size)⟩
  · obtain ⟨t2, htt2⟩ : ∃ t, longB word = t := ⟨_, rfl⟩
    have HT2 := Shh.mk htt2
    cases t2
    · have HR := Shh.mk (derOut_no htt htt2)
      clear htt htt2
      go_enter Try.func29, Try.ntmps29
      go_wp2_with fail
      refine (validG_is HT.out _ HG.out hx hs).mono ?_
      rintro e w1 ⟨rfl, hb1⟩
      have HB1 := Shh.mk (HB.out.trans (hb1.mono HB.out.size))
      clear hb1
      go_wp2_with fail
      refine (longI_is HT2.out _ hw).mono ?_
      rintro e w2 ⟨rfl, hb2⟩
      go_wp2
      go_ret2
      exact ⟨.slice none 0 0, [], by rw [HR.out]; rfl, by rw [HR.out]; exact Ders.void _ _, HB1.out.trans (hb2.mono HB1.out.size)⟩
    · have HR := Shh.mk (derOut_yes htt htt2)
      have HOK := Shh.mk htt
      have HNM := Shh.mk (names_of htt)
      have HF := Shh.mk (dersTo_fact htt)
      have HDL := Shh.mk (show (dersTo ss ss.length).length ≤ 6000 by have := dersTo_len htt (Nat.le_refl ss.length); have := (okG_small htt).2; omega)
      clear htt htt2
      go_enter Try.func29, Try.ntmps29
      go_wp2_with fail
      refine (validG_is HT.out _ HG.out hx hs).mono ?_
      rintro e w1 ⟨rfl, hb1⟩
      have HB1 := Shh.mk (HB.out.trans (hb1.mono HB.out.size))
      have HP1 := Shh.mk (HP.out.kept hb1 HP.out.lt)
      have HG1 := Shh.mk (HG.out.below hb1)
      clear hb1 hp0
      go_wp2_with fail
      refine (longI_is HT2.out _ hw).mono ?_
      rintro e w2 ⟨rfl, hb2⟩
      have HB2 := Shh.mk (HB1.out.trans (hb2.mono HB1.out.size))
      have HP2 := Shh.mk (HP1.out.kept hb2 HP1.out.lt)
      have HG2 := Shh.mk (HG1.out.below hb2)
      have hp2 := HP2.out.cells
      clear hb2
      go_wp2_with fail
      refine (steps_on w2 _ (Below.refl _ _) HG2.out HNM.out.1 HNM.out.2.2).mono ?_
      rintro e w3 ⟨bm, nm, D, rfl, hst3, hb3⟩
      have HB3 := Shh.mk (HB2.out.trans (hb3.mono HB2.out.size))
      have HP3 := Shh.mk (HP2.out.kept hb3 HP2.out.lt)
      have HG3 := Shh.mk (HG2.out.below hb3)
      have HST := Shh.mk hst3
      have hp3 := HP3.out.cells
      obtain ⟨DS, hDS⟩ : ∃ DS, dersTo ss ss.length = DS := ⟨_, rfl⟩
      have HDS := Shh.mk hDS
      rw [hDS] at HR HF HDL
      clear hb3 hp2 hst3 hDS
      go_wp2_with fail
      refine (allD_is HDS.out _ HOK.out HG3.out).mono ?_
      rintro e w4 ⟨ra, rc, ws, rfl, hds, hwl, hb4⟩
      have HM := Shh.mk (show Shh (Mid w3.heap.size w3.heap.size w4.heap.size w4 (.slice none 0 0) [] ((DS.take 0).filter (hitB xs word)) ws 0) from ⟨Mid.startD hds.kin⟩)
      have HT4 := Shh.mk (fun b hb => (hds.under b hb).2)
      have HAT := Shh.mk (fun hp => ders_at hds hp)
      have HD4 := Shh.mk hds
      have HB4 := Shh.mk hb4
      have HWS := Shh.mk hwl
      clear hds hb4 hwl hp3
      go_wp2
      go_loopw [7, 23] (fun o i wr => ∃ (j : Nat) (us : List Value), j ≤ DS.length ∧ i = .int .i64 j ∧ Shh (Mid w3.heap.size w3.heap.size w4.heap.size wr o us ((DS.take j).filter (hitB xs word)) ws j) ∧ Shh (Ders w3.heap.size wr (.slice ra DS.length rc) ws DS) ∧ Shh (Below w3.heap.size w3 wr)) (fun _ i _ => DS.length - (intOf i).toNat)
      case atStart => exact ⟨0, _, Nat.zero_le _, rfl, HM.out, HD4, HB4⟩
      case round =>
        clear HM HD4 HB4
        obtain ⟨j, us, hj, rfl, hm, hd, hB⟩ := hrel
        obtain ⟨pa, pc, rfl, hp1, hp2, -⟩ := own_formN hm.out.ders.row
        have hD9 := HDL.out
        have hu9 : us.length ≤ 6000 := by
          have hdl := hm.out.ders.len
          have h1 := List.length_filter_le (hitB xs word) (DS.take j)
          rw [List.length_take] at h1
          omega
        by_cases hjl : j < DS.length
        · have hws := HWS.out
          obtain ⟨g, rfl, -, -⟩ := HAT.out (by omega)
          obtain ⟨c0, c1⟩ := hd.out.cell (k := j) (by omega)
          have how := hd.out.kin.own j (by omega)
          rw [rowG_map hjl] at how
          have HFR := Shh.mk (hm.out.free (by omega) hd.out.kin)
          have HFJ := Shh.mk (HF.out _ (stmG_memK hjl))
          have hTK := take_stm hjl
          obtain ⟨d, hdd⟩ : ∃ d, stmG DS j = d := ⟨_, rfl⟩
          rw [hdd] at how c0 HFJ hTK
          obtain ⟨x, l⟩ := d
          obtain ⟨la, lc, huv, -, -, -⟩ := own_form how
          have HUV := Shh.mk huv
          rw [huv] at c1 how HFR
          have HOW := Shh.mk how
          obtain ⟨⟨r, c⟩, hr⟩ : ∃ p, wordX xs l x = p := ⟨_, rfl⟩
          have HRR := Shh.mk hr
          have hhit : hitB xs word ⟨x, l⟩ = (decide (c = 0) && (r.toList == word.toList)) := by unfold hitB; rw [hr]
          have HY := Shh.mk (fun (e : hitB xs word ⟨x, l⟩ = true) => show (DS.take (j + 1)).filter (hitB xs word) = (DS.take j).filter (hitB xs word) ++ [⟨x, l⟩] by
            rw [hTK, List.filter_append]; congr 1; exact List.filter_cons_of_pos e)
          have HN := Shh.mk (fun (e : hitB xs word ⟨x, l⟩ = false) => show (DS.take (j + 1)).filter (hitB xs word) = (DS.take j).filter (hitB xs word) by
            rw [hTK, List.filter_append, show [(⟨x, l⟩ : Stm)].filter (hitB xs word) = [] from List.filter_cons_of_neg (by rw [e]; exact fun e => by cases e), List.append_nil])
          have hjc : (j : Int) < (DS.length : Int) := by omega
          have hj0 : (0 : Int) ≤ (j : Int) := by omega
          have hBs := hB.out.size
          have HBK := Shh.mk (Blk.made wr 50 #[.string x, .slice la l.length lc])
          have HB5 := Shh.mk ((Below.refl wr.heap.size wr).alloc (Nat.le_refl _) (.cells #[.string x, .slice la l.length lc] 50))
          have HOW5 := Shh.mk (HOW.out.strs.alloc (.cells #[.string x, .slice la l.length lc] 50))
          have HST5 := Shh.mk (HST.out.below (hB.out.alloc hBs (.cells #[.string x, .slice la l.length lc] 50)))
          have hbk := HBK.out.cells
          clear hdd hr huv how hTK
          simp only at c0
          go_wp2_with fail
          refine (derV_is HRR.out _ HST5.out HOW5.out HNM.out.2.1 HNM.out.1 HFJ.out.1 HFJ.out.2.1 HFJ.out.2.2).mono ?_
          rintro e w6 ⟨rfl, hb6⟩
          have HB6 := Shh.mk (HB5.out.trans (hb6.mono HB5.out.size))
          have HBK6 := Shh.mk (HBK.out.kept hb6 HBK.out.lt)
          have HM6 := Shh.mk (hm.out.quiet HB6.out)
          have HD6 := Shh.mk (hd.out.quiet HB6.out)
          have HOW6 := Shh.mk (OwnS.kept HOW.out HB6.out)
          have HBB6 := Shh.mk (hB.out.trans (HB6.out.mono hBs))
          clear hbk hb6 hm hd c0 c1
          by_cases hc : c = 0
          · subst hc
            cases hb : (r.toList == word.toList)
            · have HX := Shh.mk (HN.out (by rw [hhit, hb]; rfl))
              clear HY HN hhit
              go_wp2
              go_roundw
              case rel => exact ⟨j + 1, _, by omega, by go_num, ⟨by rw [HX.out]; exact HM6.out.skip⟩, HD6, HBB6⟩
              case measure => simp [intOf]; omega
            · have HX := Shh.mk (HY.out (by rw [hhit, hb]; rfl))
              have hbk6 := HBK6.out.cells
              have hs6 := HBB6.out.size
              clear HY HN hhit
              go_wp2_with (at_builtin; go_loud (refine wpList_append_der rfl _ _ rfl (.slice pa us.length pc) _ us _ ⟨x, l⟩ rfl rfl (by first | rfl | simp) rfl HM6.out.ders (by omega) (by omega) HOW6.out HFR.out ?_; intro g5 c5 w5 ho5 hk5 hl5))
              rw [← HUV.out] at ho5
              have HB7 := Shh.mk (HM6.out.below HBB6.out hk5 rfl)
              have HD7 := Shh.mk (HM6.out.source HD6.out HT4.out hk5)
              have HM7 := Shh.mk (HM6.out.put (k := j) (by omega) (d := ⟨x, l⟩) ho5 hk5 hl5)
              rw [← HX.out] at HM7
              clear ho5 hk5 hl5 hbk6
              go_wp2
              go_roundw
              case rel => exact ⟨j + 1, _, by omega, by go_num, HM7, HD7, HB7⟩
              case measure => simp [intOf]; omega
          · have HX := Shh.mk (HN.out (by rw [hhit, decide_eq_false hc]; rfl))
            have hcb : (c == 0) = false := by simpa using hc
            clear HY HN hhit
            go_wp2
            go_roundw
            case rel => exact ⟨j + 1, _, by omega, by go_num, ⟨by rw [HX.out]; exact HM6.out.skip⟩, HD6, HBB6⟩
            case measure => simp [intOf]; omega
        · obtain rfl : j = DS.length := by omega
          have HO9 := Shh.mk (show Shh (Ders w3.heap.size wr (.slice pa us.length pc) us (DS.filter (hitB xs word))) from ⟨by have := hm.out.ders; rw [List.take_length] at this; exact this⟩)
          clear hm
          go_wp2
          go_ret2
          exact ⟨.slice pa us.length pc, us, by rw [HR.out]; rfl, by rw [HR.out]; exact HO9.out.out.lower HB3.out.size, HB3.out.trans (hB.out.mono HB3.out.size)⟩
end Go.Proofs.Ytilagppmljpclaa

namespace Go.Proofs.Ytilagppmljpclaa
open Go.RowKit

set_option maxRecDepth 100000 in
set_option maxHeartbeats 2000000 in
theorem eqDerS_same {va vb : Value} {ss : List Stm} (w : World) (ha : Stms w va ss) (hb : Stms w vb ss) :
    Calls Try.prog 30 #[va, vb] w fun e w' => e = .returned (.bool true) ∧ Below w.heap.size w w' := by
  have hal := ha.len
  obtain ⟨a, capa, rfl, hla, hma, hca⟩ := ha
  obtain ⟨b, capb, rfl, hlb, hmb, hcb⟩ := hb
  have HCA := Shh.mk hca
  have HCB := Shh.mk hcb
  clear hca hcb
  go_enter Try.func30, Try.ntmps30
  go_wp2
  go_loopw [5] (fun i w' => ∃ k : Nat, k ≤ ss.length ∧ i = .int .i64 k ∧ Below w.heap.size w w') (fun i _ => ss.length - (intOf i).toNat)
  case atStart => exact ⟨0, Nat.zero_le _, rfl, Below.refl _ _⟩
  case round =>
    obtain ⟨k, hk, rfl, hB⟩ := hrel
    by_cases hlt : k < ss.length
    · obtain ⟨ba, oa, rfl, hba, hca'⟩ := HCA.out (by omega)
      obtain ⟨bb, ob, rfl, hbb, hcb'⟩ := HCB.out (by omega)
      have hA := StmIs.below (hca' k hlt) hB hba
      have hC := StmIs.below (hcb' k hlt) hB hbb
      obtain ⟨x, hx⟩ : ∃ x, stmG ss k = x := ⟨_, rfl⟩
      rw [hx] at hA hC
      obtain ⟨n, us⟩ := x
      obtain ⟨k0, u, k1, hu⟩ := hA
      obtain ⟨l0, v, l1, hv⟩ := hC
      simp only at k0 k1 l0 l1 hu hv
      have HU := Shh.mk hu
      have HV := Shh.mk hv
      obtain ⟨ua, uc, rfl, -⟩ := hu
      obtain ⟨va, vc, rfl, -⟩ := hv
      clear hca' hcb' hx
      go_wp2
      go_region_with (go_at_call 27; refine (eqDer_same n us _ (HU.out.drewN 1) (HV.out.drewN 1)).mono ?_; rintro e w2 ⟨rfl, hb2⟩; have hB2 := Below.trans (Below.drew hB) (Below.mono hb2 hB.size))
      all_goals
        go_wp2
        go_roundw
        case rel => exact ⟨k + 1, by omega, by go_num, by first | exact hB2 | exact hB2.drew⟩
        case measure => simp [intOf]; omega
    · go_wp2
      go_ret
      exact ⟨rfl, hB⟩

/-! ### Marks -/
def dW (ds : List Stm) (j : Nat) : Nat := sumTo (fun i => 1 + (stmG ds i).uses.length) j
def markAt (k : Nat) (ds : List Stm) (j : Nat) : Stm := ⟨markB (k + dW ds j), marks (k + dW ds j + 1) (stmG ds j).uses.length⟩
/-- A list of derivations behind j rounds of marking. -/
def mTo (k : Nat) (ds : List Stm) (j : Nat) : List Stm := (List.range ds.length).map (fun i => if i < j then markAt k ds i else stmG ds i)
theorem dW_succ (ds : List Stm) (j : Nat) : dW ds (j + 1) = dW ds j + (1 + (stmG ds j).uses.length) := rfl
theorem dW_mono (ds : List Stm) : ∀ {i j : Nat}, i ≤ j → dW ds i ≤ dW ds j
  | i, 0, h => by obtain rfl : i = 0 := by omega
                  exact Nat.le_refl _
  | i, j + 1, h => by
    by_cases hx : i = j + 1
    · subst hx; exact Nat.le_refl _
    · have := dW_mono ds (i := i) (j := j) (by omega)
      rw [dW_succ]; omega
theorem mTo_len (k : Nat) (ds : List Stm) (j : Nat) : (mTo k ds j).length = ds.length := by simp [mTo]
theorem mTo_at (k : Nat) (ds : List Stm) (j : Nat) {i : Nat} (h : i < ds.length) : stmG (mTo k ds j) i = if i < j then markAt k ds i else stmG ds i := by
  unfold mTo
  rw [show stmG (List.map (fun i => if i < j then markAt k ds i else stmG ds i) (List.range ds.length)) i = ((List.map (fun i => if i < j then markAt k ds i else stmG ds i) (List.range ds.length))[i]?).getD stm0 from rfl, List.getElem?_map, List.getElem?_range h]
  rfl
theorem stm_ext {a b : List Stm} (hl : a.length = b.length) (h : ∀ i, i < a.length → stmG a i = stmG b i) : a = b := by
  refine List.ext_getElem hl fun i h1 h2 => ?_
  have := h i h1
  unfold stmG at this
  simpa [List.getD_eq_getElem?_getD, List.getElem?_eq_getElem h1, List.getElem?_eq_getElem h2] using this
theorem mTo_zero (k : Nat) (ds : List Stm) : mTo k ds 0 = ds := stm_ext (mTo_len _ _ _) fun i hi => by
  rw [mTo_at _ _ _ (by rwa [mTo_len] at hi), if_neg (by omega)]
theorem stmG_set (ds : List Stm) (d : Stm) {i j : Nat} (h : i < ds.length) : stmG (ds.set j d) i = if j = i then d else stmG ds i := by
  unfold stmG
  rw [List.getD_eq_getElem?_getD, List.getD_eq_getElem?_getD, List.getElem?_set]
  split
  · next e => subst e; rw [if_pos h]; rfl
  · rfl
theorem mTo_succ (k : Nat) (ds : List Stm) {j : Nat} (x : Stm) : ((mTo k ds j).set j x).set j (markAt k ds j) = mTo k ds (j + 1) := by
  rw [List.set_set]
  refine stm_ext (by rw [List.length_set, mTo_len, mTo_len]) fun i hi => ?_
  rw [List.length_set, mTo_len] at hi
  rw [stmG_set _ _ (by rw [mTo_len]; exact hi), mTo_at _ _ _ hi, mTo_at _ _ _ hi]
  by_cases hx : j = i
  · subst hx; rw [if_pos rfl, if_pos (by omega)]
  · rw [if_neg hx]
    by_cases hy : i < j
    · rw [if_pos hy, if_pos (by omega)]
    · rw [if_neg hy, if_neg (by omega)]
theorem flatMap_set {α : Type} {f g : Nat → List α} (hf : ∀ j, (f j).length = 2) {j : Nat} {y : α} : ∀ {n : Nat}, j < n → (∀ i, i < n → i ≠ j → g i = f i) → g j = (f j).set 0 y → (List.range n).flatMap g = ((List.range n).flatMap f).set (j * 2) y := by
  have hl : ∀ n, ((List.range n).flatMap f).length = n * 2 := by
    intro n
    induction n with
    | zero => rfl
    | succ n ih => rw [List.range_succ, List.flatMap_append, List.length_append, ih]; simp [hf]; omega
  intro n
  induction n with
  | zero => intro h; omega
  | succ n ih =>
    intro h h1 h2
    rw [List.range_succ, List.flatMap_append, List.flatMap_append]
    by_cases hx : j < n
    · rw [List.set_append_left _ _ (by rw [hl]; omega), ← ih hx (fun i hi hne => h1 i (by omega) hne) h2]
      simp [h1 n (by omega) (by omega)]
    · obtain rfl : j = n := by omega
      rw [List.set_append_right _ _ (by rw [hl]; omega), hl, Nat.sub_self, flatMap_same (fun i hi => h1 i (by omega) (by omega))]
      simp [h2]
theorem map_uses_same {a b : List Stm} (hl : a.length = b.length) (h : ∀ i, i < a.length → (stmG a i).uses = (stmG b i).uses) : a.map Stm.uses = b.map Stm.uses := by
  refine List.ext_getElem (by simpa using hl) fun i h1 h2 => ?_
  rw [List.length_map] at h1 h2
  have := h i h1
  unfold stmG at this
  simpa [List.getD_eq_getElem?_getD, List.getElem?_eq_getElem h1, List.getElem?_eq_getElem h2] using this
/-- A word is stored into one derivation. -/
theorem Ders.word {B g n cap j : Nat} {w : World} {us : List Value} {ds : List Stm} (h : Ders B w (.slice (some ⟨g, 0, none⟩) n cap) us ds) (hj : j < ds.length) (x : ByteArray) :
    Ders B (w.setCell ⟨g, j * 2, none⟩ (.string x)) (.slice (some ⟨g, 0, none⟩) n cap) us (ds.set j ⟨x, (stmG ds j).uses⟩) := by
  have hl := h.len
  have hn : n = us.length := by
    obtain ⟨a, c, e, -⟩ := own_formN h.row
    injection e
  subst hn
  have hap : Apart (fun b => b = g) w (w.setCell ⟨g, j * 2, none⟩ (.string x)) := (Apart.refl (fun b => b = g) w).setCell (p := ⟨g, j * 2, none⟩) (fun _ => rfl) _
  refine ⟨?_, ?_, h.off⟩
  · have h1 := (h.row.stored (j * 2) (.string x)).1
    have e : cellsD us (ds.set j ⟨x, (stmG ds j).uses⟩) = (cellsD us ds).set (j * 2) (.string x) := by
      unfold cellsD
      refine flatMap_set (fun _ => rfl) (by omega) (fun i hi hne => ?_) ?_
      · rw [stmG_set _ _ (by omega), if_neg (by omega)]
      · rw [stmG_set _ _ (by omega), if_pos rfl]; rfl
    rw [e]
    exact h1
  · have e : (ds.set j ⟨x, (stmG ds j).uses⟩).map Stm.uses = ds.map Stm.uses := map_uses_same (by simp) fun i hi => by
      rw [List.length_set] at hi
      rw [stmG_set _ _ hi]
      split
      · next e => subst e; rfl
      · rfl
    rw [e]
    exact h.kin.apart hap fun i hi k hk e => h.off i hi k hk (by rw [e]; rfl)
/-- The names of one derivation are others, in their old row. -/
theorem Ders.names {B j : Nat} {w w' : World} {v : Value} {us : List Value} {ds : List Stm} {ys : List ByteArray} (h : Ders B w v us ds) (hj : j < ds.length) (ho : OwnS B w' (usG us j) ys) (hg : w.grownBy w' (usG us j).ownBlock) :
    Ders B w' v us (ds.set j ⟨(stmG ds j).word, ys⟩) := by
  have hl := h.len
  have hap : Apart (fun b => (usG us j).ownBlock = some b) w w' := (Apart.refl _ w).grown hg (fun _ hk _ => hk)
  refine ⟨?_, ⟨by simp [hl], fun i hi => ?_, h.kin.two⟩, h.off⟩
  · have e : cellsD us (ds.set j ⟨(stmG ds j).word, ys⟩) = cellsD us ds := by
      unfold cellsD
      refine flatMap_same fun i hi => ?_
      rw [stmG_set _ _ (by omega)]
      split
      · next e => subst e; rfl
      · rfl
    rw [e]
    exact own_apartN h.row hap fun k hk e => h.off j (by omega) k e hk
  · rw [rowG_map (by rw [List.length_set]; omega), stmG_set _ _ (by omega)]
    split
    · next e => subst e; exact ho
    · next e =>
      have := h.kin.own i hi
      rw [rowG_map (by omega)] at this
      exact this.apartI hap fun k hk e2 => h.kin.two i j hi (by omega) (fun e3 => e e3.symm) k hk e2
theorem Ders.mark {B g n cap : Nat} {w : World} {us : List Value} {ds : List Stm} (h : Ders B w (.slice (some ⟨g, 0, none⟩) n cap) us ds) (j : Nat) : w.frozen? ⟨g, j, none⟩ = false := by
  have hn : n = us.length := by
    obtain ⟨a, c, e, -⟩ := own_formN h.row
    injection e
  subst hn
  exact h.row.frozenAt j
theorem markStr_int {B : Nat} {v : Value} {ss : List ByteArray} (x : Int) (k : Nat) (w : World) (hx : x = (k : Int)) (h : OwnS B w v ss) (hk : 0 < k) (hkn : k + ss.length ≤ 4000000000) :
    Calls Try.prog 16 #[v, .int .i64 x] w fun e w' => e = .returned (.int .i64 ((k + ss.length : Nat) : Int)) ∧ OwnS B w' v (marks k ss.length) ∧ w.grownBy w' v.ownBlock := by
  subst hx
  exact markStringS_any k w h hk hkn
theorem heldStr_int {v : Value} (x : Int) (k n : Nat) (w : World) (hx : x = (k : Int)) (h : Strs w v (marks k n)) (hk : 0 < k) (hkn : k + n ≤ 4000000000) :
    Calls Try.prog 17 #[v, .int .i64 x] w fun e w' => e = .returned (.int .i64 ((k + n : Nat) : Int)) ∧ Below w.heap.size w w' := by
  subst hx
  exact heldStringS_any k n w h hk hkn

set_option maxRecDepth 100000 in
set_option maxHeartbeats 2000000 in
theorem markDerS_any {B : Nat} {v : Value} {us : List Value} {ds : List Stm} (k : Nat) (w : World) (h : Ders B w v us ds) (hk : 0 < k) (hkn : k + dW ds ds.length ≤ 4000000000) :
    Calls Try.prog 32 #[v, .int .i64 k] w fun e w' => e = .returned (.int .i64 ((k + dW ds ds.length : Nat) : Int)) ∧ Ders B w' v us (mTo k ds ds.length) ∧ Apart (fun b => B ≤ b) w w' := by
  obtain ⟨a, cap, rfl, h1, h2, h3⟩ := own_formN h.row
  have hl := h.len
  rw [hl] at h1 h3 h ⊢
  have HAT := Shh.mk h3
  have H0 := Shh.mk (show Shh (Ders B w (.slice a ds.length cap) us (mTo k ds 0)) from ⟨by rw [mTo_zero]; exact h⟩)
  have HA0 := Shh.mk (Apart.refl (fun b => B ≤ b) w)
  have HK0 : Shh (k = k + dW ds 0) := ⟨rfl⟩
  have HMX := Shh.mk (fun {j : Nat} (hj : j ≤ ds.length) => dW_mono ds hj)
  have HL := Shh.mk hl
  unfold maxLen at h2
  clear h h3 hl
  go_enter Try.func32, Try.ntmps32
  go_wp2
  go_loopw [1, 5] (fun x i wr => ∃ j K : Nat, j ≤ ds.length ∧ i = .int .i64 j ∧ x = .int .i64 K ∧ Shh (K = k + dW ds j) ∧ Shh (Ders B wr (.slice a ds.length cap) us (mTo k ds j)) ∧ Shh (Apart (fun b => B ≤ b) w wr)) (fun _ i _ => ds.length - (intOf i).toNat)
  case atStart => exact ⟨0, k, Nat.zero_le _, rfl, rfl, HK0, H0.out, HA0⟩
  case round =>
    clear H0 HA0 HK0
    obtain ⟨j, K, hj, rfl, rfl, hK, hd, hA⟩ := hrel
    by_cases hlt : j < ds.length
    · obtain ⟨g, rfl, hg1, -⟩ := HAT.out (by have := HL.out; omega)
      have hKK := hK.out
      have hle := HMX.out (j := j + 1) (by omega)
      rw [dW_succ] at hle
      have hK1 : 0 < K := by omega
      have hK2 : K + (1 + (stmG ds j).uses.length) ≤ 4000000000 := by omega
      have HS := Shh.mk (dW_succ ds j)
      have hm := mTo_at k ds j hlt
      rw [if_neg (by omega)] at hm
      have HMM := Shh.mk hm
      have HNX := Shh.mk (fun x => mTo_succ k ds (j := j) x)
      have HMK := Shh.mk (show markAt k ds j = ⟨markB K, marks (K + 1) (stmG ds j).uses.length⟩ by unfold markAt; rw [← hKK])
      obtain ⟨N, hN⟩ : ∃ N, (stmG ds j).uses = N := ⟨_, rfl⟩
      rw [hN] at hK2 HMK HS
      have HNN := Shh.mk hN
      clear hKK hle hm hN
      go_wp2_with fail
      refine (markText_int _ K _ (by first | rfl | omega) (by omega) (by omega)).mono ?_
      rintro e w1 ⟨rfl, hb1⟩
      have hd1 := hd.out.quiet hb1
      have HA1 := Shh.mk (hA.out.belowA hb1)
      have hjl : j < us.length := by have := HL.out; omega
      have c0 := (hd1.cell hjl).1
      have cf := hd1.mark (j * 2)
      have hd2 := hd1.word (j := j) (by rw [mTo_len]; exact hlt) (markB K)
      rw [HMM.out, HNN.out] at hd2
      have HD2 := Shh.mk hd2
      have hcc := hd2.cell hjl
      have c1 := hcc.2
      have how := hd2.kin.own j hjl
      rw [rowG_map (by rw [List.length_set, mTo_len]; exact hlt), stmG_set _ _ (by rw [mTo_len]; exact hlt), if_pos rfl] at how
      obtain ⟨la, lc, huv, -, -, -⟩ := own_form how
      have HUV := Shh.mk huv
      rw [huv] at c1 how
      have HOW := Shh.mk how
      have HA2 := Shh.mk (HA1.out.setCell (p := ⟨g, j * 2, none⟩) (fun _ => hg1) (.string (markB K)))
      obtain ⟨X, hX⟩ : ∃ X, markB K = X := ⟨_, rfl⟩
      rw [show (⟨(109 :: digits K).toArray⟩ : ByteArray) = markB K from rfl]
      rw [hX] at c1 HOW HA2 HD2 HMK ⊢
      clear hd1 hd2 hcc huv how hb1 hX
      go_wp2_with fail
      refine (markStr_int _ (K + 1) _ (by first | rfl | omega) HOW.out (by omega) (by omega)).mono ?_
      rintro e w3 ⟨rfl, ho3, hg3⟩
      rw [← HUV.out] at ho3 hg3
      have hd3 := HD2.out.names (j := j) (by rw [List.length_set, mTo_len]; exact hlt) ho3 hg3
      rw [stmG_set _ _ (by rw [mTo_len]; exact hlt), if_pos rfl] at hd3
      simp only at hd3
      rw [← HMK.out, HNX.out] at hd3
      have HD3 := Shh.mk hd3
      have HA3 := Shh.mk (HA2.out.grown hg3 (fun i hi _ => by rw [HUV.out] at hi; exact OwnS.block HOW.out i hi))
      have HK3 := Shh.mk (show K + 1 + N.length = k + dW ds (j + 1) by have := HS.out; have := hK.out; omega)
      clear hd3 ho3 hg3
      go_wp2
      go_roundw
      case rel => exact ⟨j + 1, _, by omega, by go_num, rfl, HK3, HD3, HA3⟩
      case measure => simp [intOf]; omega
    · obtain rfl : j = ds.length := by omega
      have HE := hK.out
      go_wp2
      go_ret
      exact ⟨by rw [HE]; rfl, hd.out, hA.out⟩

set_option maxRecDepth 100000 in
set_option maxHeartbeats 2000000 in
theorem heldDerS_any {v : Value} {ds : List Stm} (k : Nat) (w : World) (h : Stms w v (mTo k ds ds.length)) (hk : 0 < k) (hkn : k + dW ds ds.length ≤ 4000000000) :
    Calls Try.prog 33 #[v, .int .i64 k] w fun e w' => e = .returned (.int .i64 ((k + dW ds ds.length : Nat) : Int)) ∧ Below w.heap.size w w' := by
  obtain ⟨a, cap, rfl, h1, h2, h3⟩ := h
  rw [mTo_len] at h1 h3 ⊢
  have HAT := Shh.mk h3
  have HK0 : Shh (k = k + dW ds 0) := ⟨rfl⟩
  have HB0 := Shh.mk (Below.refl w.heap.size w)
  have HMX := Shh.mk (fun {j : Nat} (hj : j ≤ ds.length) => dW_mono ds hj)
  unfold maxLen at h2
  clear h3
  go_enter Try.func33, Try.ntmps33
  go_wp2
  go_loopw [1, 5] (fun x i wr => ∃ j K : Nat, j ≤ ds.length ∧ i = .int .i64 j ∧ x = .int .i64 K ∧ Shh (K = k + dW ds j) ∧ Shh (Below w.heap.size w wr)) (fun _ i _ => ds.length - (intOf i).toNat)
  case atStart => exact ⟨0, k, Nat.zero_le _, rfl, rfl, HK0, HB0⟩
  case round =>
    clear HB0 HK0
    obtain ⟨j, K, hj, rfl, rfl, hK, hB⟩ := hrel
    by_cases hlt : j < ds.length
    · obtain ⟨b, off, rfl, hbl, hcc⟩ := HAT.out (by omega)
      have hKK := hK.out
      have hle := HMX.out (j := j + 1) (by omega)
      rw [dW_succ] at hle
      have hK1 : 0 < K := by omega
      have hK2 : K + (1 + (stmG ds j).uses.length) ≤ 4000000000 := by omega
      have HS := Shh.mk (dW_succ ds j)
      have hi := (hcc j hlt).below hB.out hbl
      rw [mTo_at _ _ _ hlt, if_pos hlt, show markAt k ds j = ⟨markB K, marks (K + 1) (stmG ds j).uses.length⟩ by unfold markAt; rw [← hKK]] at hi
      obtain ⟨k0, u, k1, hu⟩ := hi
      simp only at k0 hu
      obtain ⟨N, hN⟩ : ∃ N, (stmG ds j).uses.length = N := ⟨_, rfl⟩
      rw [hN] at hK2 HS hu
      have HU := Shh.mk hu
      obtain ⟨ua, uc, rfl, hu1, hu2, -⟩ := hu
      rw [marks_len] at k1 HU hu1
      have hbw : b < wr.heap.size := Nat.lt_of_lt_of_le hbl hB.out.size
      obtain ⟨m, hm⟩ : ∃ m, markB K = m := ⟨_, rfl⟩
      rw [hm] at k0
      have hss := same_str m
      have HMK := Shh.mk (show ∀ x W, x = ((K : Nat) : Int) → Calls Try.prog 55 #[.int .i64 x] W fun e w' => e = .returned (.string m) ∧ Below W.heap.size W w' by
        intro x W hx
        rw [← hm]
        exact markText_int x K W hx (by omega) (by omega))
      have HK := Shh.mk (fun w' (hb : Below wr.heap.size wr w') => (hb.cell (p := ⟨b, off + j * 2, none⟩) hbw).trans k0)
      clear hcc hKK hle hN hm
      go_wp2
      go_region_held3 (fun w' => w'.cell? ⟨b, off + j * 2, none⟩ = some (.string m))
        (exact HK.out _ (by first | assumption | exact (Below.refl _ _).drew))
        (first
          | (go_at_call 55; refine (HMK.out _ _ (by first | rfl | omega)).mono ?_; rintro e w1 ⟨rfl, hb1⟩; have hB1 := Below.trans (Below.refl wr.heap.size wr).drew hb1))
      all_goals
        have HU1 := Shh.mk (HU.out.below hB1)
        have hk1 : w1.cell? ⟨b, off + j * 2 + 1, none⟩ = some (.slice ua N uc) := (hB1.cell (p := ⟨b, off + j * 2 + 1, none⟩) hbw).trans k1
        have HB1 := Shh.mk (hB.out.trans (hB1.mono hB.out.size))
        have hnn : ¬ (((K + 1 + N : Nat) : Int) < 0) := by omega
        have HK3 := Shh.mk (show K + 1 + N = k + dW ds (j + 1) by have := HS.out; have := hK.out; omega)
        clear k0 k1 HK hB1 hb1
        go_wp2_with fail
        refine (heldStr_int _ (K + 1) N _ (by first | rfl | omega) HU1.out (by omega) (by omega)).mono ?_
        rintro e w2 ⟨rfl, hb2⟩
        have HB2 := Shh.mk (HB1.out.trans (hb2.mono HB1.out.size))
        clear hb2 hk1
        go_wp2
        go_roundw
        case rel => exact ⟨j + 1, _, by omega, by go_num, rfl, HK3, HB2⟩
        case measure => simp [intOf]; omega
    · obtain rfl : j = ds.length := by omega
      have HE := hK.out
      go_wp2
      go_ret
      exact ⟨by rw [HE]; rfl, hB.out⟩
end Go.Proofs.Ytilagppmljpclaa

namespace Go.Proofs.Ytilagppmljpclaa
open Go.ChangeShapes Go.WideShapes Go.ChangeAt Go.RowKit Go.Joins Go.Deep

set_option maxHeartbeats 2000000 in
theorem toGrammar_row {va vs : Value} {xs : List Aff} {ss : List Stm} (w : World) (h : Gram w va vs xs ss) (hs : Small xs ss) :
    Calls Try.prog 23 #[.agg #[va, vs]] w fun e w' => ∃ ga gs, e = .returned (.agg #[.slice (some ⟨ga, 0, none⟩) xs.length xs.length, .slice (some ⟨gs, 0, none⟩) ss.length ss.length]) ∧ (AffRow w' ga xs xs.length ∧ StmRow w' gs ss ss.length ∧ w.heap.size ≤ ga ∧ w.heap.size ≤ gs) ∧ Below w.heap.size w w' := by
  have HG := Shh.mk (((h.alloc (.cells #[va, vs] 39)).alloc (.cells #[.slice none 0 0, .slice none 0 0] 48)).alloc (.cells #[.slice none 0 0, .slice none 0 0] 48))
  have H0 := Shh.mk h
  obtain ⟨⟨aa, ac, rfl, -⟩, ⟨sa, sc, rfl, -⟩⟩ := h
  go_enter Try.func23, Try.ntmps23
  go_wp2_with fail
  refine (toAffixS_any _ HG.out.affs hs.xlen).mono ?_
  rintro e w1 ⟨rfl, ha, hb1⟩
  have hz1 : w.heap.size + 3 ≤ w1.heap.size := by have := hb1.size; simp at this; omega
  have q0 := Shh.mk ((((Blk.made w 39 #[.slice aa xs.length ac, .slice sa ss.length sc]).alloc (.cells #[.slice none 0 0, .slice none 0 0] 48)).alloc (.cells #[.slice none 0 0, .slice none 0 0] 48)).kept hb1 (by simp; omega))
  have q1 := ((Blk.made (w.alloc (.cells #[.slice aa xs.length ac, .slice sa ss.length sc] 39)) 48 #[.slice none 0 0, .slice none 0 0]).alloc (.cells #[.slice none 0 0, .slice none 0 0] 48)).kept hb1 (by simp)
  have q2 := (Blk.made ((w.alloc (.cells #[.slice aa xs.length ac, .slice sa ss.length sc] 39)).alloc (.cells #[.slice none 0 0, .slice none 0 0] 48)) 48 #[.slice none 0 0, .slice none 0 0]).kept hb1 (by simp)
  simp only [World.size_alloc] at q1 q2 ha ⊢
  have Q1 := Shh.mk q1
  have Q2 := Shh.mk q2
  have hB1 := (((((Below.refl w.heap.size w).alloc (Nat.le_refl _) (.cells #[.slice aa xs.length ac, .slice sa ss.length sc] 39)).alloc (by simp) (.cells #[.slice none 0 0, .slice none 0 0] 48)).alloc (by simp; omega) (.cells #[.slice none 0 0, .slice none 0 0] 48))).trans (hb1.mono (by simp; omega))
  have c0 := q0.out.cells
  have c2 := q2.cells
  have m2 := q2.marks
  obtain ⟨ga, hga⟩ : ∃ ga, w.heap.size + 1 + 1 + 1 = ga := ⟨_, rfl⟩
  rw [hga] at ha ⊢
  have hlta : ga < w1.heap.size := by obtain ⟨cur, h1, _⟩ := ha; exact h1.lt
  have hB2 := hB1.setCell (p := ⟨w.heap.size + 1 + 1, 0, none⟩) (by simp; omega) (.slice (some ⟨ga, 0, none⟩) xs.length xs.length)
  have HS := Shh.mk (H0.out.stms.below hB2)
  have HA := Shh.mk (ha.off (b := w.heap.size + 1 + 1) (by omega) 0 (.slice (some ⟨ga, 0, none⟩) xs.length xs.length))
  have R2 := Shh.mk (q2.stored 0 (.slice (some ⟨ga, 0, none⟩) xs.length xs.length))
  have R1 := Shh.mk (q1.other (p := ⟨w.heap.size + 1 + 1, 0, none⟩) (by simp) (.slice (some ⟨ga, 0, none⟩) xs.length xs.length))
  clear q1 q2 hb1 ha
  go_wp2_with fail
  refine (toStemS_any _ HS.out hs.slen hs.ulen).mono ?_
  rintro e w3 ⟨rfl, hst, hb3⟩
  have hsz2 : (w1.setCell ⟨w.heap.size + 1 + 1, 0, none⟩ (.slice (some ⟨ga, 0, none⟩) xs.length xs.length)).heap.size = w1.heap.size := by simp [World.setCell]
  have hB3 := Shh.mk (hB2.trans (hb3.mono (by rw [hsz2]; omega)))
  have HA3 := Shh.mk (HA.out.kept hb3)
  have p2 := (R2.out.kept hb3 (by rw [hsz2]; omega))
  have p1 := (R1.out.kept hb3 (by rw [hsz2]; omega))
  clear c0 c2 m2 hb3 hB1 hB2 HS HA R1 R2
  rw [hsz2] at hst ⊢
  have HST := Shh.mk hst
  clear hst hsz2
  have c2 := p2.cells
  have m2 := p2.marks
  have c1 := p1.cells
  have m1 := p1.marks
  clear p1 p2
  go_wp2
  refine bodyPost_ret (v := .agg #[.slice (some ⟨ga, 0, none⟩) xs.length xs.length, .slice (some ⟨w1.heap.size, 0, none⟩) ss.length ss.length]) (by simp [results, Try.results23, go_sem, c1]) rfl ?_
  refine ⟨_, _, rfl, ⟨?_, ?_, ?_, ?_⟩, ?_⟩
  · exact (((HA3.out.off (by omega) _ _).off (by omega) _ _).off (by omega) _ _)
  · exact (((HST.out.off (by omega) _ _).off (by omega) _ _).off (by omega) _ _)
  · omega
  · omega
  · exact ((hB3.out.setCell (by simp; omega) _).setCell (by simp) _).setCell (by simp) _

/-- Nothing has changed but blocks from lo up to hi, and those keep their types and sizes. -/
structure Kept (lo hi : Nat) (w w' : World) : Prop where
  apart : Apart (fun b => lo ≤ b ∧ b < hi) w w'
  blk : ∀ g t cur, Blk w g t cur → ∃ cur', Blk w' g t cur' ∧ cur'.size = cur.size
theorem Kept.refl (lo hi : Nat) (w : World) : Kept lo hi w w := ⟨Apart.refl _ w, fun _ _ cur h => ⟨cur, h, rfl⟩⟩
theorem Kept.quiet {lo hi : Nat} {w w1 w2 : World} (h : Kept lo hi w w1) (hb : Below w1.heap.size w1 w2) : Kept lo hi w w2 :=
  ⟨h.apart.belowA hb, fun g t cur hc => by obtain ⟨c, h1, h2⟩ := h.blk g t cur hc; exact ⟨c, h1.kept hb h1.lt, h2⟩⟩
theorem Kept.trans {lo hi : Nat} {w w1 w2 : World} (h : Kept lo hi w w1) (k : Kept lo hi w1 w2) : Kept lo hi w w2 :=
  ⟨h.apart.trans k.apart (fun _ _ h => h), fun g t cur hc => by obtain ⟨c, h1, h2⟩ := h.blk g t cur hc; obtain ⟨d, h3, h4⟩ := k.blk g t c h1; exact ⟨d, h3, h4.trans h2⟩⟩
theorem Kept.store {lo hi g : Nat} {w w1 : World} (h : Kept lo hi w w1) (hl : lo ≤ g) (hh : g < hi) (j : Nat) (u : Value) : Kept lo hi w (w1.setCell ⟨g, j, none⟩ u) := by
  refine ⟨h.apart.setCell (p := ⟨g, j, none⟩) (fun _ => ⟨hl, hh⟩) u, fun g' t cur hc => ?_⟩
  obtain ⟨c, h1, h2⟩ := h.blk g' t cur hc
  by_cases hx : g' = g
  · subst hx
    exact ⟨_, h1.stored j u, by simpa using h2⟩
  · exact ⟨c, h1.other (p := ⟨g, j, none⟩) hx u, h2⟩
theorem Kept.free {lo hi g n : Nat} {t : TypeId} {cur : Array Value} {w w1 : World} (h : Kept lo hi w w1) (hc : Blk w g t cur) (hs : cur.size = n) {j : Nat} (hj : j < n) : (∃ y, w1.cell? ⟨g, j, none⟩ = some y) ∧ w1.frozen? ⟨g, j, none⟩ = false := by
  obtain ⟨c, h1, h2⟩ := h.blk g t cur hc
  exact ⟨⟨_, (h1.cells j).trans (Array.getElem?_eq_getElem (by omega))⟩, h1.marks j⟩
/-- A slice of n cells that may be written, in a block of that stretch. -/
def Rm (lo hi : Nat) (w : World) (u : Value) (n : Nat) : Prop :=
  ∃ (a : Option Addr) (cap : Nat), u = .slice a n cap ∧ n ≤ cap ∧ cap ≤ maxLen ∧ (0 < n → ∃ g cur, a = some ⟨g, 0, none⟩ ∧ lo ≤ g ∧ g < hi ∧ Blk w g 9 cur ∧ n ≤ cur.size)
theorem Rm.kept {lo hi n : Nat} {w w' : World} {u : Value} (h : Rm lo hi w u n) (k : Kept lo hi w w') : Rm lo hi w' u n := by
  obtain ⟨a, cap, h1, h2, h3, h4⟩ := h
  refine ⟨a, cap, h1, h2, h3, fun hp => ?_⟩
  obtain ⟨g, cur, e, hl, hh, hb, hs⟩ := h4 hp
  obtain ⟨c, hb2, hs2⟩ := k.blk g _ cur hb
  exact ⟨g, c, e, hl, hh, hb2, by omega⟩
set_option maxHeartbeats 2000000 in
theorem markStr_room {lo hi n : Nat} {v : Value} (x : Int) (k : Nat) (w : World) (hx : x = (k : Int)) (h : Rm lo hi w v n) (hk : 0 < k) (hkn : k + n ≤ 4000000000) :
    Calls Try.prog 16 #[v, .int .i64 x] w fun e w' => e = .returned (.int .i64 ((k + n : Nat) : Int)) ∧ Kept lo hi w w' ∧ Apart (fun b => 0 < n ∧ v.ownBlock = some b) w w' := by
  subst hx
  obtain ⟨a, cap, rfl, h1, h2, h3⟩ := h
  unfold maxLen at h2
  have HAT := Shh.mk h3
  have HK0 := Shh.mk (Kept.refl lo hi w)
  have HA0 := Shh.mk (Apart.refl (fun b => 0 < n ∧ (Value.slice a n cap).ownBlock = some b) w)
  clear h3
  go_enter Try.func16, Try.ntmps16
  go_wp2
  go_loopw [1, 5] (fun x i wr => ∃ j K : Nat, j ≤ n ∧ i = .int .i64 j ∧ x = .int .i64 K ∧ Shh (K = k + j) ∧ Shh (Kept lo hi w wr) ∧ Shh (Apart (fun b => 0 < n ∧ (Value.slice a n cap).ownBlock = some b) w wr)) (fun _ i _ => n - (intOf i).toNat)
  case atStart => exact ⟨0, k, Nat.zero_le _, rfl, rfl, ⟨rfl⟩, HK0, HA0⟩
  case round =>
    clear HK0 HA0
    obtain ⟨j, K, hj, rfl, rfl, hK, hB, hA⟩ := hrel
    by_cases hlt : j < n
    · obtain ⟨g, cur, rfl, hl, hh, hb, hs⟩ := HAT.out (by omega)
      have hKK := hK.out
      have hK1 : 0 < K := by omega
      have hK2 : K + 1 ≤ 4000000000 := by omega
      have HK3 := Shh.mk (show K + 1 = k + (j + 1) by omega)
      have HBB := Shh.mk hb
      clear hKK hb
      go_wp2_with fail
      refine (markText_int _ K _ (by first | rfl | omega) (by omega) (by omega)).mono ?_
      rintro e w1 ⟨rfl, hb1⟩
      have k1 := hB.out.quiet hb1
      obtain ⟨⟨y, c0⟩, cf⟩ := k1.free HBB.out (n := cur.size) rfl (j := j) (by omega)
      have HK4 := Shh.mk (k1.store hl hh j (.string ⟨(109 :: digits K).toArray⟩))
      have HA4 := Shh.mk ((hA.out.belowA hb1).setCell (p := ⟨g, j, none⟩) (fun _ => ⟨by omega, rfl⟩) (.string ⟨(109 :: digits K).toArray⟩))
      clear k1 hb1
      go_wp2
      go_roundw
      case rel => exact ⟨j + 1, K + 1, by omega, by go_num, by first | rfl | go_num, HK3, HK4, HA4⟩
      case measure => simp [intOf]; omega
    · obtain rfl : j = n := by omega
      have HE := hK.out
      go_wp2
      go_ret
      exact ⟨by rw [HE]; rfl, hB.out, hA.out⟩
end Go.Proofs.Ytilagppmljpclaa

namespace Go.Proofs.Ytilagppmljpclaa
open Go.ChangeShapes Go.WideShapes Go.ChangeAt Go.RowKit Go.Joins Go.Deep

set_option maxRecDepth 100000 in
set_option maxHeartbeats 4000000 in
theorem markAff_room {lo hi g n : Nat} {cur : Array Value} (x : Int) (k : Nat) (w : World) (hx : x = (k : Int)) (hb : Blk w g 171 cur) (hs : cur.size = n * 5) (hl : lo ≤ g) (hh : g < hi) (hk : 0 < k) (hkn : k + 5 * n ≤ 4000000000) :
    Calls Try.prog 84 #[.slice (some ⟨g, 0, none⟩) n n, .int .i64 x] w fun e w' => e = .returned (.int .i64 ((k + 5 * n : Nat) : Int)) ∧ Kept lo hi w w' ∧ Apart (fun b => b = g) w w' := by
  subst hx
  have HBB := Shh.mk hb
  have HSS := Shh.mk hs
  have HK0 := Shh.mk (Kept.refl lo hi w)
  have HA0 := Shh.mk (Apart.refl (fun b => b = g) w)
  clear hb hs
  go_enter Try.func84, Try.ntmps84
  go_wp2
  go_loopw [1, 5] (fun x i wr => ∃ j K : Nat, j ≤ n ∧ i = .int .i64 j ∧ x = .int .i64 K ∧ Shh (K = k + 5 * j) ∧ Shh (Kept lo hi w wr) ∧ Shh (Apart (fun b => b = g) w wr)) (fun _ i _ => n - (intOf i).toNat)
  case atStart => exact ⟨0, k, Nat.zero_le _, rfl, rfl, ⟨rfl⟩, HK0, HA0⟩
  case round =>
    clear HK0 HA0
    obtain ⟨j, K, hj, rfl, rfl, hK, hB, hA⟩ := hrel
    by_cases hlt : j < n
    · have hKK := hK.out
      have hK1 : 0 < K := by omega
      have hK2 : K + 5 ≤ 4000000000 := by omega
      have HK3 := Shh.mk (show K + 5 = k + 5 * (j + 1) by omega)
      clear hKK
      go_wp2_with fail
      refine (markText_int _ K _ (by first | rfl | omega) (by omega) (by omega)).mono ?_
      rintro e w1 ⟨rfl, hb1⟩
      have k1 := hB.out.quiet hb1
      have a1 := hA.out.belowA hb1
      obtain ⟨⟨y0, c0⟩, f0⟩ := k1.free HBB.out HSS.out (j := j * 5) (by omega)
      have k2 := k1.store hl hh (j * 5) (.string ⟨(109 :: digits K).toArray⟩)
      have a2 := a1.setCell (p := ⟨g, j * 5, none⟩) (fun _ => rfl) (.string ⟨(109 :: digits K).toArray⟩)
      obtain ⟨⟨y1, c1⟩, f1⟩ := k2.free HBB.out HSS.out (j := j * 5 + 1) (by omega)
      have K2 := Shh.mk k2
      have A2 := Shh.mk a2
      clear k1 a1 k2 a2 hb1
      go_wp2_with fail
      refine (markText_int _ (K + 2) _ (by first | rfl | omega) (by omega) (by omega)).mono ?_
      rintro e w2 ⟨rfl, hb2⟩
      have k3 := (K2.out.store hl hh (j * 5 + 1) _).quiet hb2
      have a3 := (A2.out.setCell (p := ⟨g, j * 5 + 1, none⟩) (fun _ => rfl) _).belowA hb2
      obtain ⟨⟨y2, c2⟩, f2⟩ := k3.free HBB.out HSS.out (j := j * 5 + 2) (by omega)
      have K3 := Shh.mk k3
      have A3 := Shh.mk a3
      clear k3 a3 hb2 K2 A2 c0 c1 f0 f1
      go_wp2_with fail
      refine (markText_int _ (K + 3) _ (by first | rfl | omega) (by omega) (by omega)).mono ?_
      rintro e w3 ⟨rfl, hb3⟩
      have k4 := (K3.out.store hl hh (j * 5 + 2) _).quiet hb3
      have a4 := (A3.out.setCell (p := ⟨g, j * 5 + 2, none⟩) (fun _ => rfl) _).belowA hb3
      obtain ⟨⟨y3, c3⟩, f3⟩ := k4.free HBB.out HSS.out (j := j * 5 + 3) (by omega)
      have K4 := Shh.mk k4
      have A4 := Shh.mk a4
      clear k4 a4 hb3 K3 A3 c2 f2
      go_wp2_with fail
      refine (markText_int _ (K + 4) _ (by first | rfl | omega) (by omega) (by omega)).mono ?_
      rintro e w4 ⟨rfl, hb4⟩
      have k5 := (K4.out.store hl hh (j * 5 + 3) _).quiet hb4
      have a5 := (A4.out.setCell (p := ⟨g, j * 5 + 3, none⟩) (fun _ => rfl) _).belowA hb4
      obtain ⟨⟨y4, c4⟩, f4⟩ := k5.free HBB.out HSS.out (j := j * 5 + 4) (by omega)
      have K5 := Shh.mk (k5.store hl hh (j * 5 + 4) (.string ⟨(109 :: digits (K + 4)).toArray⟩))
      have A5 := Shh.mk (a5.setCell (p := ⟨g, j * 5 + 4, none⟩) (fun _ => rfl) (.string ⟨(109 :: digits (K + 4)).toArray⟩))
      clear k5 a5 hb4 K4 A4 c3 f3
      go_wp2
      go_roundw
      case rel => exact ⟨j + 1, K + 5, by omega, by go_num, by first | rfl | go_num, HK3, K5, A5⟩
      case measure => simp [intOf]; omega
    · obtain rfl : j = n := by omega
      have HE := hK.out
      go_wp2
      go_ret
      exact ⟨by rw [HE]; rfl, hB.out, hA.out⟩

set_option maxRecDepth 100000 in
set_option maxHeartbeats 4000000 in
theorem markStm_room {lo hi g : Nat} {cur : Array Value} {ss : List Stm} {U : Nat → Value} (x : Int) (k : Nat) (w : World) (hx : x = (k : Int)) (hb : Blk w g 111 cur) (hs : cur.size = ss.length * 2) (hl : lo ≤ g) (hh : g < hi)
    (hu : ∀ j, j < ss.length → cur[j * 2 + 1]? = some (U j) ∧ Rm lo hi w (U j) (stmG ss j).uses.length) (hk : 0 < k) (hkn : k + dW ss ss.length ≤ 4000000000) (hsl : ss.length ≤ 4000000000) :
    Calls Try.prog 85 #[.slice (some ⟨g, 0, none⟩) ss.length ss.length, .int .i64 x] w fun e w' => e = .returned (.int .i64 ((k + dW ss ss.length : Nat) : Int)) ∧ Kept lo hi w w' := by
  subst hx
  have HBB := Shh.mk hb
  have HSS := Shh.mk hs
  have HU := Shh.mk hu
  have HK0 := Shh.mk (Kept.refl lo hi w)
  have HC0 := Shh.mk (fun j (hj : j < ss.length) => (hb.cells (j * 2 + 1)).trans (hu j hj).1)
  have HMX := Shh.mk (fun {j : Nat} (hj : j ≤ ss.length) => dW_mono ss hj)
  clear hb hs hu
  go_enter Try.func85, Try.ntmps85
  go_wp2
  go_loopw [1, 5] (fun x i wr => ∃ j K : Nat, j ≤ ss.length ∧ i = .int .i64 j ∧ x = .int .i64 K ∧ Shh (K = k + dW ss j) ∧ Shh (Kept lo hi w wr) ∧ Shh (∀ j, j < ss.length → wr.cell? ⟨g, j * 2 + 1, none⟩ = some (U j))) (fun _ i _ => ss.length - (intOf i).toNat)
  case atStart => exact ⟨0, k, Nat.zero_le _, rfl, rfl, ⟨rfl⟩, HK0, HC0⟩
  case round =>
    clear HK0 HC0
    obtain ⟨j, K, hj, rfl, rfl, hK, hB, hC⟩ := hrel
    by_cases hlt : j < ss.length
    · have hKK := hK.out
      have hle := HMX.out (j := j + 1) (by omega)
      rw [dW_succ] at hle
      have hK1 : 0 < K := by omega
      have hK2 : K + (1 + (stmG ss j).uses.length) ≤ 4000000000 := by omega
      have HS := Shh.mk (show K + 1 + (stmG ss j).uses.length = k + dW ss (j + 1) by rw [dW_succ]; omega)
      have hrm := (HU.out j hlt).2
      obtain ⟨N, hN⟩ : ∃ N, (stmG ss j).uses.length = N := ⟨_, rfl⟩
      rw [hN] at hK2 HS hrm
      have HRM := Shh.mk hrm
      clear hKK hle hN hrm
      go_wp2_with fail
      refine (markText_int _ K _ (by first | rfl | omega) (by omega) (by omega)).mono ?_
      rintro e w1 ⟨rfl, hb1⟩
      have k1 := hB.out.quiet hb1
      have hgl : g < wr.heap.size := by obtain ⟨c, h1, -⟩ := hB.out.blk g _ _ HBB.out; exact h1.lt
      obtain ⟨⟨y0, c0⟩, f0⟩ := k1.free HBB.out HSS.out (j := j * 2) (by omega)
      have HK2 := Shh.mk (k1.store hl hh (j * 2) (.string ⟨(109 :: digits K).toArray⟩))
      have HC2 := Shh.mk (fun i (hi : i < ss.length) => show (w1.setCell ⟨g, j * 2, none⟩ (.string ⟨(109 :: digits K).toArray⟩)).cell? ⟨g, i * 2 + 1, none⟩ = some (U i) by
        obtain ⟨c, h1, h2⟩ := k1.blk g _ _ HBB.out
        have h3 := h1.cells (i * 2 + 1)
        have h4 := (hb1.cell (p := ⟨g, i * 2 + 1, none⟩) hgl).trans (hC.out i hi)
        rw [(h1.stored _ _).cells, Array.getElem?_setIfInBounds_ne (by omega), ← h3]
        exact h4)
      have c1 := HC2.out j hlt
      have HR2 := Shh.mk (HRM.out.kept HK2.out)
      obtain ⟨la, lc, huv, -⟩ := HRM.out
      have HUV := Shh.mk huv
      rw [huv] at c1 HR2
      obtain ⟨X, hX⟩ : ∃ X : ByteArray, ⟨(109 :: digits K).toArray⟩ = X := ⟨_, rfl⟩
      rw [hX] at c1 HK2 HR2 HC2 ⊢
      clear k1 hb1 huv hX
      go_wp2_with fail
      refine (markStr_room _ (K + 1) _ (by first | rfl | omega) HR2.out (by omega) (by omega)).mono ?_
      rintro e w3 ⟨rfl, hk3, ha3⟩
      have HK3 := Shh.mk (HK2.out.trans hk3)
      have HC3 := Shh.mk (fun i (hi : i < ss.length) => show w3.cell? ⟨g, i * 2 + 1, none⟩ = some (U i) by
        obtain ⟨c, h1, h2⟩ := HK2.out.blk g _ _ HBB.out
        have h5 : Blk w3 g 111 c := h1.apart ha3 (fun ⟨h6, h7⟩ => by
          obtain ⟨a', cap', e1, -, -, h8⟩ := HR2.out
          injection e1 with e1 _ _
          obtain ⟨g', cur', e2, -, -, h9, -⟩ := h8 h6
          subst e1
          subst e2
          simp [Value.ownBlock] at h7
          subst h7
          have := h9.symm.trans h1
          injection this with this
          injection this with _ this
          exact absurd this (by decide))
        rw [h5.cells, ← h1.cells]
        exact HC2.out i hi)
      clear hk3 ha3 c0 c1 f0
      go_wp2
      go_roundw
      case rel => exact ⟨j + 1, K + 1 + N, by omega, by go_num, by first | rfl | go_num, HS, HK3, HC3⟩
      case measure => simp [intOf]; omega
    · obtain rfl : j = ss.length := by omega
      have HE := hK.out
      go_wp2
      go_ret
      exact ⟨by rw [HE]; rfl, hB.out⟩
/-- A grammar whose rows may be written, all in one stretch of the heap. -/
def GRm (lo hi : Nat) (w : World) (ga gs n : Nat) (ss : List Stm) : Prop :=
  ∃ (ca cs : Array Value) (U : Nat → Value), (Blk w ga 171 ca ∧ ca.size = n * 5 ∧ lo ≤ ga ∧ ga < hi) ∧ (Blk w gs 111 cs ∧ cs.size = ss.length * 2 ∧ lo ≤ gs ∧ gs < hi) ∧
    ∀ j, j < ss.length → cs[j * 2 + 1]? = some (U j) ∧ Rm lo hi w (U j) (stmG ss j).uses.length
theorem GRm.quiet {lo hi ga gs n : Nat} {w w' : World} {ss : List Stm} (h : GRm lo hi w ga gs n ss) (hb : Below w.heap.size w w') : GRm lo hi w' ga gs n ss := by
  obtain ⟨ca, cs, U, ⟨h1, h2⟩, ⟨h3, h4⟩, h5⟩ := h
  exact ⟨ca, cs, U, ⟨h1.kept hb h1.lt, h2⟩, ⟨h3.kept hb h3.lt, h4⟩, fun j hj => ⟨(h5 j hj).1, (h5 j hj).2.kept ((Kept.refl lo hi w).quiet hb)⟩⟩
theorem GRm.of_rows {lo ga gs : Nat} {w : World} {xs : List Aff} {ss : List Stm} (ha : AffRow w ga xs xs.length) (hs : StmRow w gs ss ss.length) (h1 : lo ≤ ga) (h2 : lo ≤ gs) : GRm lo w.heap.size w ga gs xs.length ss := by
  obtain ⟨ca, b1, s1, -⟩ := ha
  obtain ⟨cs, b2, s2, hc⟩ := hs
  refine ⟨ca, cs, fun j => (cs[j * 2 + 1]?).getD .nilFunc, ⟨b1, s1, h1, b1.lt⟩, ⟨b2, s2, h2, b2.lt⟩, fun j hj => ?_⟩
  obtain ⟨-, u, e, ho⟩ := hc j hj
  have hU : ((cs[j * 2 + 1]?).getD .nilFunc) = u := by rw [e]; rfl
  show cs[j * 2 + 1]? = some ((cs[j * 2 + 1]?).getD .nilFunc) ∧ Rm lo w.heap.size w ((cs[j * 2 + 1]?).getD .nilFunc) _
  rw [hU]
  refine ⟨e, ?_⟩
  obtain ⟨a, cap, rfl, l1, l2, l3⟩ := own_form ho
  refine ⟨a, cap, rfl, l1, l2, fun hp => ?_⟩
  obtain ⟨g, rfl, hg1, hg2⟩ := l3 hp
  obtain ⟨cur, hb, hz⟩ := own_blk ho
  exact ⟨g, cur, rfl, by omega, hg2, hb, by omega⟩
set_option maxRecDepth 100000 in
set_option maxHeartbeats 4000000 in
theorem markGrammar_room {lo hi ga gs n : Nat} {ss : List Stm} (k : Nat) (w : World) (h : GRm lo hi w ga gs n ss) (hk : 0 < k) (hkn : k + 5 * n + dW ss ss.length ≤ 4000000000) (hsl : ss.length ≤ 4000000000) :
    Calls Try.prog 31 #[.agg #[.slice (some ⟨ga, 0, none⟩) n n, .slice (some ⟨gs, 0, none⟩) ss.length ss.length], .int .i64 k] w fun e w' => e = .returned (.int .i64 ((k + 5 * n + dW ss ss.length : Nat) : Int)) ∧ Apart (fun b => lo ≤ b ∧ b < hi) w w' := by
  have HP := Shh.mk (Blk.made w 48 #[.slice (some ⟨ga, 0, none⟩) n n, .slice (some ⟨gs, 0, none⟩) ss.length ss.length])
  have HB := Shh.mk ((Below.refl w.heap.size w).alloc (Nat.le_refl _) (.cells #[.slice (some ⟨ga, 0, none⟩) n n, .slice (some ⟨gs, 0, none⟩) ss.length ss.length] 48))
  obtain ⟨ca, cs, U, ⟨a1, a2, a3, a4⟩, ⟨s1, s2, s3, s4⟩, s5⟩ := h.quiet HB.out
  obtain ⟨ca', cs', U', ⟨a1', -, -, -⟩, ⟨s1', -, -, -⟩, -⟩ := h
  have hga := a1'.lt
  have hgs := s1'.lt
  clear a1' s1'
  have hp := HP.out.cells
  have A1 := Shh.mk a1
  have S1 := Shh.mk s1
  have S5 := Shh.mk s5
  have A2 := Shh.mk a2
  have S2 := Shh.mk s2
  have HN := Shh.mk hkn
  clear a1 s1 s5 a2 s2 hkn
  go_enter Try.func31, Try.ntmps31
  go_wp2_with fail
  refine (markAff_room _ k _ rfl A1.out A2.out a3 a4 hk (by have := HN.out; omega)).mono ?_
  rintro e w1 ⟨rfl, k1, p1⟩
  have hne : gs ≠ ga := fun e => by
    subst e
    have := A1.out.symm.trans S1.out
    injection this with this
    injection this with _ this
    exact absurd this (by decide)
  have S1' := Shh.mk (S1.out.apart p1 hne)
  have S5' := Shh.mk (fun j (hj : j < ss.length) => (⟨(S5.out j hj).1, (S5.out j hj).2.kept k1⟩ : cs[j * 2 + 1]? = some (U j) ∧ Rm lo hi w1 (U j) (stmG ss j).uses.length))
  have hc1 := (HP.out.apart p1 (by omega)).cells
  have K1 := Shh.mk k1
  clear hp k1 p1
  go_wp2_with fail
  refine (markStm_room _ (k + 5 * n) _ rfl S1'.out S2.out s3 s4 S5'.out (by omega) HN.out hsl).mono ?_
  rintro e w2 ⟨rfl, k2⟩
  have HZ := Shh.mk ((Apart.of_below (S := fun b => lo ≤ b ∧ b < hi) HB.out).trans (K1.out.trans k2).apart (fun _ _ h => h))
  clear k2 hc1
  go_wp2
  go_ret
  exact ⟨rfl, HZ.out⟩
end Go.Proofs.Ytilagppmljpclaa
