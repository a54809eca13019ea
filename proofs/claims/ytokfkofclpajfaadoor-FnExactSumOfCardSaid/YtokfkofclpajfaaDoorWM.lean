/-
  ValidDawg: the program's answer.
  ValidDawg: the model's answer; what the cards' frames share.
-/
import Derived.Test.YtokfkofclpajfaaDoorWL
import Derived.Test.YtokfkofclpajfaaDoorWE
import Derived.Test.YtokfkofclpajfaaDoorWB
import Derived.Test.YtokfkofclpajfaaDoorVZ
import Derived.Test.YtokfkofclpajfaaDoorCards
import Derived.Test.YtokfkofclpajfaaDoorTie
import Derived.WalkKit
import Derived.ProofKit
import Derived.OpenShut
import Derived.ShutString
import Derived.ChangeOld
import Derived.Below
import Derived.Stop.LaidErr
import Derived.OpenVars
import Derived.ChangeVars
import Derived.Lay
import Derived.Deep.DeepHandedRow
import Derived.Deep.RegionHeld3
import Derived.Lib.LaidTab
namespace Go.Proofs.YtokfkofclpajfaaDoor
open Go.RowKit Go.Maps Go.WideMaps

/-- What an order gives. -/
structure Ord (xs : List Nod) (o : List Nat) : Prop where
  topo : Topo (gphD xs).N o
  nodup : o.Nodup
  below : ∀ i ∈ o, i < xs.length
  full : ∀ i, i < xs.length → i ∈ o
  range : dfs (gphD xs).N xs.length [] 0 = List.range xs.length
theorem Ord.of {xs : List Nod} {o : List Nat} (h : meetO (gphD xs).N xs.length (0, []) 0 = some (xs.length, o)) : Ord xs o := by
  obtain ⟨hE, hr, -, -⟩ := meetO_ended (gphD xs).N xs.length 0 [] xs.length o h (by simp) (topo_nil _) List.nodup_nil
  have hlen : o.length = xs.length := by have := hE.len; simpa using this
  refine ⟨hE.topo, hE.nodup, hE.below, fun i hi => ?_, hr⟩
  apply Classical.byContradiction
  intro hni
  have := nodup_room hE.nodup hE.below hi hni
  omega
theorem Ord.all {xs : List Nod} {o : List Nat} (h : Ord xs o) {D : Nat → Prop} (h0 : D 0) (hD : ∀ i, D i → ∀ j ∈ (gphD xs).N i, D j) {i : Nat} (hi : i < xs.length) : D i := by
  have := (dfs_map (g := id) (D := D) (N1 := (gphD xs).N) (N2 := (gphD xs).N) (fun a b _ _ e => e) (fun a ha => ⟨by simp, hD a ha⟩) xs.length [] 0 (by simp) h0).2
  exact this i (by rw [h.range]; simpa using hi)
theorem LenSt.fall {xs : List Nod} {o : List Nat} {h : Nat → Nat} (hl : LenSt (gphD xs).N o h) (ho : Ord xs o) : ∀ i, i < xs.length → ∀ j ∈ (gphD xs).N i, h j < h i := fun i hi j hj => by
  have := (maxOf_le (h := h) (l := (gphD xs).N i) (r := h i)).1 (by rw [← hl.eq i (ho.full i hi)]; exact Nat.le_refl _) j hj
  omega
theorem LenSt.short {xs : List Nod} {o : List Nat} {h : Nat → Nat} (hs : Shp xs) (hl : LenSt (gphD xs).N o h) (ho : Ord xs o) : (gphD xs).okH 14 0 = true ↔ h 0 ≤ 13 :=
  Gph.okH_len hs.in (fun i hi => hl.eq i (ho.full i hi)) hs.pos
theorem Ord.short_all {xs : List Nod} {o : List Nat} (ho : Ord xs o) (h : (gphD xs).okH 14 0 = true) : ∀ i, i < xs.length → (gphD xs).okH 14 i = true := fun i hi =>
  ho.all (D := fun i => (gphD xs).okH 14 i = true) h (fun i hi j hj => by
    obtain ⟨e, he, rfl⟩ := List.mem_map.1 hj
    exact Gph.okH_mono (Gph.okH_step.1 hi e he)) hi
/-- The automaton is valid just if the last of the program's tests succeed. -/
theorem okDw_last {xs : List Nod} {o : List Nat} (hv : Hav xs) (h0 : 0 < xs.length) (hn : xs.length ≤ 3000) (hf : (nodG xs 0).f = false) (ho : meetO (gphD xs).N xs.length (0, []) 0 = some (xs.length, o)) (hs : (gphD xs).okH 14 0 = true)
    (hu : ∀ i, i < xs.length → i = 0 ∨ (gphD xs).cnt i ≠ 0) : okDw xs = decide ((gphD xs).cnt 0 ≤ 3000) := by
  by_cases h : (gphD xs).cnt 0 ≤ 3000
  · rw [decide_eq_true h]
    exact okDw_yes ⟨⟨h0, hn, hv.1⟩, hf, hv.2, ⟨o, ho⟩, hs, fun i h1 h2 e => by
      rcases hu i h2 with h3 | h3
      · omega
      · exact h3 (by unfold Gph.cnt; rw [e]; rfl), h⟩
  · rw [decide_eq_false h]
    exact okDw_no fun h2 => h h2.few
theorem okDw_useless {xs : List Nod} {i : Nat} (hi : i < xs.length) (h0 : i ≠ 0) (hc : (gphD xs).cnt i = 0) : okDw xs = false :=
  okDw_no fun h => h.useful i (by omega) hi (List.length_eq_zero_iff.1 hc)
theorem sameKey_keyI {a b : Nat} (h : (keyI a).sameKey (keyI b) = true) : a = b := by
  unfold keyI Lit.sameKey at h
  simp at h
  omega

theorem row_first {B : Nat} {w : World} {v : Value} {n : Nat} {h : Nat → Nat} (hr : RowI B w v (lensN n h)) (h0 : 0 < n) : ∃ g c, v = .slice (some ⟨g, 0, none⟩) n c ∧ w.cell? ⟨g, 0, none⟩ = some (.int .i64 (h 0 : Int)) := by
  obtain ⟨a, c, e1, -, -, h3⟩ := own_form hr
  rw [lensN_len] at e1 h3
  obtain ⟨g, rfl, -, -⟩ := h3 h0
  refine ⟨g, c, e1, ?_⟩
  have h5 := hr
  unfold RowI at h5
  rw [e1, lensN_len] at h5
  rw [World.ownsRow.cellAt h5 0 (by omega)]
  simp [lensN_at h h0]

set_option maxRecDepth 100000 in
set_option maxHeartbeats 8000000 in
theorem implValidDawg_any {v : Value} {xs : List Nod} (W : World) (hT : TabW W) (hx : Nds W v xs) :
    Calls Tryd.prog 22 #[.agg #[v]] W fun e w' => e = .returned (.bool (okDw xs)) ∧ Below W.heap.size W w' := by
  have HB0 := Shh.mk (show Below W.heap.size W (W.alloc (.cells #[v] 29)) from (Below.refl _ _).alloc (Nat.le_refl _) _)
  have HT := Shh.mk (hT.on HB0.out)
  have HX := Shh.mk (hx.alloc (.cells #[v] 29))
  have HBD := Shh.mk (Blk.made W 29 #[v])
  obtain ⟨na, nc, rfl, hn1, hn2, -⟩ := hx
  clear hT
  by_cases h0 : xs.length = 0
  · have HR := Shh.mk (okDw_no (xs := xs) fun h => by have := h.shp.pos; omega)
    have he : ((xs.length : Int) == 0) = true := by simp [h0]
    clear h0
    go_enter Tryd.func22, Tryd.ntmps22
    go_wp2
    go_ret
    exact ⟨by rw [HR.out]; rfl, HB0.out⟩
  · have he : ((xs.length : Int) == 0) = false := beq_eq_false_iff_ne.2 (by omega)
    by_cases hbig : (3000 : Int) < (xs.length : Int)
    · have HR := Shh.mk (okDw_no (xs := xs) fun h => by have := h.shp.len; omega)
      go_enter Tryd.func22, Tryd.ntmps22
      go_wp2
      go_ret
      exact ⟨by rw [HR.out]; rfl, HB0.out⟩
    · have hn : xs.length ≤ 3000 := by omega
      have h0' : 0 < xs.length := by omega
      have HH := Shh.mk (haveDifferentNodes_any _ HT.out HX.out h0' hn)
      obtain ⟨ad, cd, e2, -, -, hnn⟩ := HX.out
      obtain ⟨bn, on, rfl, hbn, hcn⟩ := hnn h0'
      simp only [Value.slice.injEq] at e2
      obtain ⟨rfl, -, rfl⟩ := e2
      obtain ⟨n0, -⟩ := hcn 0 h0'
      simp only [Nat.zero_mul, Nat.add_zero] at n0
      obtain ⟨f, hf⟩ : ∃ f, (nodG xs 0).f = f := ⟨_, rfl⟩
      rw [hf] at n0
      have HF := Shh.mk hf
      clear hcn hnn hf
      cases f
      case true =>
        have HR := Shh.mk (okDw_no (xs := xs) fun h => by have := h.first; rw [HF.out] at this; cases this)
        go_enter Tryd.func22, Tryd.ntmps22
        go_wp2
        go_ret
        exact ⟨by rw [HR.out]; rfl, HB0.out⟩
      case false =>
        by_cases hv : Hav xs
        case neg =>
          have HR := Shh.mk (okDw_no (xs := xs) fun h => hv ⟨h.shp.node, h.differ⟩)
          have HV := Shh.mk hv
          clear hv
          go_enter Tryd.func22, Tryd.ntmps22
          go_wp2_with (go_at_call 67; refine HH.out.mono ?_; rintro e w2 ⟨b, rfl, hb, hbel⟩; obtain rfl : b = false := (by cases b; exact rfl; exact absurd (hb.1 rfl) HV.out); clear hb)
          go_ret
          exact ⟨by rw [HR.out]; rfl, HB0.out.trans (hbel.mono HB0.out.size)⟩
        case pos =>
          have HS := Shh.mk (show Shp xs from ⟨h0', hn, hv.1⟩)
          have HV := Shh.mk hv
          clear hv
          by_cases hord : ∃ o, meetO (gphD xs).N xs.length (0, []) 0 = some (xs.length, o)
          case neg =>
            have HR := Shh.mk (okDw_no (xs := xs) fun h => hord h.order)
            have HO := Shh.mk hord
            clear hord
            go_enter Tryd.func22, Tryd.ntmps22
            go_wp2_with (first
              | (go_at_call 67; refine HH.out.mono ?_; rintro e w2 ⟨b, rfl, hb, hbel⟩; obtain rfl : b = true := hb.2 HV.out; clear hb; have d2 : w2.cell? ⟨W.heap.size, 0, none⟩ = some (.slice (some ⟨bn, on, none⟩) xs.length nc) := (HBD.out.kept hbel (by simp)).cells 0)
              | (go_at_call 68; refine (orderUpward_any _ (HX.out.below hbel) HS.out).mono ?_; rintro e w3 ⟨vo, o, b, rfl, ho, hb3, hyes, hno⟩; obtain rfl : b = false := (by cases b; exact rfl; exact absurd ⟨o, (hyes rfl).2⟩ HO.out); clear hyes hno))
            go_ret
            exact ⟨by rw [HR.out]; rfl, (HB0.out.trans (hbel.mono HB0.out.size)).trans (hb3.mono (HB0.out.trans (hbel.mono HB0.out.size)).size)⟩
          case pos =>
            obtain ⟨o0, ho0⟩ := hord
            have HORD := Shh.mk (Ord.of ho0)
            have HO := Shh.mk ho0
            clear ho0
            by_cases hok : (gphD xs).okH 14 0 = true
            case neg =>
              have HR := Shh.mk (okDw_no (xs := xs) fun h => hok h.short)
              have HK := Shh.mk hok
              clear hok
              go_enter Tryd.func22, Tryd.ntmps22
              go_wp2_with (first
                | (go_at_call 67; refine HH.out.mono ?_; rintro e w2 ⟨b, rfl, hb, hbel⟩; obtain rfl : b = true := hb.2 HV.out; clear hb; have d2 : w2.cell? ⟨W.heap.size, 0, none⟩ = some (.slice (some ⟨bn, on, none⟩) xs.length nc) := (HBD.out.kept hbel (by simp)).cells 0)
                | (go_at_call 68; refine (orderUpward_any _ (HX.out.below hbel) HS.out).mono ?_; rintro e w3 ⟨vo, o, b, rfl, ho, hb3, hyes, hno⟩; obtain rfl : b = true := (by cases b; exact absurd HO.out (hno rfl _); exact rfl); obtain rfl : o = o0 := (by have h1 := (hyes rfl).2; rw [HO.out] at h1; simpa using h1.symm); clear hyes hno; have HBE := Shh.mk (hbel.trans (hb3.mono hbel.size)); have d3 : w3.cell? ⟨W.heap.size, 0, none⟩ = some (.slice (some ⟨bn, on, none⟩) xs.length nc) := (HBD.out.kept HBE.out (by simp)).cells 0)
                | (go_at_call 69; refine (lengthsUpward_any _ (HX.out.below HBE.out) HS.out ho HORD.out.topo HORD.out.nodup HORD.out.below).mono ?_; rintro e w4 ⟨vl, h, rfl, hr, hl, hb4⟩; obtain ⟨g, cc, rfl, hc0⟩ := row_first hr h0'; have h13 : (13 : Int) < (h 0 : Int) := (by have h9 : ¬ h 0 ≤ 13 := fun h8 => HK.out ((hl.short HS.out HORD.out).2 h8); omega); clear hr hl))
              go_ret
              exact ⟨by rw [HR.out]; rfl, (HB0.out.trans (HBE.out.mono HB0.out.size)).trans (hb4.mono (HB0.out.trans (HBE.out.mono HB0.out.size)).size)⟩
            case pos =>
              have HK := Shh.mk hok
              clear hok
              go_enter Tryd.func22, Tryd.ntmps22
              go_wp2_with (first
                | (go_at_call 67; refine HH.out.mono ?_; rintro e w2 ⟨b, rfl, hb, hbel⟩; obtain rfl : b = true := hb.2 HV.out; clear hb; have d2 : w2.cell? ⟨W.heap.size, 0, none⟩ = some (.slice (some ⟨bn, on, none⟩) xs.length nc) := (HBD.out.kept hbel (by simp)).cells 0)
                | (go_at_call 68; refine (orderUpward_any _ (HX.out.below hbel) HS.out).mono ?_; rintro e w3 ⟨vo, o, b, rfl, ho, hb3, hyes, hno⟩; obtain rfl : b = true := (by cases b; exact absurd HO.out (hno rfl _); exact rfl); obtain rfl : o = o0 := (by have h1 := (hyes rfl).2; rw [HO.out] at h1; simpa using h1.symm); clear hyes hno; have HBE := Shh.mk (hbel.trans (hb3.mono hbel.size)); have d3 : w3.cell? ⟨W.heap.size, 0, none⟩ = some (.slice (some ⟨bn, on, none⟩) xs.length nc) := (HBD.out.kept HBE.out (by simp)).cells 0)
                | (go_at_call 69; refine (lengthsUpward_any _ (HX.out.below HBE.out) HS.out ho HORD.out.topo HORD.out.nodup HORD.out.below).mono ?_; rintro e w4 ⟨vl, h, rfl, hr, hl, hb4⟩; obtain ⟨g, cc, rfl, hc0⟩ := row_first hr h0'; have h13 : ¬ (13 : Int) < (h 0 : Int) := (by have h9 := (hl.short HS.out HORD.out).1 HK.out; omega); have HL := Shh.mk hl; have HBF := Shh.mk (HBE.out.trans (hb4.mono HBE.out.size)); have d4 : w4.cell? ⟨W.heap.size, 0, none⟩ = some (.slice (some ⟨bn, on, none⟩) xs.length nc) := (HBD.out.kept HBF.out (by simp)).cells 0; clear hr hl)
                | (go_at_call 70; refine (countsFrom_any (rk := h) _ (HX.out.below HBF.out) HS.out (HORD.out.short_all HK.out) (HL.out.fall HORD.out) 0 h0').mono ?_; rintro e w5 ⟨b5, ks, D, rfl, hbb, hmap, hcm, h0k, hnd, hkn, hcl, hb5⟩)
                | (at_range; refine wpList_range_own _ rfl _ 75 rfl 2 2 lawI Tryd.underlying75 _ b5 ks.length D rfl hmap ?_; intro w6 hrg6 hg6 hs6))
              go_frame
              have HB5 := Shh.mk (HB0.out.trans ((HBF.out.trans (hb5.mono HBF.out.size)).mono HB0.out.size))
              have HB6 := Shh.mk (HB5.out.grown hg6 HB5.out.size (fun j hj => by cases hj))
              have HALL := Shh.mk (show ∀ i, i < xs.length → i ∈ ks from fun i hi => HORD.out.all (D := fun i => i ∈ ks) h0k hcl hi)
              have HCM := Shh.mk hcm
              have HKN := Shh.mk hkn
              clear hmap hcm hkn hcl hb5 hb4 hb3 hbel ho hnd HH d2 d3 d4 hc0 h13
              go_loopw [6, 7] (fun _ _ wr => ∃ (left : Lit → Bool) (cnt : Nat), wr.ranges Tryd.prog 2 (plainElem (H := Unit) Tryd.prog 2) b5 w5.heap.size ks.length D left cnt ∧ Below W.heap.size W wr ∧ Shh (∀ kl, left kl = true → Maps.has D kl = true) ∧ Shh (∀ j, j ∈ ks → left (keyI j) = false → j = 0 ∨ (gphD xs).cnt j ≠ 0))
                (fun _ _ wr => wr.rangeLeft b5 w5.heap.size)
              case atStart => exact ⟨_, _, hrg6, HB6.out, ⟨fun _ h => h⟩, ⟨fun j hj h => by rw [HCM.out.has, decide_eq_false_iff_not] at h; exact absurd hj h⟩⟩
              case round =>
                obtain ⟨left, cnt, hrg, hbw, hlh, hlk⟩ := hrel
                clear hrg6
                go_wp2_with (at_next; refine wpList_next_ranges_ii _ rfl _ rfl 2 2 .i64 .i64 lawI Tryd.underlying2 Tryd.underlying2 b5 w5.heap.size ks.length _ _ _ rfl hrg ?_ ?_)
                · intro _ hl0
                  have HFIN := Shh.mk (show okDw xs = decide (((gphD xs).cnt 0 : Int) ≤ 3000) from by
                    rw [okDw_last HV.out h0' hn HF.out HO.out HK.out (fun i hi => hlk.out i (HALL.out i hi) (hl0 _))]
                    rw [Bool.eq_iff_iff, decide_eq_true_eq, decide_eq_true_eq]
                    omega)
                  have HV0 := Shh.mk (HCM.out.val 0 h0k (.lit (.int .i64 0)))
                  have hkey : keyOf Tryd.prog 2 (.int .i64 0) = some (keyI 0) := keyOf_i64 (j := 0) (by omega)
                  have hown := hrg.owns
                  have HBW := Shh.mk hbw
                  obtain ⟨C, hC⟩ : ∃ C, (gphD xs).cnt 0 = C := ⟨_, rfl⟩
                  rw [hC] at HFIN HV0
                  clear hrg hlk hlh hl0 hC
                  go_wp2_with (at_lookup; refine wpList_lookup_own_int _ rfl _ _ 75 rfl 2 2 .i64 lawI Tryd.underlying75 Tryd.underlying2 (zeroI _) b5 ks.length D rfl hown _ _ rfl hkey ?_; intro cc hat _; obtain rfl : cc = (C : Int) := (by have h9 := hat.symm.trans HV0.out; exact lit_int_inj h9); clear hat)
                  go_ret
                  exact ⟨by rw [HFIN.out]; rfl, HBW.out⟩
                · intro x c w1 cnt1 hwx hwc hlx hat hrg1 hlt hg1 hs1 hen
                  obtain ⟨j, hj, hxj⟩ := HCM.out.only _ (hlh.out _ hlx)
                  obtain rfl : x = (j : Int) := by unfold keyI at hxj; simpa using hxj
                  have hcj := lit_int_inj ((hat (.lit (.int .i64 0))).symm.trans (HCM.out.val j hj (.lit (.int .i64 0))))
                  have hbw1 := hbw.grown hg1 hbw.size (fun k hk => by cases hk; exact HB5.out.size)
                  have HLH1 := Shh.mk (show ∀ kl, (fun z => left z && !z.sameKey (.int .i64 (j : Int))) kl = true → Maps.has D kl = true from fun kl h => hlh.out kl (by rw [Bool.and_eq_true] at h; exact h.1))
                  have HLK1 := Shh.mk (show (j = 0 ∨ (gphD xs).cnt j ≠ 0) → ∀ m, m ∈ ks → (fun z => left z && !z.sameKey (.int .i64 (j : Int))) (keyI m) = false → m = 0 ∨ (gphD xs).cnt m ≠ 0 from fun h0 m hm h => by
                    rw [Bool.and_eq_false_iff] at h
                    rcases h with h | h
                    · exact hlk.out m hm h
                    · have := sameKey_keyI (a := m) (b := j) (by rw [← hxj]; simpa using h)
                      subst this
                      exact h0)
                  have HEN := Shh.mk hen
                  by_cases hj0 : j = 0
                  · have e1 : ((j : Int) != 0) = false := by rw [hj0]; rfl
                    have HJ := Shh.mk hj0
                    clear hlh hlk hj0
                    go_wp2_with fail
                    all_goals first | exact absurd HJ.out (by assumption) | skip
                    go_roundw
                    case rel => exact ⟨_, cnt1, hrg1, hbw1, HLH1, ⟨HLK1.out (.inl HJ.out)⟩⟩
                    case measure => rw [hrg1.left_eq, hrg.left_eq]; exact hlt
                  · have e1 : ((j : Int) != 0) = true := bne_iff_ne.2 (by omega)
                    by_cases hc0 : (gphD xs).cnt j = 0
                    · have e2 : (c == 0) = true := by rw [hcj, hc0]; rfl
                      have HR := Shh.mk (okDw_useless (HKN.out j hj) hj0 hc0)
                      clear hlh hlk hj0 hc0 hcj
                      go_wp2_with fail
                      go_ret
                      exact ⟨by rw [HR.out]; rfl, hbw1⟩
                    · have e2 : (c == 0) = false := beq_eq_false_iff_ne.2 (by omega)
                      have HC := Shh.mk hc0
                      clear hlh hlk hj0 hc0 hcj
                      go_wp2_with fail
                      go_roundw
                      case rel => exact ⟨_, cnt1, hrg1, hbw1, HLH1, ⟨HLK1.out (.inr HC.out)⟩⟩
                      case measure => rw [hrg1.left_eq, hrg.left_eq]; exact hlt
end Go.Proofs.YtokfkofclpajfaaDoor

namespace Go.Proofs.YtokfkofclpajfaaDoor
open Go.RowKit

theorem tabW_g : Tryd.prog.globalNamed "internal/strconv.uint64pow10" = some 1 := by kernel_rfl
theorem tabW_type : (Tryd.prog.globals[1]?).map (·.type) = some 175 := by kernel_rfl

set_option maxHeartbeats 1000000 in
theorem specValidDawg_any {vd : Value} {xs : List Nod} (W : World) (hx : Nds W vd xs) : Calls Tryd.prog 20 #[.agg #[vd]] W fun e w' => e = .returned (.bool (okDw xs)) ∧ Below W.heap.size W w' := by
  have H := Shh.mk (l06Ok_any (W.alloc (.cells #[vd] 29)) (Blk.made W 29 #[vd]) (hx.alloc _))
  have HB := Shh.mk (show Below W.heap.size W (W.alloc (.cells #[vd] 29)) from (Below.refl _ _).alloc (Nat.le_refl _) _)
  clear hx
  go_enter Tryd.func20, Tryd.ntmps20
  go_wp2_with (go_at_call 65; refine (H.out).mono ?_; rintro e w2 ⟨rfl, hb2⟩)
  go_ret
  exact ⟨rfl, HB.out.trans (hb2.mono HB.out.size)⟩
end Go.Proofs.YtokfkofclpajfaaDoor
