/-
  All ways to place a word with tiles: the model's.
-/
import Derived.Test.YtilagppmljpclaaJ2
import Derived.Test.YtilagppmljpclaaO1
import Derived.IntWalk
namespace Go.Proofs.Ytilagppmljpclaa
open Go.RowKit

theorem take_hitJ {A : List UInt8} {c : UInt8} (h : c ∈ A) (w : World) (ha : A.length ≤ 1048576) :
    Calls Try.prog 117 #[.string (txt A), .string (txt [c])] w fun e w' => e = .returned (.tuple #[.string (txt (takeL A [c]).1), .bool true]) ∧ Below w.heap.size w w' := by
  have := l03Take_any (txt A) (txt [c]) w (by rw [txt_size]; exact ha) (by rw [txt_size]; simp)
  rw [txt_list, txt_list, take1_hit h] at this
  exact this
theorem take_missJ {A : List UInt8} {c : UInt8} (h : c ∉ A) (w : World) (ha : A.length ≤ 1048576) :
    Calls Try.prog 117 #[.string (txt A), .string (txt [c])] w fun e w' => e = .returned (.tuple #[.string (txt A), .bool false]) ∧ Below w.heap.size w w' := by
  have := l03Take_any (txt A) (txt [c]) w (by rw [txt_size]; exact ha) (by rw [txt_size]; simp)
  rw [txt_list, txt_list, take1_miss h] at this
  exact this
theorem OwnS.blockJ {B : Nat} {w : World} {v : Value} {ss : List ByteArray} (h : OwnS B w v ss) : ∀ k, v.ownBlock = some k → B ≤ k ∧ k < w.heap.size := fun k hk => World.ownsRow.lt h k hk
/-- A row of the call's own in world w whose block lies outside of a stretch of the heap. -/
structure Out (w0 w : World) (lo hi : Nat) (v : Value) (ss : List ByteArray) : Prop where
  own : OwnS w0.heap.size w v ss
  far : ∀ g, v.ownBlock = some g → g < lo ∨ hi ≤ g
  below : Below w0.heap.size w0 w
  size : hi ≤ w.heap.size
theorem Out.append {w0 w w' : World} {lo hi g n cap : Nat} {v : Value} {ss : List ByteArray} {c : ByteArray} (h : Out w0 w lo hi v ss)
    (ho : OwnS w0.heap.size w' (.slice (some ⟨g, 0, none⟩) n cap) (ss ++ [c])) (hk : Apart (fun b => v.ownBlock = some b) w w') (hl : v.ownBlock = some g ∨ w.heap.size ≤ g) : Out w0 w' lo hi (.slice (some ⟨g, 0, none⟩) n cap) (ss ++ [c]) := by
  refine ⟨ho, fun j hj => ?_, h.below.trans (hk.below (fun i hi hb => ?_) h.below.size), Nat.le_trans h.size hk.size⟩
  · simp [Value.ownBlock] at hj
    subst hj
    rcases hl with hl | hl
    · exact h.far _ hl
    · exact .inr (Nat.le_trans h.size hl)
  · have := OwnS.blockJ h.own i hb
    omega
theorem Out.keep {w0 w w' : World} {lo hi B : Nat} {v u : Value} {ss rs : List ByteArray} (h : Out w0 w lo hi v ss) (hr : OwnS B w u rs) (hu : ∀ g, u.ownBlock = some g → lo ≤ g ∧ g < hi) (hk : Apart (fun b => v.ownBlock = some b) w w') : OwnS B w' u rs :=
  hr.apart hk fun k hk hv => by
    have h1 := hu k hk
    have h2 := h.far k hv
    omega
theorem Out.quiet {w0 w w' : World} {lo hi : Nat} {v : Value} {ss : List ByteArray} (h : Out w0 w lo hi v ss) (hb : Below w.heap.size w w') : Out w0 w' lo hi v ss :=
  ⟨OwnS.kept h.own hb, h.far, h.below.trans (hb.mono h.below.size), Nat.le_trans h.size hb.size⟩
/-- A row stands wholly below what is laid later. -/
theorem Out.on {w0 w w' : World} {v : Value} {ss : List ByteArray} (h : OwnS w0.heap.size w v ss) (hb : Below w0.heap.size w0 w) (hb2 : Below w.heap.size w w') : Out w0 w' w.heap.size w'.heap.size v ss :=
  ⟨OwnS.kept h hb2, fun g hg => .inl (h.blockJ g hg).2, hb.trans (hb2.mono hb.size), Nat.le_refl _⟩

set_option maxRecDepth 100000 in
set_option maxHeartbeats 4000000 in
theorem l03Ways_any : ∀ (l : List UInt8), l.length ≤ 12 → (∀ c ∈ l, smallB (c.toNat : Int) = true) → ∀ (s : ByteArray), s.data.toList = l → ∀ (A : List UInt8) (w : World), A.length ≤ 1048576 →
    Calls Try.prog 59 #[.string (txt A), .string s] w fun e w' => ∃ v, e = .returned v ∧ OwnS w.heap.size w' v ((waysL (cnt A) l).map txt) ∧ Below w.heap.size w w' := by
  intro l
  induction l with
  | nil =>
    intro _ _ s hs A w hA
    have h0 : s.size = 0 := by rw [← len_list, hs]; rfl
    have hE := empty_yes h0
    have HO := Shh.mk (show OwnS w.heap.size (w.alloc (.cells #[.string ByteArray.empty] 9)) (.slice (some ⟨w.heap.size, 0, none⟩) 1 1) [ByteArray.empty] from World.ownsRow_lit (size := 1) w #[.string ByteArray.empty] 1 (Nat.le_refl _) (by unfold maxLen; omega) rfl)
    clear hs
    go_enter Try.func59, Try.ntmps59
    go_wp2_with fail
    go_ret
    exact ⟨_, rfl, HO.out, (Below.refl _ _).alloc (Nat.le_refl _) _⟩
  | cons c l ih =>
    intro hl hsm s hs A w hA
    have hsz : s.size = l.length + 1 := by rw [← len_list, hs]; rfl
    have h0 : 0 < s.size := by omega
    have h1s : (1 : Int) ≤ (s.size : Int) := by omega
    have hE := empty_no h0
    have hll : l.length ≤ 11 := by simpa using hl
    have hcs := hsm c List.mem_cons_self
    have IH := Shh.mk (fun A w hA => ih (by omega) (fun x hx => hsm x (List.mem_cons_of_mem _ hx)) (txt l) (txt_list l) A w hA)
    have hcap := cap_nat hcs
    have hcb := smallB_iff.1 hcs
    have hkk := small_kind hcs
    have hct := small_tile hcs
    have hat := at_head hs h0
    have hrest := ext_rest hs (n := s.size) (Nat.le_refl _)
    have hhead := ext_head hs
    have hw1 : IntKind.u8.wrap ((c.toNat : Int) - 97) = (c.toNat : Int) - 97 := by rw [IntKind.wrap_u8]; omega
    have hw2 : IntKind.u8.wrap ((c.toNat : Int) - 97 + 65) = ((capU c).toNat : Int) := by rw [IntKind.wrap_u8]; omega
    have hcv := fun W => conv_oneD W (capU c)
    have hcv2 := fun W => conv_one W (capU c)
    have HW := Shh.mk (ways_cons (cnt A) c l)
    have HKD := Shh.mk (fun x (hx : x ∈ l) => (small_kind (hsm x (List.mem_cons_of_mem _ hx))).2.1)
    have h63 : ((63 : UInt8) ∈ A) ↔ cnt A 0 ≠ 0 := mem_cnt (c := 63) (by decide) A
    have h63k : kindN 63 = 0 := by decide
    have hmc := mem_cnt hct A
    have HE := Shh.mk (show OwnS w.heap.size (w.alloc (.cells #[] 9)) (.slice (some ⟨w.heap.size, 0, none⟩) 0 0) [] from World.ownsRow_lit (size := 1) w #[] 0 (Nat.le_refl _) (by unfold maxLen; omega) rfl)
    have HB0 := Shh.mk ((Below.refl w.heap.size w).alloc (Nat.le_refl _) (.cells #[] 9))
    obtain ⟨R1, hR1⟩ : ∃ R, waysL (decK (cnt A) 0) l = R := ⟨_, rfl⟩
    obtain ⟨R2, hR2⟩ : ∃ R, waysL (decK (cnt A) (kindN c)) l = R := ⟨_, rfl⟩
    have hp11 : 2 ^ l.length ≤ 2048 := Nat.pow_le_pow_right (n := 2) (by decide) hll
    have hl1 : R1.length ≤ 2048 := by rw [← hR1]; exact Nat.le_trans (waysL_len l _) hp11
    have hl2 : R2.length ≤ 2048 := by rw [← hR2]; exact Nat.le_trans (waysL_len l _) hp11
    have HS1 := Shh.mk (fun k (hk : k < R1.length) => headT_bytes (R := R1) (n := l.length) (fun x hx => by rw [← hR1] at hx; exact waysL_size l _ x hx) hk)
    have HS2 := Shh.mk (fun k (hk : k < R2.length) => headT_bytes (R := R2) (n := l.length) (fun x hx => by rw [← hR2] at hx; exact waysL_size l _ x hx) hk)
    rw [hR1, hR2] at HW
    obtain ⟨C, hC⟩ : ∃ C, capU c = C := ⟨_, rfl⟩
    rw [hC] at HW hcap hw2 hcv hcv2
    have hzc : (txt [C]).size = 1 := txt_size _
    have hzs : (txt [c]).size = 1 := txt_size _
    have HTC := Shh.mk (fun k (hk : k < R1.length) => headT_take (c := C) hk)
    have HTS := Shh.mk (fun k (hk : k < R2.length) => headT_take (c := c) hk)
    obtain ⟨E, hE1⟩ : ∃ E, txt [C] = E := ⟨_, rfl⟩
    rw [hE1] at hzc hcv hcv2 HTC
    obtain ⟨D, hE2⟩ : ∃ D, txt [c] = D := ⟨_, rfl⟩
    rw [hE2] at hzs hhead HTS
    have HD := Shh.mk hE2
    have HZ := Shh.mk hsz
    clear hs ih hsm hcs hsz hp11 hC hkk hcb hcap hE1 hE2
    by_cases hb0 : (63 : UInt8) ∈ A
    · have HM := Shh.mk hb0
      have hz := h63.1 hb0
      have hA1 := take1_len 63 A
      have HXS := Shh.mk (show waysL (cnt (takeL A [63]).1) l = R1 from (waysL_congr l (fun j hj => by rw [← h63k]; exact take_dec (c := 63) (by decide) hb0 j hj) HKD.out).trans hR1)
      rw [if_neg hz] at HW
      clear hz hb0 hR1
      go_enter Try.func59, Try.ntmps59
      go_wp2_with fail
      refine (take_hitJ HM.out _ hA).mono ?_
      rintro e w1 ⟨rfl, hb1⟩
      have HO1 := Shh.mk (OwnS.kept HE.out hb1)
      have HB1 := Shh.mk (HB0.out.trans (hb1.mono HB0.out.size))
      clear hb1
      go_wp2_with fail
      try rw [hrest]
      refine (IH.out _ _ (by omega)).mono ?_
      rw [HXS.out]
      rintro e w2 ⟨v2, rfl, ho2, hb2⟩
      obtain ⟨a2, c2, rfl, h21, h22, h23⟩ := own_form ho2
      have HF2 := Shh.mk ho2.blockJ
      have HO2 := Shh.mk (Out.on HO1.out HB1.out hb2)
      have HR2 := Shh.mk ho2
      have hln : (R1.map txt).length = R1.length := List.length_map _
      rw [hln] at h21 h23 ⊢
      have H23 := Shh.mk h23
      clear ho2 hb2 h23 hln
      go_wp2
      go_loopw [5, 10] (fun o i wr => ∃ k : Nat, k ≤ R1.length ∧ i = .int .i64 k ∧ Shh (Out w wr w1.heap.size w2.heap.size o (headT C (R1.take k))) ∧ Shh (OwnS w1.heap.size wr (.slice a2 R1.length c2) (R1.map txt))) (fun _ i _ => R1.length - (intOf i).toNat)
      case atStart => exact ⟨0, Nat.zero_le _, rfl, HO2, by first | exact HR2 | (rw [List.length_map] at HR2; exact HR2)⟩
      case round =>
        obtain ⟨k, hk, rfl, ho, hr⟩ := hrel
        by_cases hlt : k < R1.length
        · obtain ⟨g2, rfl, -, hg2⟩ := H23.out (by omega)
          have ck : wr.cell? ⟨g2, k, none⟩ = some (.string (strAt (R1.map txt) k)) := own_strAt hr.out (by rw [List.length_map]; exact hlt)
          have hg3 := (hr.out.blockJ g2 rfl).2
          have hst := HTC.out k hlt
          have hsk := HS1.out k hlt
          obtain ⟨x, hx⟩ : ∃ x, strAt (R1.map txt) k = x := ⟨_, rfl⟩
          rw [hx] at ck hst hsk
          have HST := Shh.mk hst
          have hxl : ¬ 9223372036854775807 < E.size + x.size := by omega
          obtain ⟨oa, oc, rfl, ho1, ho2, ho3⟩ := own_form ho.out.own
          obtain ⟨X, hX⟩ : ∃ X, headT C (R1.take k) = X := ⟨_, rfl⟩
          have hXl : X.length ≤ 2048 := by rw [← hX, headT_len, List.length_take]; omega
          rw [hX] at HST ho ho1 ho3 ⊢
          have HK := Shh.mk (fun w' (hb : Below wr.heap.size wr w') => (hb.cell (p := ⟨g2, k, none⟩) hg3).trans ck)
          clear hst hx hX hsk hzc hzs
          have hkc : (k : Int) < (R1.length : Int) := by omega
          have hk0 : (0 : Int) ≤ (k : Int) := by omega
          have hB1 := ho.out.below.size
          go_wp2_with fail
          go_region_law (first | (refine step_appendD (by rfl) _ _ (by rfl) _ X _ (by rfl) (by rfl) (by simp) ho.out.own (by omega) (by omega) (by repeat' first | exact Below.refl _ _ | apply Below.drew | apply below_al) ?_; intro g4 c4 w4 ho4 hk4 hl4))
          all_goals
            have HO4 := Shh.mk (ho.out.append ho4 hk4 hl4)
            have HR4 := Shh.mk (ho.out.keep hr.out HF2.out hk4)
            go_wp2
            go_roundw
            case rel => exact ⟨k + 1, by omega, by go_num, by rw [HST.out]; exact HO4, HR4⟩
            case measure => simp [intOf]; omega
        · obtain rfl : k = R1.length := by omega
          obtain ⟨wq, rfl⟩ : ∃ x, wr = x := ⟨_, rfl⟩
          have hXS : (headT C R1).length ≤ 2048 := by rw [headT_len]; exact hl1
          have ho := ho.out
          rw [headT_all] at ho
          have HBX := Shh.mk ho.below
          have HOX := Shh.mk ho.own
          obtain ⟨oa, oc, rfl, ho1, ho2, ho3⟩ := own_form ho.own
          obtain ⟨XS, hX⟩ : ∃ X, headT C R1 = X := ⟨_, rfl⟩
          rw [hX] at HOX hXS HW ho1 ho3 ⊢
          clear hX hr ho ho3 HR2 HF2 H23 HO2 hlt hk HXS hcv hcv2 hzc HM hA1 HS1 HTC hw1 hw2
          by_cases hb2 : c ∈ A
          · have HM2 := Shh.mk hb2
            have hA2 := take1_len c A
            have hz2 := hmc.1 hb2
            have HXS2 := Shh.mk (show waysL (cnt (takeL A [c]).1) l = R2 from (waysL_congr l (fun j hj => take_dec hct hb2 j hj) HKD.out).trans hR2)
            rw [if_neg hz2] at HW
            clear hz2 hb2 hR2 hmc h63
            go_wp2_with fail
            try rw [hhead]
            rw [← HD.out]
            refine (take_hitJ HM2.out _ hA).mono ?_
            rintro e w3 ⟨rfl, hb3⟩
            have HO3 := Shh.mk (OwnS.kept HOX.out hb3)
            have HB3 := Shh.mk (HBX.out.trans (hb3.mono HBX.out.size))
            clear hb3 HOX HBX
            go_wp2_with fail
            try rw [hrest]
            refine (IH.out _ _ (by omega)).mono ?_
            rw [HXS2.out]
            rintro e w4 ⟨v4, rfl, ho4, hb4⟩
            obtain ⟨a4, c4, rfl, h41, h42, h43⟩ := own_form ho4
            have HF4 := Shh.mk ho4.blockJ
            have HO4 := Shh.mk (Out.on HO3.out HB3.out hb4)
            have HR4 := Shh.mk ho4
            have hln : (R2.map txt).length = R2.length := List.length_map _
            rw [hln] at h41 h43 HR4 HF4 ⊢
            have H43 := Shh.mk h43
            clear ho4 hb4 h43 hln HO3 HB3
            go_wp2
            go_loopw [5, 12] (fun o i wr => ∃ k : Nat, k ≤ R2.length ∧ i = .int .i64 k ∧ Shh (Out w wr w3.heap.size w4.heap.size o (XS ++ headT c (R2.take k))) ∧ Shh (OwnS w3.heap.size wr (.slice a4 R2.length c4) (R2.map txt))) (fun _ i _ => R2.length - (intOf i).toNat)
            case atStart => exact ⟨0, Nat.zero_le _, rfl, by rw [List.take_zero]; unfold headT; rw [List.map_nil, List.append_nil]; exact HO4, HR4⟩
            case round =>
              obtain ⟨k, hk, rfl, ho, hr⟩ := hrel
              obtain ⟨Y, hY⟩ : ∃ Y, XS ++ headT c (R2.take k) = Y := ⟨_, rfl⟩
              have hYl : Y.length ≤ 5000 := by rw [← hY, List.length_append, headT_len, List.length_take]; omega
              by_cases hlt : k < R2.length
              · obtain ⟨g4, rfl, -, hg4⟩ := H43.out (by omega)
                have ck : wr.cell? ⟨g4, k, none⟩ = some (.string (strAt (R2.map txt) k)) := own_strAt hr.out (by rw [List.length_map]; exact hlt)
                have hst := HTS.out k hlt
                have hsk := HS2.out k hlt
                obtain ⟨x, hx⟩ : ∃ x, strAt (R2.map txt) k = x := ⟨_, rfl⟩
                rw [hx] at ck hst hsk
                have HST := Shh.mk (show XS ++ headT c (R2.take (k + 1)) = Y ++ [D ++ x] by rw [hst, ← List.append_assoc, hY])
                have hxl : ¬ 9223372036854775807 < D.size + x.size := by omega
                rw [hY] at ho
                obtain ⟨oa2, oc2, rfl, hq1, hq2, -⟩ := own_form ho.out.own
                clear hst hx hsk hzs hY
                have hkc : (k : Int) < (R2.length : Int) := by omega
                have hk0 : (0 : Int) ≤ (k : Int) := by omega
                have hB1 := ho.out.below.size
                go_wp2_with fail
                go_region_law (first | (refine step_appendD (by rfl) _ _ (by rfl) _ Y _ (by rfl) (by rfl) (by simp) ho.out.own (by omega) (by omega) (by repeat' first | exact Below.refl _ _ | apply Below.drew | apply below_al) ?_; intro g5 c5 w5 ho5 hk5 hl5) | (refine step_appendJ (by rfl) _ _ (by rfl) _ Y _ (by rfl) (by rfl) ho.out.own (by omega) (by omega) ?_; intro g5 c5 w5 ho5 hk5 hl5))
                all_goals
                  have HO5 := Shh.mk (ho.out.append ho5 hk5 hl5)
                  have HR5 := Shh.mk (ho.out.keep hr.out HF4.out hk5)
                  go_wp2
                  go_roundw
                  case rel => exact ⟨k + 1, by omega, by go_num, by rw [HST.out]; exact HO5, HR5⟩
                  case measure => simp [intOf]; omega
              · obtain rfl : k = R2.length := by omega
                rw [headT_all] at hY
                rw [headT_all] at ho
                rw [← HW.out] at hY
                rw [← HW.out] at ho
                have ho := ho.out
                have HF := Shh.mk ho.own
                have HFB := Shh.mk ho.below
                obtain ⟨oa2, oc2, rfl, hq1, hq2, -⟩ := own_form ho.own
                rw [hY] at hq1 ⊢
                clear ho hr
                go_wp2
                go_ret
                exact ⟨_, rfl, by have h := HF.out; rw [hY] at h ⊢; exact h, HFB.out⟩
          · have HM2 := Shh.mk hb2
            have hz2 : cnt A (kindN c) = 0 := by
              rcases Nat.eq_zero_or_pos (cnt A (kindN c)) with h | h
              · exact h
              · exact absurd (hmc.2 (by omega)) hb2
            rw [if_pos hz2, List.append_nil] at HW
            clear hz2 hb2 hR2 hmc h63
            go_wp2_with fail
            try rw [hhead]
            rw [← HD.out]
            refine (take_missJ HM2.out _ hA).mono ?_
            rintro e w3 ⟨rfl, hb3⟩
            have HO3 := Shh.mk (OwnS.kept HOX.out hb3)
            have HB3 := Shh.mk (HBX.out.trans (hb3.mono HBX.out.size))
            clear hb3
            go_wp2
            go_ret
            exact ⟨_, rfl, by rw [HW.out]; exact HO3.out, HB3.out⟩
    · have HM := Shh.mk hb0
      have hz : cnt A 0 = 0 := by
        rcases Nat.eq_zero_or_pos (cnt A 0) with h | h
        · exact h
        · exact absurd (h63.2 (by omega)) hb0
      rw [if_pos hz] at HW
      clear hz hb0 hR1
      go_enter Try.func59, Try.ntmps59
      go_wp2_with fail
      refine (take_missJ HM.out _ hA).mono ?_
      rintro e wq ⟨rfl, hb1⟩
      have HOX := Shh.mk (OwnS.kept HE.out hb1)
      have HBX := Shh.mk (HB0.out.trans (hb1.mono HB0.out.size))
      have hXS : ([] : List ByteArray).length ≤ 2048 := by decide
      obtain ⟨XS, hX⟩ : ∃ X : List ByteArray, X = [] := ⟨_, rfl⟩
      replace HW := Shh.mk (show (waysL (cnt A) (c :: l)).map txt = XS ++ (if cnt A (kindN c) = 0 then [] else headT c R2) by rw [hX]; exact HW.out)
      rw [← hX] at HOX hXS
      clear hb1 hX hcv hcv2 hzc HM HS1 HTC hw1 hw2
      by_cases hb2 : c ∈ A
      · have HM2 := Shh.mk hb2
        have hA2 := take1_len c A
        have hz2 := hmc.1 hb2
        have HXS2 := Shh.mk (show waysL (cnt (takeL A [c]).1) l = R2 from (waysL_congr l (fun j hj => take_dec hct hb2 j hj) HKD.out).trans hR2)
        rw [if_neg hz2] at HW
        clear hz2 hb2 hR2 hmc h63
        go_wp2_with fail
        try rw [hhead]
        rw [← HD.out]
        refine (take_hitJ HM2.out _ hA).mono ?_
        rintro e w3 ⟨rfl, hb3⟩
        have HO3 := Shh.mk (OwnS.kept HOX.out hb3)
        have HB3 := Shh.mk (HBX.out.trans (hb3.mono HBX.out.size))
        clear hb3 HOX HBX
        go_wp2_with fail
        try rw [hrest]
        refine (IH.out _ _ (by omega)).mono ?_
        rw [HXS2.out]
        rintro e w4 ⟨v4, rfl, ho4, hb4⟩
        obtain ⟨a4, c4, rfl, h41, h42, h43⟩ := own_form ho4
        have HF4 := Shh.mk ho4.blockJ
        have HO4 := Shh.mk (Out.on HO3.out HB3.out hb4)
        have HR4 := Shh.mk ho4
        have hln : (R2.map txt).length = R2.length := List.length_map _
        rw [hln] at h41 h43 HR4 HF4 ⊢
        have H43 := Shh.mk h43
        clear ho4 hb4 h43 hln HO3 HB3
        go_wp2
        go_loopw [5, 12] (fun o i wr => ∃ k : Nat, k ≤ R2.length ∧ i = .int .i64 k ∧ Shh (Out w wr w3.heap.size w4.heap.size o (XS ++ headT c (R2.take k))) ∧ Shh (OwnS w3.heap.size wr (.slice a4 R2.length c4) (R2.map txt))) (fun _ i _ => R2.length - (intOf i).toNat)
        case atStart => exact ⟨0, Nat.zero_le _, rfl, by rw [List.take_zero]; unfold headT; rw [List.map_nil, List.append_nil]; exact HO4, HR4⟩
        case round =>
          obtain ⟨k, hk, rfl, ho, hr⟩ := hrel
          obtain ⟨Y, hY⟩ : ∃ Y, XS ++ headT c (R2.take k) = Y := ⟨_, rfl⟩
          have hYl : Y.length ≤ 5000 := by rw [← hY, List.length_append, headT_len, List.length_take]; omega
          by_cases hlt : k < R2.length
          · obtain ⟨g4, rfl, -, hg4⟩ := H43.out (by omega)
            have ck : wr.cell? ⟨g4, k, none⟩ = some (.string (strAt (R2.map txt) k)) := own_strAt hr.out (by rw [List.length_map]; exact hlt)
            have hst := HTS.out k hlt
            have hsk := HS2.out k hlt
            obtain ⟨x, hx⟩ : ∃ x, strAt (R2.map txt) k = x := ⟨_, rfl⟩
            rw [hx] at ck hst hsk
            have HST := Shh.mk (show XS ++ headT c (R2.take (k + 1)) = Y ++ [D ++ x] by rw [hst, ← List.append_assoc, hY])
            have hxl : ¬ 9223372036854775807 < D.size + x.size := by omega
            rw [hY] at ho
            obtain ⟨oa2, oc2, rfl, hq1, hq2, -⟩ := own_form ho.out.own
            clear hst hx hsk hzs hY
            have hkc : (k : Int) < (R2.length : Int) := by omega
            have hk0 : (0 : Int) ≤ (k : Int) := by omega
            have hB1 := ho.out.below.size
            go_wp2_with fail
            go_region_law (first | (refine step_appendD (by rfl) _ _ (by rfl) _ Y _ (by rfl) (by rfl) (by simp) ho.out.own (by omega) (by omega) (by repeat' first | exact Below.refl _ _ | apply Below.drew | apply below_al) ?_; intro g5 c5 w5 ho5 hk5 hl5) | (refine step_appendJ (by rfl) _ _ (by rfl) _ Y _ (by rfl) (by rfl) ho.out.own (by omega) (by omega) ?_; intro g5 c5 w5 ho5 hk5 hl5))
            all_goals
              have HO5 := Shh.mk (ho.out.append ho5 hk5 hl5)
              have HR5 := Shh.mk (ho.out.keep hr.out HF4.out hk5)
              go_wp2
              go_roundw
              case rel => exact ⟨k + 1, by omega, by go_num, by rw [HST.out]; exact HO5, HR5⟩
              case measure => simp [intOf]; omega
          · obtain rfl : k = R2.length := by omega
            rw [headT_all] at hY
            rw [headT_all] at ho
            rw [← HW.out] at hY
            rw [← HW.out] at ho
            have ho := ho.out
            have HF := Shh.mk ho.own
            have HFB := Shh.mk ho.below
            obtain ⟨oa2, oc2, rfl, hq1, hq2, -⟩ := own_form ho.own
            rw [hY] at hq1 ⊢
            clear ho hr
            go_wp2
            go_ret
            exact ⟨_, rfl, by have h := HF.out; rw [hY] at h ⊢; exact h, HFB.out⟩
      · have HM2 := Shh.mk hb2
        have hz2 : cnt A (kindN c) = 0 := by
          rcases Nat.eq_zero_or_pos (cnt A (kindN c)) with h | h
          · exact h
          · exact absurd (hmc.2 (by omega)) hb2
        rw [if_pos hz2, List.append_nil] at HW
        clear hz2 hb2 hR2 hmc h63
        go_wp2_with fail
        try rw [hhead]
        rw [← HD.out]
        refine (take_missJ HM2.out _ hA).mono ?_
        rintro e w3 ⟨rfl, hb3⟩
        have HO3 := Shh.mk (OwnS.kept HOX.out hb3)
        have HB3 := Shh.mk (HBX.out.trans (hb3.mono HBX.out.size))
        clear hb3
        go_wp2
        go_ret
        exact ⟨_, rfl, by rw [HW.out]; exact HO3.out, HB3.out⟩
end Go.Proofs.Ytilagppmljpclaa
