/-
  The law of sub-racks is true of whatever bytes a rack is drawn from: a rack has as many sub-racks as there are ways to keep some of each kind of tile, and what is left is one of them, too.
-/
import Derived.Test.YtilagppmljpclaaJE
namespace Go.Proofs.Ytilagppmljpclaa
open Go.ChangeShapes Go.WideShapes Go.ChangeAt Go.RowKit Go.Joins
open Go.ChangeMaps (open_string shut_string)

theorem take_as {s y r : ByteArray} (h : takeOut s.data.toList y.data.toList = (r.data.toList, 0)) (w : World) (hs : s.size ≤ 6) (hy : y.size ≤ 6) :
    Calls Try.prog 13 #[.string s, .string y] w fun e w' => e = .returned (.tuple #[.string r, .int .i64 0]) ∧ Below w.heap.size w w' := by
  have := implTakeTiles_any s y w (by omega) (by omega)
  rw [h] at this
  refine this.mono ?_
  rintro e w' ⟨rfl, hb⟩
  unfold ret2
  rw [txt_of]
  exact ⟨rfl, hb⟩
set_option maxRecDepth 100000 in
set_option maxHeartbeats 16000000 in
theorem FnSubRacks_walk (w : World) (v : Value) (zs : List Int) (hz : Ints .u8 w v zs) :
    Calls Try.prog 3 #[v] w fun e w' => e = .returned (.bool true) ∧ Below w.heap.size w w' := by
  have HZ := Shh.mk hz
  clear hz
  by_cases hlong : 3000 < zs.length
  · have HL := hid (decide_eq_true hlong)
    clear hlong
    go_enter Try.func3, Try.ntmps3
    go_wp2_with fail
    refine (a2Long_any w v zs HZ.out).mono ?_
    rw [HL.out]
    rintro e w1 ⟨rfl, rfl⟩
    go_wp2
    go_ret
    exact ⟨rfl, Below.refl _ _⟩
  · have HL := hid (decide_eq_false hlong)
    clear hlong
    go_enter Try.func3, Try.ntmps3
    go_wp2_with fail
    refine (a2Long_any w v zs HZ.out).mono ?_
    rw [HL.out]
    rintro e w0 ⟨rfl, rfl⟩
    go_wp2_with fail
    refine (a2Rack_any w v zs HZ.out).mono ?_
    rintro e w1 ⟨s, M, T, hR, rfl, hb1⟩
    have R := Shh.mk hR
    have HB1 := Shh.mk hb1
    have hs6 := hR.size
    have hT := hR.few
    have HMT := Shh.mk hR.num
    clear hR hb1
    go_wp2_with fail
    refine (implSubRacks_any s (M, 0) R.out.out _ (by omega)).mono ?_
    rintro e w2 ⟨v2, rfl, ho2, hb2⟩
    unfold retS
    have ho2 : OwnS w1.heap.size w2 v2 M := ho2
    obtain ⟨a2, c2, rfl, -, -, -⟩ := own_form ho2
    have HO2 := Shh.mk (OwnS.strs ho2)
    have HB2 := Shh.mk (HB1.out.trans (hb2.mono HB1.out.size))
    clear ho2 hb2
    go_wp2
    go_loopw [6, 7, 8] (fun p i _ wr => ∃ (q k n : Nat), k ≤ s.size ∧ p = .int .i64 q ∧ i = .int .i64 k ∧ Shh (q * prodT (cnt (s.data.toList.drop k)) 27 = T) ∧ wr = w2.drewN n) (fun _ i _ _ => s.size - (intOf i).toNat)
    case atStart => exact ⟨1, 0, 0, Nat.zero_le _, rfl, rfl, ⟨by rw [List.drop_zero, R.out.total, Nat.one_mul]⟩, rfl⟩
    case round =>
      obtain ⟨q, i, n, hi, rfl, rfl, hq, hw'⟩ := hrel
      have HW := Shh.mk hw'
      by_cases hlt : i < s.size
      · have HAI := Shh.mk (at_get s i hlt)
        obtain ⟨W3, rfl⟩ : ∃ x, x = wr := ⟨_, rfl⟩
        clear hw'
        go_wp2
        go_loopw [8] (fun k wr => ∃ (j m : Nat), i ≤ j ∧ j ≤ s.size ∧ k = .int .i64 j ∧ Shh (∀ h, i ≤ h → h < j → s.data.toList[h]? = some (s[i]'hlt)) ∧ wr = W3.drewN m) (fun k _ => s.size - (intOf k).toNat)
        case atStart => exact ⟨i, 0, Nat.le_refl _, by omega, rfl, ⟨fun h h1 h2 => by omega⟩, rfl⟩
        case round =>
          obtain ⟨j, m, hij, hj, rfl, hall, hw3⟩ := hrel
          have HW3 := Shh.mk hw3
          by_cases hjl : j < s.size
          · have hd0 : decide ((j : Int) < (s.size : Int)) = true := decide_eq_true (by omega)
            have hd1 : decide (j < s.size) = true := decide_eq_true hjl
            have hAJ := at_get s j hjl
            by_cases he : (s[j]'hjl) = (s[i]'hlt)
            · have heb : (((s[j]'hjl).toNat : Int) == ((s[i]'hlt).toNat : Int)) = true := by rw [he]; simp
              have heb2 : ((s[j]'hjl).toNat == (s[i]'hlt).toNat) = true := by rw [he]; simp
              have HA2 : Shh (∀ h, i ≤ h → h < j + 1 → s.data.toList[h]? = some (s[i]'hlt)) := ⟨fun h h1 h2 => by
                rcases Nat.lt_or_ge h j with h3 | h3
                · exact hall.out h h1 h3
                · obtain rfl : h = j := by omega
                  rw [hAJ, he]⟩
              clear he hAJ hw3
              go_wp2
              go_quiet (fail)
              go_wp2
              go_roundw
              case rel => exact ⟨j + 1, _, by omega, by omega, by go_num, HA2, by rw [HW3.out]; exact World.drewN_drewN _ _ _⟩
              case measure => simp [intOf]; omega
            · have heb : (((s[j]'hjl).toNat : Int) == ((s[i]'hlt).toNat : Int)) = false := beq_eq_false_iff_ne.2 (fun e => he (UInt8.toNat_inj.1 (by omega)))
              have heb2 : ((s[j]'hjl).toNat == (s[i]'hlt).toNat) = false := beq_eq_false_iff_ne.2 (fun e => he (UInt8.toNat_inj.1 e))
              have hij2 : i < j := by
                rcases Nat.lt_or_ge i j with h | h
                · exact h
                · obtain rfl : i = j := by omega
                  exact absurd rfl he
              have hrun := run_prod R.out.tiles R.out.asc hij2 hall.out (fun x hx => by rw [hAJ] at hx; injection hx with hx; rw [← hx]; exact he)
              have HQ := Shh.mk (show q * (j - i + 1) * prodT (cnt (s.data.toList.drop j)) 27 = T by rw [Nat.mul_assoc, ← hrun]; exact hq.out)
              have hqb : q * (j - i + 1) ≤ 64 := by
                have h1 := HQ.out
                have h2 := Nat.mul_le_mul_left (q * (j - i + 1)) (prodT_pos (cnt (s.data.toList.drop j)) 27)
                omega
              obtain ⟨d, hd⟩ : ∃ d, j - i = d := ⟨_, rfl⟩
              rw [hd] at HQ hqb
              obtain ⟨p, hp⟩ : ∃ p, q * (d + 1) = p := ⟨_, rfl⟩
              have hji : (j : Int) - (i : Int) = (d : Int) := by omega
              have hpi : (q : Int) * ((d : Int) + 1) = (p : Int) := by rw [← hp]; push_cast; rfl
              rw [hp] at HQ hqb
              have hw1 : IntKind.i64.wrap ((j : Int) - (i : Int)) = (d : Int) := by rw [hji]; exact IntWalk.i64_in _ (by omega)
              have hw2 : IntKind.i64.wrap ((d : Int) + 1) = (d : Int) + 1 := IntWalk.i64_in _ (by omega)
              have hw4 : IntKind.i64.wrap ((q : Int) * ((d : Int) + 1)) = (p : Int) := by rw [hpi]; exact IntWalk.i64_in _ (by omega)
              clear he hAJ hw3 hrun hd hp hji hpi
              go_wp2
              go_quiet (fail)
              go_wp2
              go_roundw
              case rel => exact ⟨p, j, _, by omega, by first | rfl | go_num, rfl, HQ, by rw [HW3.out, HW.out]; exact (World.drewN_drewN _ _ _).trans (World.drewN_drewN _ _ _)⟩
              case measure => simp [intOf]; omega
          · obtain rfl : j = s.size := by omega
            have hd0 : decide ((s.size : Int) < (s.size : Int)) = false := decide_eq_false (by omega)
            have hd1 : decide (s.size < s.size) = false := decide_eq_false (by omega)
            have hrun := run_prod R.out.tiles R.out.asc hlt hall.out (fun x hx => by rw [List.getElem?_eq_none (by rw [len_list]; exact Nat.le_refl _)] at hx; cases hx)
            have HQ := Shh.mk (show q * (s.size - i + 1) * prodT (cnt (s.data.toList.drop s.size)) 27 = T by rw [Nat.mul_assoc, ← hrun]; exact hq.out)
            have hqb : q * (s.size - i + 1) ≤ 64 := by
              have h1 := HQ.out
              have h2 := Nat.mul_le_mul_left (q * (s.size - i + 1)) (prodT_pos (cnt (s.data.toList.drop s.size)) 27)
              omega
            obtain ⟨d, hd⟩ : ∃ d, s.size - i = d := ⟨_, rfl⟩
            rw [hd] at HQ hqb
            obtain ⟨p, hp⟩ : ∃ p, q * (d + 1) = p := ⟨_, rfl⟩
            have hji : (s.size : Int) - (i : Int) = (d : Int) := by omega
            have hpi : (q : Int) * ((d : Int) + 1) = (p : Int) := by rw [← hp]; push_cast; rfl
            rw [hp] at HQ hqb
            have hw1 : IntKind.i64.wrap ((s.size : Int) - (i : Int)) = (d : Int) := by rw [hji]; exact IntWalk.i64_in _ (by omega)
            have hw2 : IntKind.i64.wrap ((d : Int) + 1) = (d : Int) + 1 := IntWalk.i64_in _ (by omega)
            have hw4 : IntKind.i64.wrap ((q : Int) * ((d : Int) + 1)) = (p : Int) := by rw [hpi]; exact IntWalk.i64_in _ (by omega)
            clear hw3 hrun hd hp hji hpi
            go_wp2
            go_quiet (fail)
            go_wp2
            go_roundw
            case rel => exact ⟨p, s.size, _, Nat.le_refl _, by first | rfl | go_num, rfl, HQ, by rw [HW3.out, HW.out]; exact (World.drewN_drewN _ _ _).trans (World.drewN_drewN _ _ _)⟩
            case measure => simp [intOf]; omega
      · obtain rfl : i = s.size := by omega
        have hqT : q = T := by
          have := hq.out
          rw [List.drop_of_length_le (by rw [len_list]; exact Nat.le_refl _), prodT_none, Nat.mul_one] at this
          exact this
        have hmq : ((M.length : Int) != (q : Int)) = false := by rw [hqT, HMT.out]; simp
        have hml : M.length ≤ 64 := by have := HMT.out; omega
        have HO3 := Shh.mk (HO2.out.below (by rw [HW.out]; exact below_drewN (Below.refl _ _) n : Below w2.heap.size w2 wr))
        have HB3 := Shh.mk (show Below w.heap.size w wr by rw [HW.out]; exact below_drewN HB2.out n)
        obtain ⟨W3, rfl⟩ : ∃ x, x = wr := ⟨_, rfl⟩
        clear hw' HW hq hqT hT HMT hlt hi
        go_wp2
        go_loopw [9, 10, 11, 12, 13] (fun i _ _ _ _ wr => ∃ (k : Nat), k ≤ M.length ∧ i = .int .i64 k ∧ Shh (Below W3.heap.size W3 wr)) (fun i _ _ _ _ _ => M.length - (intOf i).toNat)
        case atStart => exact ⟨0, Nat.zero_le _, rfl, ⟨Below.refl _ _⟩⟩
        case round =>
          obtain ⟨k, hk, rfl, hb⟩ := hrel
          by_cases hlt : k < M.length
          · have HO4 := Shh.mk (HO3.out.below hb.out)
            obtain ⟨aq, cq, hvq, -, -, hcq⟩ := HO4.out
            obtain ⟨b, off, hab, hbl, hcc⟩ := hcq (by omega)
            injection hvq with hvq1 _ hvq3
            subst hvq1
            subst hvq3
            subst hab
            have hxm := strAt_mem hlt
            have ck := hcc k hlt
            have HCC := Shh.mk hcc
            obtain ⟨x, hx⟩ : ∃ x, strAt M k = x := ⟨_, rfl⟩
            have HXE := Shh.mk hx
            rw [hx] at hxm ck
            obtain ⟨r, hrm, hrt⟩ := R.out.rest x hxm
            have HRT := Shh.mk hrt
            have HRM := Shh.mk (hasJ_mem hrm)
            have hx6 := R.out.sub x hxm
            have hk0 : (0 : Int) ≤ (k : Int) := by omega
            have hkn : (k : Int) < (M.length : Int) := by omega
            clear hcc hcq hx hrt hrm hxm
            go_wp2_with fail
            refine (take_as HRT.out _ hs6 hx6).mono ?_
            rintro e w5 ⟨rfl, hb5⟩
            have HB5 := Shh.mk (hb.out.trans (hb5.mono hb.out.size))
            have HC5 := Shh.mk (fun j (hj : j < M.length) => (hb5.cell (p := ⟨b, off + j, none⟩) hbl).trans (HCC.out j hj))
            clear hb5 ck hb
            go_wp2
            go_loopw [12, 13] (fun f i wr => ∃ (j : Nat), j ≤ M.length ∧ i = .int .i64 j ∧ f = .bool (hasJ M r j) ∧ wr = w5) (fun _ i _ => M.length - (intOf i).toNat)
            case atStart => exact ⟨0, Nat.zero_le _, rfl, rfl, rfl⟩
            case round =>
              obtain ⟨j, hj, rfl, rfl, rfl⟩ := hrel
              have hsuc : hasJ M r (j + 1) = (hasJ M r j || decide (strAt M j = r)) := rfl
              by_cases hjl : j < M.length
              · have cj := HC5.out j hjl
                obtain ⟨z, hz⟩ : ∃ z, strAt M j = z := ⟨_, rfl⟩
                rw [hz] at cj hsuc
                have hj0 : (0 : Int) ≤ (j : Int) := by omega
                have hjn : (j : Int) < (M.length : Int) := by omega
                cases ht : hasJ M r j
                · have heq : (z.toList == r.toList) = decide (z = r) := by
                    by_cases e : z = r
                    · rw [e, strSame, decide_eq_true rfl]
                    · rw [strNe e, decide_eq_false e]
                  rw [ht, Bool.false_or] at hsuc
                  obtain ⟨t, hr⟩ : ∃ t, decide (z = r) = t := ⟨_, rfl⟩
                  rw [hr] at heq hsuc
                  have HS := Shh.mk hsuc
                  clear hz ht hsuc hr
                  go_wp2
                  go_roundw
                  case rel => exact ⟨j + 1, by omega, by go_num, by rw [HS.out], by first | trivial | rfl⟩
                  case measure => simp [intOf]; omega
                · rw [ht, Bool.true_or] at hsuc
                  have HS := Shh.mk hsuc
                  clear hz ht hsuc
                  go_wp2
                  go_roundw
                  case rel => exact ⟨j + 1, by omega, by go_num, by rw [HS.out], by first | trivial | rfl⟩
                  case measure => simp [intOf]; omega
              · obtain rfl : j = M.length := by omega
                rw [HRM.out]
                have ck := HC5.out k hlt
                rw [HXE.out] at ck
                clear hsuc hjl hj
                by_cases hkz : 0 < k
                · obtain ⟨p, hp⟩ : ∃ p, k = p + 1 := ⟨k - 1, by omega⟩
                  have hpm : p < M.length := by omega
                  have cz := HC5.out p hpm
                  have hlx := R.out.rise p k (by omega) hlt
                  rw [HXE.out] at hlx
                  obtain ⟨z, hz⟩ : ∃ z, strAt M p = z := ⟨_, rfl⟩
                  rw [hz] at cz hlx
                  have hp1 : (k : Int) - 1 = (p : Int) := by omega
                  have hp3 : IntKind.i64.wrap (p : Int) = (p : Int) := IntWalk.i64_in _ (by omega)
                  have hp0 : (0 : Int) ≤ (p : Int) := by omega
                  have hpn : (p : Int) < (M.length : Int) := by omega
                  have hd0 : decide ((0 : Int) < (k : Int)) = true := decide_eq_true (by omega)
                  have hd1 : decide (0 < k) = true := decide_eq_true hkz
                  rw [ltS_iff] at hlx
                  rcases hlx with hlx | ⟨hlx, hup⟩
                  · have he1 : decide ((x.size : Int) < (z.size : Int)) = false := decide_eq_false (by omega)
                    have he2 : decide (x.size < z.size) = false := decide_eq_false (by omega)
                    have he3 : ((x.size : Int) == (z.size : Int)) = false := beq_eq_false_iff_ne.2 (by omega)
                    have he4 : (x.size == z.size) = false := beq_eq_false_iff_ne.2 (by omega)
                    clear hp hz hlx hkz
                    go_wp2
                    go_quiet (fail)
                    go_wp2
                    go_roundw
                    case rel => exact ⟨k + 1, by omega, by go_num, ⟨below_drewN HB5.out _⟩⟩
                    case measure => simp [intOf]; omega
                  · have he1 : decide ((x.size : Int) < (z.size : Int)) = false := decide_eq_false (by omega)
                    have he2 : decide (x.size < z.size) = false := decide_eq_false (by omega)
                    have he3 : ((x.size : Int) == (z.size : Int)) = true := beq_iff_eq.2 (by omega)
                    have he4 : (x.size == z.size) = true := beq_iff_eq.2 (by omega)
                    have hcmp := not_le (a := z) (b := x)
                    rw [hup] at hcmp
                    simp only [Bool.not_true] at hcmp
                    clear hp hz hlx hup hkz
                    go_wp2
                    go_quiet (fail)
                    go_wp2
                    go_roundw
                    case rel => exact ⟨k + 1, by omega, by go_num, ⟨below_drewN HB5.out _⟩⟩
                    case measure => simp [intOf]; omega
                · have hd0 : decide ((0 : Int) < (k : Int)) = false := decide_eq_false (by omega)
                  have hd1 : decide (0 < k) = false := decide_eq_false hkz
                  clear hkz
                  go_wp2
                  go_quiet (fail)
                  go_wp2
                  go_roundw
                  case rel => exact ⟨k + 1, by omega, by go_num, ⟨below_drewN HB5.out _⟩⟩
                  case measure => simp [intOf]; omega
          · obtain rfl : k = M.length := by omega
            go_wp2
            go_ret
            exact ⟨rfl, HB3.out.trans (hb.out.mono HB3.out.size)⟩

set_option maxRecDepth 100000 in
theorem FnSubRacks_lifted (os : Os) (started : os.Started) (H : Type) (enc : TypeId × Value → H) :
    ReturnsInHanded {} Try.checked os 3 .any (Rows.fnSubRacksSpec.pre6 enc Try.prog Try.f3 Rows.fnSubRacksRow.domain false) (Rows.fnSubRacksSpec.post enc Try.prog Try.f3 false true false false) := by
  refine returnsInHanded_of_change (C := Try.checked) prog_own started (by kernel_rfl) Try.func3
    (ChangeSpec.witness6 (enc := enc) (C := Try.checked) false ⟨#[], #[.slice none 0 0], []⟩ 8 (by kernel_rfl) (by kernel_rfl) (by kernel_rfl) (by kernel_rfl)) ?_
  intro W base args ds gs before hval0 hW hcnd _
  have hval : ∀ (j : Nat) t v, Try.f3.params[j]? = some t → args[j]? = some v → Value.okWide Try.prog W .any base t v := hval0
  have hW' := hW
  obtain ⟨p, q, hA0, hV, rfl, hfz, hnd⟩ := hW
  have hA : DataW.TrodAll enc Try.prog W 0 (fun _ => true) true Try.f3.params.toList args.toList ds p := hA0
  rw [Try.params3] at hA hval
  obtain ⟨v0, vs0, d0, ds0, p0, q0, hargs, rfl, rfl, h0, r0⟩ := trodAll_cons hA
  obtain ⟨rfl, rfl, rfl⟩ := trodAll_nil r0
  obtain rfl : args = #[v0] := by cases args; simp_all
  obtain ⟨rfl, rfl⟩ := trodVars_none hV
  have k0 := h0
  have lt0 : ∀ x ∈ p0, x.block < W.heap.size := by obtain ⟨m, hm⟩ := k0; exact DataW.trod_lt m _ _ _ hm
  obtain ⟨fu0, hf0⟩ := h0
  obtain ⟨A0, len0, cap0, rfl⟩ := okWide_slice Try.underlying22 (hval 0 22 v0 rfl rfl)
  obtain ⟨z0, i0⟩ := bytes_cell Try.underlying22 Try.underlying5 (by kernel_rfl) hf0
  clear hA0 hval0
  refine (FnSubRacks_walk W _ z0 i0).mono fun e W' ⟨he, bel⟩ => ?_
  subst he
  exact ⟨_, rfl, _, _, _, [], _, [], hW', trodAll_mk1 (shut_bool Try.underlying4 _), (trodAll_cons_mk (Below.trod prog_laid (by kernel_rfl) (of_decide_eq_true (by kernel_rfl)) k0 bel lt0) trodAll_mk0), rfl, bel.frame _, fun h => by cases h⟩

theorem FnSubRacks_holds : Rows.FnSubRacksSaid :=
  OpenClaim.holds_of_wide 3 Try.f3 rfl rfl rfl rfl rfl rfl rfl ⟨rfl, rfl, rfl, rfl, rfl⟩ rfl rfl rfl rfl rfl (by kernel_rfl) Try.func3 (by kernel_rfl)
    (of_decide_eq_true (by kernel_rfl)) (by unfold Func.isWrapper; rw [if_neg (of_decide_eq_false (by kernel_rfl))]; exact ⟨rfl, rfl⟩)
    (fun os started H enc _ => FnSubRacks_lifted os started H enc)
#print axioms FnSubRacks_holds
end Go.Proofs.Ytilagppmljpclaa
