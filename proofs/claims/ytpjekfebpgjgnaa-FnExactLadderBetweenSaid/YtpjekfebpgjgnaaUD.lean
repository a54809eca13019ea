/-
  Patterns: the program's matching.
-/
import Derived.Test.YtpjekfebpgjgnaaUC
namespace Go.Proofs.Ytpjekfebpgjgnaa
open Go.RowKit

theorem byteP_alt {p c : Int} (h1 : (p == 46) = false) (h2 : (p == 64) = false) (h3 : (p == 35) = false) : byteP p c = (c == p) := by
  rw [byteP_let h1 h2 h3, Bool.eq_iff_iff, beq_iff_eq, beq_iff_eq]
  exact eq_comm
set_option maxHeartbeats 4000000 in
theorem matches_any : ∀ (n : Nat) (p s : ByteArray) (w : World), p.size + s.size ≤ n → p.size ≤ 1048576 → s.size ≤ 1048576 → allSmall s.data.toList = true →
    Calls Try.prog 68 #[.string p, .string s] w fun e w' => e = .returned (.bool (fitsP p s)) ∧ Below w.heap.size w w' := by
  intro n
  induction n with
  | zero =>
    intro p s w hn hp hs _
    have hE := empty_yes (s := p) (by omega)
    have hE2 := empty_yes (s := s) (by omega)
    have HR := Sh10.mk ((fitsP_end (s := s) (show p.size = 0 by omega)).trans (decide_eq_true (by omega)))
    go_enter Try.func68, Try.ntmps68
    go_wp2
    go_ret
    exact ⟨ret_bool HR.out.symm, Below.refl _ _⟩
  | succ n ih =>
    intro p s w hn hp hs hal
    have IH := Sh10.mk ih
    clear ih
    rcases Nat.eq_zero_or_pos p.size with h0 | h0
    · have hE := empty_yes h0
      have HR := Sh10.mk (fitsP_end (s := s) h0)
      rcases Nat.eq_zero_or_pos s.size with hs0 | hs0
      · have hE2 := empty_yes hs0
        have HR2 := Sh10.mk (HR.out.trans (decide_eq_true hs0))
        clear HR h0 hs0
        go_enter Try.func68, Try.ntmps68
        go_wp2
        go_ret
        exact ⟨ret_bool HR2.out.symm, Below.refl _ _⟩
      · have hE2 := empty_no hs0
        have HR2 := Sh10.mk (HR.out.trans (decide_eq_false (by omega)))
        clear HR h0 hs0
        go_enter Try.func68, Try.ntmps68
        go_wp2
        go_ret
        exact ⟨ret_bool HR2.out.symm, Below.refl _ _⟩
    · have hE := empty_no h0
      have htp := tailS_size p
      have hts := tailS_size s
      have h1p : (1 : Int) ≤ (p.size : Int) := by omega
      have hFse := fun a b => fitsP_star_end (p := p) (s := s) h0 a b
      have hFs := fun a b => fitsP_star (p := p) (s := s) h0 a b
      have hFbe := fun a b => fitsP_byte_end (p := p) (s := s) h0 a b
      have hFb := fun a b => fitsP_byte (p := p) (s := s) h0 a b
      have hB0 : (0 : Int) ≤ ((p[0]'h0).toNat : Int) := by omega
      have hB1 : ((p[0]'h0).toNat : Int) < 256 := by have := (p[0]'h0).toNat_lt; omega
      obtain ⟨B, hB⟩ : ∃ B : Int, ((p[0]'h0).toNat : Int) = B := ⟨_, rfl⟩
      rw [hB] at hFse hFs hFbe hFb hB0 hB1
      have HI1 := Sh10.mk (fun w => IH.out (tailS p) s w (by omega) (by omega) hs hal)
      have HP := Sh10.mk (Blk.made w 21 #[.int .i32 B])
      have HB0 := Sh10.mk ((Below.refl w.heap.size w).alloc (Nat.le_refl _) (.cells #[.int .i32 B] 21))
      have c0 := HP.out.cells
      have hnegs : ∀ z : Int, ¬ B = z → (B == z) = false := fun z h => beq_eq_false_iff_ne.2 h
      by_cases h42 : B = 42
      · have e42 : (B == 42) = true := beq_iff_eq.2 h42
        rcases Nat.eq_zero_or_pos s.size with hs0 | hs0
        · have hE3 := empty_nil hs0
          have HR := Sh10.mk (hFse hs0 h42)
          obtain ⟨b, hbb⟩ : ∃ b, fitsP (tailS p) s = b := ⟨_, rfl⟩
          rw [hbb] at HR HI1
          unfold tailS at HI1
          clear hFse hFs hFbe hFb h42 hs0 hbb hnegs
          go_enter Try.func68, Try.ntmps68
          go_wp2_with fail
          refine (HI1.out _).mono ?_
          cases b
          all_goals
            rintro e w1 ⟨rfl, hb1⟩
            go_wp2
            go_ret
            exact ⟨ret_bool HR.out.symm, HB0.out.trans (hb1.mono HB0.out.size)⟩
        · have hE3 := empty_notnil hs0
          have h1s : (1 : Int) ≤ (s.size : Int) := by omega
          have HR := Sh10.mk (hFs hs0 h42)
          have HSM := Sh10.mk (allSmall_head hal hs0)
          have HI2 := Sh10.mk (fun w => IH.out p (tailS s) w (by omega) (by omega) (by omega) (allSmall_tail hal))
          obtain ⟨b, hbb⟩ : ∃ b, fitsP (tailS p) s = b := ⟨_, rfl⟩
          obtain ⟨b2, hbb2⟩ : ∃ b2, fitsP p (tailS s) = b2 := ⟨_, rfl⟩
          rw [hbb] at HR HI1
          rw [hbb2] at HR HI2
          unfold tailS at HI1 HI2
          have hD0 : (0 : Int) ≤ ((s[0]'hs0).toNat : Int) := by omega
          obtain ⟨D, hD⟩ : ∃ D : Int, ((s[0]'hs0).toNat : Int) = D := ⟨_, rfl⟩
          rw [hD] at HSM hD0
          have hD1 : D < 128 := by have := smallB_iff.1 HSM.out; omega
          clear hFse hFs hFbe hFb h42 hbb hbb2 hnegs
          go_enter Try.func68, Try.ntmps68
          go_wp2_with fail
          refine (HI1.out _).mono ?_
          cases b
          · rintro e w1 ⟨rfl, hb1⟩
            have HB1 := Sh10.mk (HB0.out.trans (hb1.mono HB0.out.size))
            clear hb1 c0
            go_wp2_with fail
            refine (isSmall_any D _).mono ?_
            rw [HSM.out]
            rintro e w2 ⟨rfl, rfl⟩
            go_wp2_with fail
            refine (HI2.out _).mono ?_
            rintro e w3 ⟨rfl, hb3⟩
            go_wp2
            go_ret
            exact ⟨ret_bool (by rw [empty_no hs0]; exact HR.out.symm), HB1.out.trans (hb3.mono HB1.out.size)⟩
          · rintro e w1 ⟨rfl, hb1⟩
            go_wp2
            go_ret
            exact ⟨ret_bool HR.out.symm, HB0.out.trans (hb1.mono HB0.out.size)⟩
      · have e42 := hnegs _ h42
        by_cases h46 : B = 46
        · have e46 : (B == 46) = true := beq_iff_eq.2 h46
          clear h46 HI1
          rcases Nat.eq_zero_or_pos s.size with hs0 | hs0
          · have hE3 := empty_nil hs0
            have HR := Sh10.mk (hFbe hs0 h42)
            clear hFse hFs hFbe hFb h42 hs0 hnegs
            go_enter Try.func68, Try.ntmps68
            go_wp2
            go_ret
            exact ⟨ret_bool HR.out.symm, HB0.out⟩
          · have hE3 := empty_notnil hs0
            have h1s : (1 : Int) ≤ (s.size : Int) := by omega
            have HR := Sh10.mk (hFb hs0 h42)
            have HSM := Sh10.mk (allSmall_head hal hs0)
            have HI2 := Sh10.mk (fun w => IH.out (tailS p) (tailS s) w (by omega) (by omega) (by omega) (allSmall_tail hal))
            obtain ⟨b2, hbb2⟩ : ∃ b2, fitsP (tailS p) (tailS s) = b2 := ⟨_, rfl⟩
            rw [hbb2] at HR HI2
            unfold tailS at HI2
            have hD0 : (0 : Int) ≤ ((s[0]'hs0).toNat : Int) := by omega
            obtain ⟨D, hD⟩ : ∃ D : Int, ((s[0]'hs0).toNat : Int) = D := ⟨_, rfl⟩
            rw [hD] at HR HSM hD0
            have hD1 : D < 128 := by have := smallB_iff.1 HSM.out; omega
            have HY := Sh10.mk (byteP_dot (c := D) e46)
            rw [HY.out] at HR
            clear hFse hFs hFbe hFb h42 hnegs hbb2 HY
            go_enter Try.func68, Try.ntmps68
            go_wp2_with fail
            refine (isSmall_any D _).mono ?_
            rw [HSM.out]
            rintro e w1 ⟨rfl, rfl⟩
            go_wp2_with fail
            refine (HI2.out _).mono ?_
            rintro e w2 ⟨rfl, hb2⟩
            go_wp2
            go_ret
            exact ⟨ret_bool (by rw [empty_no hs0]; exact HR.out.symm), HB0.out.trans (hb2.mono HB0.out.size)⟩
        · have e46 := hnegs _ h46
          by_cases h64 : B = 64
          · have e64 : (B == 64) = true := beq_iff_eq.2 h64
            clear h46 h64 HI1
            rcases Nat.eq_zero_or_pos s.size with hs0 | hs0
            · have hE3 := empty_nil hs0
              have HR := Sh10.mk (hFbe hs0 h42)
              clear hFse hFs hFbe hFb h42 hs0 hnegs
              go_enter Try.func68, Try.ntmps68
              go_wp2
              go_ret
              exact ⟨ret_bool HR.out.symm, HB0.out⟩
            · have hE3 := empty_notnil hs0
              have h1s : (1 : Int) ≤ (s.size : Int) := by omega
              have HR := Sh10.mk (hFb hs0 h42)
              have HSM := Sh10.mk (allSmall_head hal hs0)
              have HI2 := Sh10.mk (fun w => IH.out (tailS p) (tailS s) w (by omega) (by omega) (by omega) (allSmall_tail hal))
              obtain ⟨b2, hbb2⟩ : ∃ b2, fitsP (tailS p) (tailS s) = b2 := ⟨_, rfl⟩
              rw [hbb2] at HR HI2
              unfold tailS at HI2
              have hD0 : (0 : Int) ≤ ((s[0]'hs0).toNat : Int) := by omega
              obtain ⟨D, hD⟩ : ∃ D : Int, ((s[0]'hs0).toNat : Int) = D := ⟨_, rfl⟩
              rw [hD] at HR HSM hD0
              have hD1 : D < 128 := by have := smallB_iff.1 HSM.out; omega
              have HY := Sh10.mk (byteP_vow (c := D) e46 e64)
              rw [HY.out] at HR
              obtain ⟨b, hbb⟩ : ∃ b, (vowB D) = b := ⟨_, rfl⟩
              rw [hbb] at HR
              have HBB := Sh10.mk hbb
              clear hFse hFs hFbe hFb h42 hnegs hbb2 HY hbb
              go_enter Try.func68, Try.ntmps68
              go_wp2_with fail
              refine (isVowel_any D _ hD0 hD1).mono ?_
              rw [HBB.out]
              cases b
              · rintro e w1 ⟨rfl, rfl⟩
                go_wp2
                go_ret
                exact ⟨ret_bool HR.out.symm, HB0.out⟩
              · rintro e w1 ⟨rfl, rfl⟩
                go_wp2_with fail
                refine (HI2.out _).mono ?_
                rintro e w2 ⟨rfl, hb2⟩
                go_wp2
                go_ret
                exact ⟨ret_bool (by rw [empty_no hs0]; exact HR.out.symm), HB0.out.trans (hb2.mono HB0.out.size)⟩
          · have e64 := hnegs _ h64
            by_cases h35 : B = 35
            · have e35 : (B == 35) = true := beq_iff_eq.2 h35
              clear h46 h64 h35 HI1
              rcases Nat.eq_zero_or_pos s.size with hs0 | hs0
              · have hE3 := empty_nil hs0
                have HR := Sh10.mk (hFbe hs0 h42)
                clear hFse hFs hFbe hFb h42 hs0 hnegs
                go_enter Try.func68, Try.ntmps68
                go_wp2
                go_ret
                exact ⟨ret_bool HR.out.symm, HB0.out⟩
              · have hE3 := empty_notnil hs0
                have h1s : (1 : Int) ≤ (s.size : Int) := by omega
                have HR := Sh10.mk (hFb hs0 h42)
                have HSM := Sh10.mk (allSmall_head hal hs0)
                have HI2 := Sh10.mk (fun w => IH.out (tailS p) (tailS s) w (by omega) (by omega) (by omega) (allSmall_tail hal))
                obtain ⟨b2, hbb2⟩ : ∃ b2, fitsP (tailS p) (tailS s) = b2 := ⟨_, rfl⟩
                rw [hbb2] at HR HI2
                unfold tailS at HI2
                have hD0 : (0 : Int) ≤ ((s[0]'hs0).toNat : Int) := by omega
                obtain ⟨D, hD⟩ : ∃ D : Int, ((s[0]'hs0).toNat : Int) = D := ⟨_, rfl⟩
                rw [hD] at HR HSM hD0
                have hD1 : D < 128 := by have := smallB_iff.1 HSM.out; omega
                have HY := Sh10.mk (byteP_oth (c := D) e46 e64 e35)
                rw [HY.out] at HR
                obtain ⟨b, hbb⟩ : ∃ b, (!vowB D) = b := ⟨_, rfl⟩
                rw [hbb] at HR
                have HBB := Sh10.mk hbb
                clear hFse hFs hFbe hFb h42 hnegs hbb2 HY hbb
                go_enter Try.func68, Try.ntmps68
                go_wp2_with fail
                refine (notVowel_any D _ hD0 hD1).mono ?_
                rw [HBB.out]
                cases b
                · rintro e w1 ⟨rfl, rfl⟩
                  go_wp2
                  go_ret
                  exact ⟨ret_bool HR.out.symm, HB0.out⟩
                · rintro e w1 ⟨rfl, rfl⟩
                  go_wp2_with fail
                  refine (HI2.out _).mono ?_
                  rintro e w2 ⟨rfl, hb2⟩
                  go_wp2
                  go_ret
                  exact ⟨ret_bool (by rw [empty_no hs0]; exact HR.out.symm), HB0.out.trans (hb2.mono HB0.out.size)⟩
            · have e35 := hnegs _ h35
              clear h46 h64 h35 HI1
              rcases Nat.eq_zero_or_pos s.size with hs0 | hs0
              · have hE3 := empty_nil hs0
                have HR := Sh10.mk (hFbe hs0 h42)
                clear hFse hFs hFbe hFb h42 hs0 hnegs
                go_enter Try.func68, Try.ntmps68
                go_wp2
                go_ret
                exact ⟨ret_bool HR.out.symm, HB0.out⟩
              · have hE3 := empty_notnil hs0
                have h1s : (1 : Int) ≤ (s.size : Int) := by omega
                have HR := Sh10.mk (hFb hs0 h42)
                have HSM := Sh10.mk (allSmall_head hal hs0)
                have HI2 := Sh10.mk (fun w => IH.out (tailS p) (tailS s) w (by omega) (by omega) (by omega) (allSmall_tail hal))
                obtain ⟨b2, hbb2⟩ : ∃ b2, fitsP (tailS p) (tailS s) = b2 := ⟨_, rfl⟩
                rw [hbb2] at HR HI2
                unfold tailS at HI2
                have hD0 : (0 : Int) ≤ ((s[0]'hs0).toNat : Int) := by omega
                obtain ⟨D, hD⟩ : ∃ D : Int, ((s[0]'hs0).toNat : Int) = D := ⟨_, rfl⟩
                rw [hD] at HR HSM hD0
                have hD1 : D < 128 := by have := smallB_iff.1 HSM.out; omega
                have HY := Sh10.mk (byteP_alt (c := D) e46 e64 e35)
                rw [HY.out] at HR
                obtain ⟨b, hbb⟩ : ∃ b, (D == B) = b := ⟨_, rfl⟩
                rw [hbb] at HR
                have HBB := Sh10.mk hbb
                clear hFse hFs hFbe hFb h42 hnegs hbb2 HY hbb
                go_enter Try.func68, Try.ntmps68
                go_wp2_with fail
                refine (isByte_any D _ HP.out).mono ?_
                rw [HBB.out]
                cases b
                · rintro e w1 ⟨rfl, rfl⟩
                  go_wp2
                  go_ret
                  exact ⟨ret_bool HR.out.symm, HB0.out⟩
                · rintro e w1 ⟨rfl, rfl⟩
                  go_wp2_with fail
                  refine (HI2.out _).mono ?_
                  rintro e w2 ⟨rfl, hb2⟩
                  go_wp2
                  go_ret
                  exact ⟨ret_bool (by rw [empty_no hs0]; exact HR.out.symm), HB0.out.trans (hb2.mono HB0.out.size)⟩

theorem fits_is {p s : ByteArray} {b : Bool} (h : fitsP p s = b) (w : World) (hp : p.size ≤ 1048576) (hs : s.size ≤ 1048576) (hal : allSmall s.data.toList = true) : Calls Try.prog 68 #[.string p, .string s] w fun e w' => e = .returned (.bool b) ∧ Below w.heap.size w w' := by
  rw [← h]; exact matches_any _ p s w (Nat.le_refl _) hp hs hal
theorem okpI {p : ByteArray} {b : Bool} (h : okP p = b) (w : World) (hp : p.size ≤ maxLen) : Calls Try.prog 25 #[.string p] w fun e w' => e = .returned (.bool b) ∧ Below w.heap.size w w' := by
  rw [← h]; exact implValidPattern_any p w hp
set_option maxHeartbeats 1000000 in
theorem implMatchPattern_any (p s : ByteArray) (w : World) (hp : p.size ≤ 1048576) (hs : s.size ≤ 1048576) :
    Calls Try.prog 27 #[.string p, .string s] w fun e w' => e = .returned (.bool (matchB10 p s)) ∧ Below w.heap.size w w' := by
  have hpm : p.size ≤ maxLen := by unfold maxLen; omega
  have hsm : s.size ≤ maxLen := by unfold maxLen; omega
  cases hok : okP p
  · have HR := Sh10.mk (matchB10_pat (s := s) hok)
    go_enter Try.func27, Try.ntmps27
    go_wp2_with fail
    refine (okpI hok _ hpm).mono ?_
    rintro e w1 ⟨rfl, hb1⟩
    go_wp2
    go_ret
    exact ⟨ret_bool HR.out.symm, hb1⟩
  · cases hwd : isWordB s.data.toList
    · have HR := Sh10.mk (matchB10_word (p := p) hwd)
      go_enter Try.func27, Try.ntmps27
      go_wp2_with fail
      refine (okpI hok _ hpm).mono ?_
      rintro e w1 ⟨rfl, hb1⟩
      go_wp2_with fail
      refine (implIsWord_any s _ hsm).mono ?_
      rw [hwd]
      rintro e w2 ⟨rfl, hb2⟩
      go_wp2
      go_ret
      exact ⟨ret_bool HR.out.symm, hb1.trans (hb2.mono hb1.size)⟩
    · have HR := Sh10.mk (matchB10_yes (p := p) hok hwd)
      go_enter Try.func27, Try.ntmps27
      go_wp2_with fail
      refine (okpI hok _ hpm).mono ?_
      rintro e w1 ⟨rfl, hb1⟩
      go_wp2_with fail
      refine (implIsWord_any s _ hsm).mono ?_
      rw [hwd]
      rintro e w2 ⟨rfl, hb2⟩
      have HB2 := Sh10.mk (hb1.trans (hb2.mono hb1.size))
      go_wp2_with fail
      refine (fits_is HR.out.symm _ hp hs (isWordB_small hwd)).mono ?_
      rintro e w3 ⟨rfl, hb3⟩
      go_wp2
      go_ret
      exact ⟨rfl, HB2.out.trans (hb3.mono HB2.out.size)⟩
end Go.Proofs.Ytpjekfebpgjgnaa
