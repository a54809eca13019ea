/-
  Patterns: the model's functions.
-/
import Derived.Test.YtpjekfebpgjgnaaC1
import Derived.Test.YtpjekfebpgjgnaaUA
import Derived.Test.YtpjekfebpgjgnaaL0
import Derived.Deep.QuietTactic
namespace Go.Proofs.Ytpjekfebpgjgnaa
open Go.RowKit

structure Sh10 (p : Prop) : Prop where
  out : p
theorem vow_eq (c : Int) : vowB c = ((c == 97) || (c == 101) || (c == 105) || (c == 111) || (c == 117)) := rfl
theorem l10Vowel_any (c : Int) (w : World) : Calls Try.prog 168 #[.int .u8 c] w fun e w' => e = .returned (.bool (vowB c)) ∧ w' = w := by
  have HV := Sh10.mk (vow_eq c)
  cases h1 : (c == 97)
  · cases h2 : (c == 101)
    · cases h3 : (c == 105)
      · cases h4 : (c == 111)
        · cases h5 : (c == 117)
          · have HR := Sh10.mk (HV.out.trans (by rw [h1, h2, h3, h4, h5]; rfl) : vowB c = false)
            clear HV
            go_enter Try.func168, Try.ntmps168
            go_wp2
            go_ret
            exact ⟨ret_bool HR.out.symm, rfl⟩
          · have HR := Sh10.mk (HV.out.trans (by rw [h1, h2, h3, h4, h5]; rfl) : vowB c = true)
            clear HV
            go_enter Try.func168, Try.ntmps168
            go_wp2
            go_ret
            exact ⟨ret_bool HR.out.symm, rfl⟩
        · have HR := Sh10.mk (HV.out.trans (by rw [h1, h2, h3, h4]; rfl) : vowB c = true)
          clear HV
          go_enter Try.func168, Try.ntmps168
          go_wp2
          go_ret
          exact ⟨ret_bool HR.out.symm, rfl⟩
      · have HR := Sh10.mk (HV.out.trans (by rw [h1, h2, h3]; simp) : vowB c = true)
        clear HV
        go_enter Try.func168, Try.ntmps168
        go_wp2
        go_ret
        exact ⟨ret_bool HR.out.symm, rfl⟩
    · have HR := Sh10.mk (HV.out.trans (by rw [h1, h2]; simp) : vowB c = true)
      clear HV
      go_enter Try.func168, Try.ntmps168
      go_wp2
      go_ret
      exact ⟨ret_bool HR.out.symm, rfl⟩
  · have HR := Sh10.mk (HV.out.trans (by rw [h1]; simp) : vowB c = true)
    clear HV
    go_enter Try.func168, Try.ntmps168
    go_wp2
    go_ret
    exact ⟨ret_bool HR.out.symm, rfl⟩

theorem byteP_dot {p c : Int} (h : (p == 46) = true) : byteP p c = true := by unfold byteP; rw [if_pos (beq_iff_eq.1 h)]
theorem byteP_vow {p c : Int} (h : (p == 46) = false) (h2 : (p == 64) = true) : byteP p c = vowB c := by unfold byteP; rw [if_neg (beq_eq_false_iff_ne.1 h), if_pos (beq_iff_eq.1 h2)]
theorem byteP_oth {p c : Int} (h : (p == 46) = false) (h2 : (p == 64) = false) (h3 : (p == 35) = true) : byteP p c = !vowB c := by unfold byteP; rw [if_neg (beq_eq_false_iff_ne.1 h), if_neg (beq_eq_false_iff_ne.1 h2), if_pos (beq_iff_eq.1 h3)]
theorem byteP_let {p c : Int} (h : (p == 46) = false) (h2 : (p == 64) = false) (h3 : (p == 35) = false) : byteP p c = (p == c) := by unfold byteP; rw [if_neg (beq_eq_false_iff_ne.1 h), if_neg (beq_eq_false_iff_ne.1 h2), if_neg (beq_eq_false_iff_ne.1 h3)]; rfl
theorem l10Byte_any (p c : Int) (w : World) : Calls Try.prog 135 #[.int .u8 p, .int .u8 c] w fun e w' => e = .returned (.bool (byteP p c)) ∧ w' = w := by
  cases h1 : (p == 46)
  · cases h2 : (p == 64)
    · cases h3 : (p == 35)
      · have HR := Sh10.mk (byteP_let (c := c) h1 h2 h3)
        go_enter Try.func135, Try.ntmps135
        go_wp2
        go_ret
        exact ⟨ret_bool HR.out.symm, rfl⟩
      · have HR := Sh10.mk (byteP_oth (c := c) h1 h2 h3)
        go_enter Try.func135, Try.ntmps135
        go_wp2_with fail
        refine (l10Vowel_any c _).mono ?_
        rintro e w' ⟨rfl, rfl⟩
        go_wp2
        go_ret
        exact ⟨ret_bool HR.out.symm, rfl⟩
    · have HR := Sh10.mk (byteP_vow (c := c) h1 h2)
      go_enter Try.func135, Try.ntmps135
      go_wp2_with fail
      refine (l10Vowel_any c _).mono ?_
      rintro e w' ⟨rfl, rfl⟩
      go_wp2
      go_ret
      exact ⟨ret_bool HR.out.symm, rfl⟩
  · have HR := Sh10.mk (byteP_dot (c := c) h1)
    go_enter Try.func135, Try.ntmps135
    go_wp2
    go_ret
    exact ⟨ret_bool HR.out.symm, rfl⟩

set_option maxHeartbeats 1000000 in
theorem l10Ok_any (s : ByteArray) (w : World) (hs : s.size ≤ maxLen) :
    Calls Try.prog 70 #[.string s] w fun e w' => e = .returned (.bool (okP s)) ∧ w' = w := by
  unfold maxLen at hs
  go_enter Try.func70, Try.ntmps70
  go_wp2
  go_loop [3, 4] (fun n i => ∃ k : Nat, k ≤ s.size ∧ i = .int .i64 k ∧ Sh10 (n = .int .i64 (starsN (s.data.toList.take k) : Nat)) ∧ Sh10 (starsN (s.data.toList.take k) ≤ k) ∧ Sh10 (allPat (s.data.toList.take k) = true)) (fun _ i => s.size - (intOf i).toNat)
  case atStart => exact ⟨0, Nat.zero_le _, rfl, ⟨rfl⟩, ⟨Nat.le_refl _⟩, ⟨rfl⟩⟩
  case round =>
    obtain ⟨k, hk, rfl, ⟨hn⟩, hle, ha⟩ := hrel
    subst hn
    by_cases hlt : k < s.size
    · have HG := Sh10.mk (allPat_grows s k hlt)
      have HS := Sh10.mk (starsN_grows s k hlt)
      have hno := okP_not s k hlt
      have hn1 := hle.out
      obtain ⟨N, hN⟩ : ∃ N, starsN (s.data.toList.take k) = N := ⟨_, rfl⟩
      rw [hN] at HS hn1 ⊢
      obtain ⟨B, hB⟩ : ∃ B : Int, ((s[k]'hlt).toNat : Int) = B := ⟨_, rfl⟩
      rw [hB] at HG HS hno
      by_cases h42 : B = 42
      · have hb : (B == 42) = true := beq_iff_eq.2 h42
        have HP := Sh10.mk (show patB B = true by rw [h42]; rfl)
        rw [if_pos h42] at HS
        clear hno h42
        go_wp2
        go_round
        case rel => exact ⟨k + 1, by omega, by go_num, ⟨by rw [HS.out]; go_num⟩, ⟨by rw [HS.out]; omega⟩, ⟨by rw [HG.out, ha.out, HP.out]; rfl⟩⟩
        case measure => simp [intOf]; omega
      · have hb : (B == 42) = false := beq_eq_false_iff_ne.2 h42
        rw [if_neg h42] at HS
        cases hsm : smallB B
        · by_cases h46 : B = 46
          · have hb1 : (B != 46) = false := by rw [h46]; rfl
            have HP := Sh10.mk (show patB B = true by rw [h46]; rfl)
            have HB := Sh10.mk hsm
            clear hno h42 h46 hsm
            go_wp2_with (go_at_call 133; refine (l01Small_any _ _).mono ?_; rw [HB.out]; rintro e w' ⟨rfl, rfl⟩)
            go_round
            case rel => exact ⟨k + 1, by omega, by go_num, ⟨by rw [HS.out]; go_num⟩, ⟨by rw [HS.out]; omega⟩, ⟨by rw [HG.out, ha.out, HP.out]; rfl⟩⟩
            case measure => simp [intOf]; omega
          · have hb1 : (B != 46) = true := bne_iff_ne.2 h46
            by_cases h64 : B = 64
            · have hb2 : (B != 64) = false := by rw [h64]; rfl
              have HP := Sh10.mk (show patB B = true by rw [h64]; rfl)
              have HB := Sh10.mk hsm
              clear hno h42 h46 h64 hsm
              go_wp2_with (go_at_call 133; refine (l01Small_any _ _).mono ?_; rw [HB.out]; rintro e w' ⟨rfl, rfl⟩)
              go_round
              case rel => exact ⟨k + 1, by omega, by go_num, ⟨by rw [HS.out]; go_num⟩, ⟨by rw [HS.out]; omega⟩, ⟨by rw [HG.out, ha.out, HP.out]; rfl⟩⟩
              case measure => simp [intOf]; omega
            · have hb2 : (B != 64) = true := bne_iff_ne.2 h64
              by_cases h35 : B = 35
              · have hb3 : (B != 35) = false := by rw [h35]; rfl
                have HP := Sh10.mk (show patB B = true by rw [h35]; rfl)
                have HB := Sh10.mk hsm
                clear hno h42 h46 h64 h35 hsm
                go_wp2_with (go_at_call 133; refine (l01Small_any _ _).mono ?_; rw [HB.out]; rintro e w' ⟨rfl, rfl⟩)
                go_round
                case rel => exact ⟨k + 1, by omega, by go_num, ⟨by rw [HS.out]; go_num⟩, ⟨by rw [HS.out]; omega⟩, ⟨by rw [HG.out, ha.out, HP.out]; rfl⟩⟩
                case measure => simp [intOf]; omega
              · have hb3 : (B != 35) = true := bne_iff_ne.2 h35
                have HN := Sh10.mk (hno (patB_none hsm h42 h46 h64 h35))
                have HB := Sh10.mk hsm
                clear hno h42 h46 h64 h35 hsm
                go_wp2_with (go_at_call 133; refine (l01Small_any _ _).mono ?_; rw [HB.out]; rintro e w' ⟨rfl, rfl⟩)
                go_ret
                exact ⟨ret_bool HN.out.symm, rfl⟩
        · have HP := Sh10.mk (patB_small hsm)
          have HB := Sh10.mk hsm
          clear hno h42 hsm
          go_wp2_with (go_at_call 133; refine (l01Small_any _ _).mono ?_; rw [HB.out]; rintro e w' ⟨rfl, rfl⟩)
          go_round
          case rel => exact ⟨k + 1, by omega, by go_num, ⟨by rw [HS.out]; go_num⟩, ⟨by rw [HS.out]; omega⟩, ⟨by rw [HG.out, ha.out, HP.out]; rfl⟩⟩
          case measure => simp [intOf]; omega
    · have hk' : k = s.size := by omega
      have ha' : allPat s.data.toList = true := by rw [← take_all s, ← hk']; exact ha.out
      have hst : starsN (s.data.toList.take k) = starsN s.data.toList := by rw [hk', take_all]
      have HA := Sh10.mk (okP_all ha')
      have hn1 := hle.out
      rw [hst] at hn1 ⊢
      obtain ⟨N, hN⟩ : ∃ N, starsN s.data.toList = N := ⟨_, rfl⟩
      rw [hN] at HA hn1 ⊢
      clear ha' hst ha hle hN
      cases hin : inB (s.size : Int) 1 12
      · have HR := Sh10.mk (HA.out.trans (by rw [hin]; rfl) : okP s = false)
        have HI := Sh10.mk hin
        clear hin HA
        go_wp2_with (go_at_call 134; refine (l00In_any _ _ _ _).mono ?_; rw [HI.out]; rintro e w' ⟨rfl, rfl⟩)
        go_ret
        exact ⟨ret_bool HR.out.symm, rfl⟩
      · have HR := Sh10.mk (HA.out.trans (by rw [hin]; exact (Bool.true_and _).trans (decide_eq_decide.2 (by omega))) : okP s = decide ((N : Int) ≤ 3))
        have HI := Sh10.mk hin
        clear hin HA
        go_wp2_with (go_at_call 134; refine (l00In_any _ _ _ _).mono ?_; rw [HI.out]; rintro e w' ⟨rfl, rfl⟩)
        go_ret
        exact ⟨ret_bool HR.out.symm, rfl⟩

theorem specValidPattern_any (s : ByteArray) (w : World) (hs : s.size ≤ maxLen) :
    Calls Try.prog 26 #[.string s] w fun e w' => e = .returned (.bool (okP s)) ∧ w' = w := by
  go_enter Try.func26, Try.ntmps26
  go_wp2_with fail
  refine (l10Ok_any s _ hs).mono ?_
  rintro e w' ⟨rfl, rfl⟩
  go_wp2
  go_ret
  exact ⟨rfl, rfl⟩
theorem okp_is {s : ByteArray} {b : Bool} (h : okP s = b) (w : World) (hs : s.size ≤ maxLen) : Calls Try.prog 70 #[.string s] w fun e w' => e = .returned (.bool b) ∧ w' = w := by rw [← h]; exact l10Ok_any s w hs

set_option maxHeartbeats 1000000 in
theorem l10Match_any : ∀ (n : Nat) (p s : ByteArray) (w : World), p.size + s.size ≤ n → p.size ≤ 1048576 → s.size ≤ 1048576 →
    Calls Try.prog 71 #[.string p, .string s] w fun e w' => e = .returned (.bool (fitsP p s)) ∧ ∃ k, w' = w.drewN k := by
  intro n
  induction n with
  | zero =>
    intro p s w hn hp hs
    have hE := empty_yes (s := p) (by omega)
    have hE2 := empty_yes (s := s) (by omega)
    have HR := Sh10.mk ((fitsP_end (s := s) (show p.size = 0 by omega)).trans (decide_eq_true (by omega)))
    go_enter Try.func71, Try.ntmps71
    go_wp2
    go_ret
    exact ⟨ret_bool HR.out.symm, 0, rfl⟩
  | succ n ih =>
    intro p s w hn hp hs
    have IH := Sh10.mk ih
    clear ih
    rcases Nat.eq_zero_or_pos p.size with h0 | h0
    · have hE := empty_yes h0
      have HR := Sh10.mk (fitsP_end (s := s) h0)
      rcases Nat.eq_zero_or_pos s.size with hs0 | hs0
      · have hE2 := empty_yes hs0
        have HR2 := Sh10.mk (HR.out.trans (decide_eq_true hs0))
        clear HR h0 hs0
        go_enter Try.func71, Try.ntmps71
        go_wp2
        go_ret
        exact ⟨ret_bool HR2.out.symm, 0, rfl⟩
      · have hE2 := empty_no hs0
        have HR2 := Sh10.mk (HR.out.trans (decide_eq_false (by omega)))
        clear HR h0 hs0
        go_enter Try.func71, Try.ntmps71
        go_wp2
        go_ret
        exact ⟨ret_bool HR2.out.symm, 0, rfl⟩
    · have hE := empty_no h0
      have htp := tailS_size p
      have hts := tailS_size s
      have h1p : (1 : Int) ≤ (p.size : Int) := by omega
      have hFse := fun a b => fitsP_star_end (p := p) (s := s) h0 a b
      have hFs := fun a b => fitsP_star (p := p) (s := s) h0 a b
      have hFbe := fun a b => fitsP_byte_end (p := p) (s := s) h0 a b
      have hFb := fun a b => fitsP_byte (p := p) (s := s) h0 a b
      obtain ⟨B, hB⟩ : ∃ B : Int, ((p[0]'h0).toNat : Int) = B := ⟨_, rfl⟩
      rw [hB] at hFse hFs hFbe hFb
      have HI1 := Sh10.mk (fun w => IH.out (tailS p) s w (by omega) (by omega) hs)
      by_cases h42 : B = 42
      · have hb : (B == 42) = true := beq_iff_eq.2 h42
        rcases Nat.eq_zero_or_pos s.size with hs0 | hs0
        · have hE2 := empty_yes hs0
          have HR := Sh10.mk (hFse hs0 h42)
          obtain ⟨b, hbb⟩ : ∃ b, fitsP (tailS p) s = b := ⟨_, rfl⟩
          rw [hbb] at HR HI1
          clear hFse hFs hFbe hFb h42 hs0 hbb
          unfold tailS at HI1
          go_enter Try.func71, Try.ntmps71
          go_wp2_with fail
          refine (HI1.out _).mono ?_
          cases b
          all_goals
            rintro e w' ⟨rfl, k, rfl⟩
            go_wp2
            go_ret
            exact ⟨ret_bool HR.out.symm, _, rfl⟩
        · have hE2 := empty_no hs0
          have h1s : (1 : Int) ≤ (s.size : Int) := by omega
          have hE3 := empty_notnil hs0
          have HR := Sh10.mk (hFs hs0 h42)
          have HI2 := Sh10.mk (fun w => IH.out p (tailS s) w (by omega) (by omega) (by omega))
          obtain ⟨b, hbb⟩ : ∃ b, fitsP (tailS p) s = b := ⟨_, rfl⟩
          obtain ⟨b2, hbb2⟩ : ∃ b2, fitsP p (tailS s) = b2 := ⟨_, rfl⟩
          rw [hbb] at HR HI1
          rw [hbb2] at HR HI2
          unfold tailS at HI2
          clear hFse hFs hFbe hFb h42 hs0 hbb hbb2
          unfold tailS at HI1
          go_enter Try.func71, Try.ntmps71
          go_wp2_with fail
          refine (HI1.out _).mono ?_
          cases b
          · rintro e w' ⟨rfl, k, rfl⟩
            go_wp2_with fail
            refine (HI2.out _).mono ?_
            rintro e w' ⟨rfl, k2, rfl⟩
            go_wp2
            go_ret
            exact ⟨ret_bool HR.out.symm, k + k2, rfl⟩
          · rintro e w' ⟨rfl, k, rfl⟩
            go_wp2
            go_ret
            exact ⟨ret_bool HR.out.symm, _, rfl⟩
      · have hb : (B == 42) = false := beq_eq_false_iff_ne.2 h42
        rcases Nat.eq_zero_or_pos s.size with hs0 | hs0
        · have hE2 := empty_yes hs0
          have hE3 := empty_nil hs0
          have HR := Sh10.mk (hFbe hs0 h42)
          clear hFse hFs hFbe hFb h42 hs0
          unfold tailS at HI1
          go_enter Try.func71, Try.ntmps71
          go_wp2
          go_quiet (fail)
          go_wp2
          go_ret
          exact ⟨ret_bool HR.out.symm, _, rfl⟩
        · have hE2 := empty_no hs0
          have h1s : (1 : Int) ≤ (s.size : Int) := by omega
          have hE3 := empty_notnil hs0
          have HR := Sh10.mk (hFb hs0 h42)
          have HI2 := Sh10.mk (fun w => IH.out (tailS p) (tailS s) w (by omega) (by omega) (by omega))
          obtain ⟨b2, hbb2⟩ : ∃ b2, fitsP (tailS p) (tailS s) = b2 := ⟨_, rfl⟩
          rw [hbb2] at HR HI2
          unfold tailS at HI2
          obtain ⟨D, hD⟩ : ∃ D : Int, ((s[0]'hs0).toNat : Int) = D := ⟨_, rfl⟩
          rw [hD] at HR
          have HBY := Sh10.mk (fun w => l10Byte_any B D w)
          obtain ⟨b, hbb⟩ : ∃ b, byteP B D = b := ⟨_, rfl⟩
          rw [hbb] at HR HBY
          clear hFse hFs hFbe hFb h42 hbb hbb2
          unfold tailS at HI1
          go_enter Try.func71, Try.ntmps71
          cases b
          · go_wp2
            go_quiet (first | (go_at_call 135; exact Calls.quiet_of_same (HBY.out _)))
            go_wp2
            go_ret
            exact ⟨ret_bool HR.out.symm, _, rfl⟩
          · go_wp2
            go_quiet (first | (go_at_call 135; exact Calls.quiet_of_same (HBY.out _)) | (go_at_call 71; exact Calls.quiet_of (HI2.out _)))
            go_wp2
            go_ret
            exact ⟨ret_bool HR.out.symm, _, rfl⟩

theorem fit_is {p s : ByteArray} {b : Bool} (h : fitsP p s = b) (w : World) (hp : p.size ≤ 1048576) (hs : s.size ≤ 1048576) : Calls Try.prog 71 #[.string p, .string s] w fun e w' => e = .returned (.bool b) ∧ ∃ k, w' = w.drewN k := by
  rw [← h]; exact l10Match_any _ p s w (Nat.le_refl _) hp hs
set_option maxHeartbeats 1000000 in
theorem specMatchPattern_any (p s : ByteArray) (w : World) (hp : p.size ≤ 1048576) (hs : s.size ≤ 1048576) :
    Calls Try.prog 28 #[.string p, .string s] w fun e w' => e = .returned (.bool (matchB10 p s)) ∧ Below w.heap.size w w' := by
  have hpm : p.size ≤ maxLen := by unfold maxLen; omega
  have hsm : s.size ≤ maxLen := by unfold maxLen; omega
  cases hok : okP p
  · have HR := Sh10.mk (matchB10_pat (s := s) hok)
    go_enter Try.func28, Try.ntmps28
    go_wp2_with fail
    refine (okp_is hok _ hpm).mono ?_
    rintro e w' ⟨rfl, rfl⟩
    go_wp2
    go_ret
    exact ⟨ret_bool HR.out.symm, Below.refl _ _⟩
  · cases hwd : isWordB s.data.toList
    · have HR := Sh10.mk (matchB10_word (p := p) hwd)
      go_enter Try.func28, Try.ntmps28
      go_wp2_with fail
      refine (okp_is hok _ hpm).mono ?_
      rintro e w' ⟨rfl, rfl⟩
      go_wp2_with fail
      refine (specIsWord_any s _ hsm).mono ?_
      rw [hwd]
      rintro e w' ⟨rfl, rfl⟩
      go_wp2
      go_ret
      exact ⟨ret_bool HR.out.symm, Below.refl _ _⟩
    · have HR := Sh10.mk (matchB10_yes (p := p) hok hwd)
      go_enter Try.func28, Try.ntmps28
      go_wp2_with fail
      refine (okp_is hok _ hpm).mono ?_
      rintro e w' ⟨rfl, rfl⟩
      go_wp2_with fail
      refine (specIsWord_any s _ hsm).mono ?_
      rw [hwd]
      rintro e w' ⟨rfl, rfl⟩
      go_wp2_with fail
      refine (fit_is HR.out.symm _ hp hs).mono ?_
      rintro e w' ⟨rfl, k, rfl⟩
      go_wp2
      go_ret
      exact ⟨rfl, below_drewN (Below.refl _ _) _⟩
end Go.Proofs.Ytpjekfebpgjgnaa
