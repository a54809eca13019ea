/-
  The model's functions on affixes: matching, making, undoing.
-/
import Derived.Test.YtilagppmljpclaaF3
namespace Go.Proofs.Ytilagppmljpclaa
open Go.RowKit

theorem agree_dot {x y : Int} (h : x = 46) : agreeB x y = true := by simp [agreeB, h]
theorem agree_same {x y : Int} (h : x = y) : agreeB x y = true := by simp [agreeB, h]
theorem agree_not {x y : Int} (h1 : ¬ x = 46) (h2 : ¬ x = y) : agreeB x y = false := by simp [agreeB, h1, h2]
theorem AffAt.drewN {W : World} {g o : Nat} {f : Bool} {n w s a : ByteArray} (h : AffAt W g o f n w s a) (m : Nat) : AffAt (W.drewN m) g o f n w s a := ⟨h.c0, h.c1, h.c2, h.c3, h.c4⟩

set_option maxRecDepth 100000 in
set_option maxHeartbeats 4000000 in
theorem l04Matches_any {g o : Nat} {f : Bool} {n w s a : ByteArray} (W : World) (hg : AffAt W g o f n w s a) (word : ByteArray) (hw : w.size ≤ maxLen) (_hs : s.size ≤ maxLen) (hwd : word.size ≤ maxLen) :
    Calls Try.prog 174 #[.pointer (some ⟨g, o, none⟩), .string word] W fun e w' => e = .returned (.bool (matchX f w s word)) ∧ ∃ k, w' = W.drewN k := by
  have hwd' := hwd
  unfold maxLen at hw hwd'
  have c2 := hg.c2
  have c3 := hg.c3
  by_cases h1 : w.size ≤ word.size
  · have HNOT := Shh.mk (fun h => matchX_not (f := f) (w := w) (s := s) (word := word) h)
    have HFIT := Shh.mk (fun h => matchX_fit (f := f) (w := w) (s := s) (word := word) h1 h)
    have hEs := endX_size f word h1
    obtain ⟨E, hE⟩ : ∃ E, endX f word w.size = E := ⟨_, rfl⟩
    rw [hE] at HNOT HFIT hEs
    have HE := Shh.mk hE
    clear hE
    go_enter Try.func174, Try.ntmps174
    go_wp2_with fail
    refine (l04End_yes _ hg word w.size h1 hwd HE.out).mono ?_
    rintro e w' ⟨rfl, rfl⟩
    go_wp2
    go_loopw [7] (fun i wr => ∃ k m : Nat, k ≤ w.size ∧ i = .int .i64 k ∧ wr = W.drewN m ∧ Hid (agreeTo w E k = true)) (fun i _ => w.size - (intOf i).toNat)
    case atStart => exact ⟨0, 0, Nat.zero_le _, rfl, rfl, agreeTo_zero _ _⟩
    case round =>
      obtain ⟨k, m, hk, rfl, rfl, ha⟩ := hrel
      by_cases hlt : k < w.size
      · have hlE : k < E.size := by omega
        have hs1 := agreeTo_succ w E k
        have hno := agreeTo_not (p := w) (q := E) (n := w.size) hlt
        rw [byteAt_eq w k hlt, byteAt_eq E k hlE] at hs1 hno
        have HS1 := Shh.mk hs1
        have hdw : decide (k < w.size) = true := decide_eq_true hlt
        have hdE : decide (k < E.size) = true := decide_eq_true hlE
        by_cases h46 : ((w[k]'hlt).toNat : Int) = 46
        · have hA := Shh.mk (agree_dot (y := ((E[k]'hlE).toNat : Int)) h46)
          have hb : (((w[k]'hlt).toNat : Int) != 46) = false := by simp [h46]
          clear hs1 hno h46
          go_wp2
          go_quiet (fail)
          go_wp2
          go_roundw
          case rel => exact ⟨k + 1, _, by omega, by go_num, by first | rfl | exact World.drewN_drewN _ _ _, by rw [Hid, HS1.out, ha.out, hA.out]; rfl⟩
          case measure => simp [intOf]; omega
        · have hb : (((w[k]'hlt).toNat : Int) != 46) = true := by simpa using h46
          by_cases hsm : ((w[k]'hlt).toNat : Int) = ((E[k]'hlE).toNat : Int)
          · have hA := Shh.mk (agree_same hsm)
            have hb2 : (((w[k]'hlt).toNat : Int) != ((E[k]'hlE).toNat : Int)) = false := by simp [hsm]
            clear hs1 hno h46 hsm
            go_wp2
            go_quiet (fail)
            go_wp2
            go_roundw
            case rel => exact ⟨k + 1, _, by omega, by go_num, by first | rfl | exact World.drewN_drewN _ _ _, by rw [Hid, HS1.out, ha.out, hA.out]; rfl⟩
            case measure => simp [intOf]; omega
          · have HN := Shh.mk (HNOT.out (hno (agree_not h46 hsm)))
            have hb2 : (((w[k]'hlt).toNat : Int) != ((E[k]'hlE).toNat : Int)) = true := by simpa using hsm
            clear hs1 hno h46 hsm
            go_wp2
            go_quiet (fail)
            go_wp2
            go_ret
            exact ⟨ret_bool HN.out.symm, _, by first | rfl | exact World.drewN_drewN _ _ _⟩
      · have hk' : k = w.size := by omega
        have HR := Shh.mk (HFIT.out (by rw [← hk']; exact ha.out))
        clear hk' ha HFIT HNOT
        by_cases h2 : s.size ≤ word.size
        · have HT := Shh.mk (fitX_short (f := f) h2)
          obtain ⟨X, hX⟩ : ∃ X, endX f word s.size = X := ⟨_, rfl⟩
          rw [hX] at HT
          have HX := Shh.mk hX
          clear hX
          go_wp2_with fail
          refine (l04End_yes _ (hg.drewN m) word s.size h2 hwd HX.out).mono ?_
          rintro e w' ⟨rfl, rfl⟩
          go_wp2
          go_ret
          exact ⟨ret_bool (by rw [HR.out, HT.out]), _, rfl⟩
        · have HT := Shh.mk (fitX_long (f := f) h2)
          go_wp2_with fail
          refine (l04End_no _ word s.size h2).mono ?_
          rintro e w' ⟨rfl, rfl⟩
          go_wp2
          go_ret
          exact ⟨ret_bool (by rw [HR.out, HT.out]), _, rfl⟩
  · have HR := hid (matchX_short (f := f) (s := s) h1)
    go_enter Try.func174, Try.ntmps174
    go_wp2_with fail
    refine (l04End_no _ word w.size h1).mono ?_
    rintro e w' ⟨rfl, rfl⟩
    go_wp2
    go_ret
    exact ⟨ret_bool HR.out.symm, 0, rfl⟩

theorem matches_is {g o : Nat} {f : Bool} {n w s a word : ByteArray} {v : Bool} (h : matchX f w s word = v) (W : World) (hg : AffAt W g o f n w s a) (hw : w.size ≤ maxLen) (hs : s.size ≤ maxLen) (hwd : word.size ≤ maxLen) :
    Calls Try.prog 174 #[.pointer (some ⟨g, o, none⟩), .string word] W fun e w' => e = .returned (.bool v) ∧ ∃ k, w' = W.drewN k := by
  rw [← h]; exact l04Matches_any W hg word hw hs hwd
theorem affix_is {g o : Nat} {f : Bool} {n w s a : ByteArray} {v : Bool} (h : affB n w s a = v) (W : World) (hg : AffAt W g o f n w s a) (hn : n.size ≤ maxLen) (hw : w.size ≤ maxLen) (hs : s.size ≤ maxLen) (ha : a.size ≤ maxLen) :
    Calls Try.prog 122 #[.pointer (some ⟨g, o, none⟩)] W fun e w' => e = .returned (.bool v) ∧ ∃ k, w' = W.drewN k := by
  rw [← h]; exact l04Affix_any W hg hn hw hs ha


theorem ret_x {p : ByteArray × Int} {s : ByteArray} {c : Int} (h : p = (s, c)) : Ending.returned (.tuple #[.string s, .int .i64 c]) = .returned (retX p) := by rw [h]; rfl
theorem quietG {P : Program} {f : FuncId} {args : Array Value} {w : World} {n : Nat} {v : Value} (h : Calls P f args (w.drewN n) fun e w' => e = .returned v ∧ ∃ k, w' = (w.drewN n).drewN k) : Calls P f args (w.drewN n) fun e w'' => e = .returned v ∧ ∃ m, w'' = w.drewN m := Calls.quiet_of h
set_option maxRecDepth 100000 in
set_option maxHeartbeats 4000000 in
theorem l04Apply_any {g o : Nat} {f : Bool} {n w s a : ByteArray} (W : World) (hg : AffAt W g o f n w s a) (word : ByteArray) (hw : w.size ≤ maxLen) (hs : s.size ≤ maxLen) (ha : a.size ≤ 1000) (hwd : word.size ≤ 1000) :
    Calls Try.prog 125 #[.pointer (some ⟨g, o, none⟩), .string word] W fun e w' => e = .returned (retX (applyX f w s a word)) ∧ ∃ k, w' = W.drewN k := by
  have hwd' : word.size ≤ maxLen := by unfold maxLen; omega
  cases h1 : matchX f w s word
  · have HR := hid (applyX_no (a := a) h1)
    have H1 := hid h1
    clear h1
    go_enter Try.func125, Try.ntmps125
    go_wp2_with fail
    refine (matches_is H1.out _ hg hw hs hwd').mono ?_
    rintro e w' ⟨rfl, k, rfl⟩
    go_wp2
    go_ret2
    exact ⟨ret_x HR.out, _, rfl⟩
  · have hsz := fitX_size (matchX_fits h1)
    have hrs := restX_size f word hsz
    have hjs := joinX_size f (restX f word s.size) a
    have h20 := fun h => applyX_short (a := a) h1 h
    have h21 := fun h => applyX_yes (a := a) h1 h
    obtain ⟨R, hR⟩ : ∃ R, restX f word s.size = R := ⟨_, rfl⟩
    rw [hR] at hrs hjs h20 h21
    obtain ⟨O, hO⟩ : ∃ O, joinX f R a = O := ⟨_, rfl⟩
    rw [hO] at hjs h20 h21
    have hOm : O.size ≤ maxLen := by unfold maxLen; omega
    have HRR := Shh.mk hR
    have HO := Shh.mk hO
    have H1 := hid h1
    clear hR hO h1
    cases h2 : longB O
    · have HR := Shh.mk (h20 h2)
      have H2 := hid h2
      clear h20 h21 h2
      go_enter Try.func125, Try.ntmps125
      go_wp2_with fail
      refine (matches_is H1.out _ hg hw hs hwd').mono ?_
      rintro e w1 ⟨rfl, k, hk⟩
      have HK := Shh.mk hk
      have hgk : AffAt w1 g o f n w s a := by rw [hk]; exact hg.drewN k
      have c3 := hgk.c3
      have c4 := hgk.c4
      clear hk
      go_wp2
      go_quiet (first | (go_at_call 176; exact quietF (l04Rest_any _ (hgk.drewN _) word s.size hsz hwd' HRR.out)) | (go_at_call 175; exact quietF (l04Join_any _ (hgk.drewN _) R a (by omega) (by omega) HO.out)))
      go_wp2_with fail
      refine (long_is H2.out _ hOm).mono ?_
      rintro e w' ⟨rfl, rfl⟩
      go_wp2
      go_ret2
      exact ⟨ret_x HR.out, _, by rw [HK.out]; exact World.drewN_drewN _ _ _⟩
    · have HR := Shh.mk (h21 h2)
      have H2 := hid h2
      clear h20 h21 h2
      go_enter Try.func125, Try.ntmps125
      go_wp2_with fail
      refine (matches_is H1.out _ hg hw hs hwd').mono ?_
      rintro e w1 ⟨rfl, k, hk⟩
      have HK := Shh.mk hk
      have hgk : AffAt w1 g o f n w s a := by rw [hk]; exact hg.drewN k
      have c3 := hgk.c3
      have c4 := hgk.c4
      clear hk
      go_wp2
      go_quiet (first | (go_at_call 176; exact quietF (l04Rest_any _ (hgk.drewN _) word s.size hsz hwd' HRR.out)) | (go_at_call 175; exact quietF (l04Join_any _ (hgk.drewN _) R a (by omega) (by omega) HO.out)))
      go_wp2_with fail
      refine (long_is H2.out _ hOm).mono ?_
      rintro e w' ⟨rfl, rfl⟩
      go_wp2
      go_ret2
      exact ⟨ret_x HR.out, _, by rw [HK.out]; exact World.drewN_drewN _ _ _⟩
end Go.Proofs.Ytilagppmljpclaa
