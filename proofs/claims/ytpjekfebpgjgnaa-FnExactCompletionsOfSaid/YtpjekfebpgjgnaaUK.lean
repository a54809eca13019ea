/-
  The letters in front of a word and behind it that make words: both sides.
-/
import Derived.Test.YtpjekfebpgjgnaaUJ
import Derived.Test.YtpjekfebpgjgnaaUH
import Derived.Test.YtpjekfebpgjgnaaL7
import Derived.Deep.RegionHeld3
namespace Go.Proofs.Ytpjekfebpgjgnaa
open Go.RowKit

/-- A letter in front of a string (f), or behind it. -/
def hookS (f : Bool) (s : ByteArray) (k : Nat) : ByteArray := if f then letS k ++ s else s ++ letS k
def hookOut (f : Bool) (us : List ByteArray) (s : ByteArray) (c : Int) : ByteArray × Int := if c = 0 then (⟨(letsTo (fun k => hasL us (hookS f s k)) 26).toArray⟩, 0) else (⟨#[]⟩, c)
theorem hookOut_bad {f : Bool} {us : List ByteArray} {s : ByteArray} {c : Int} (h : ¬ c = 0) : hookOut f us s c = (⟨#[]⟩, c) := if_neg h
theorem hookOut_yes {f : Bool} {us : List ByteArray} {s : ByteArray} : hookOut f us s 0 = (⟨(letsTo (fun k => hasL us (hookS f s k)) 26).toArray⟩, 0) := if_pos rfl
def retT (p : ByteArray × Int) : Value := .tuple #[.string p.1, .int .i64 p.2]
theorem letS_size (k : Nat) : (letS k).size = 1 := rfl
theorem hook_front (s : ByteArray) (k : Nat) : (⟨#[]⟩ ++ letS k : ByteArray) ++ s = hookS true s k := by
  unfold hookS
  rw [if_pos rfl]
  congr 1
theorem hook_back (s : ByteArray) (k : Nat) : (s ++ letS k) ++ (⟨#[]⟩ : ByteArray) = hookS false s k := by
  unfold hookS
  rw [if_neg (by decide)]
  apply bytesOf_inj
  simp [bytesOf]

/-! ### The model's -/
theorem lets_more (l : List UInt8) (k : Nat) : (⟨l.toArray⟩ ++ letS k : ByteArray) = ⟨(l ++ [letU k]).toArray⟩ := by
  apply bytesOf_inj
  simp [bytesOf, letS]
theorem one_letter (W : World) (k : Nat) : (convert 22 9 (.slice (some ⟨W.heap.size, 0, none⟩) 1 1)).run Try.prog (W.alloc (.cells #[.int .u8 ((97 + k : Nat) : Int)] 5)) = .ok (.string (letS k)) (W.alloc (.cells #[.int .u8 ((97 + k : Nat) : Int)] 5)) := by
  rw [one_byte]
  rfl
set_option maxRecDepth 100000 in
set_option maxHeartbeats 2000000 in
theorem l10Hooks_any {g : Nat} {v : Value} {us : List ByteArray} (a b : ByteArray) (h : Nat → ByteArray) (hh : ∀ k, (a ++ letS k) ++ b = h k) (W : World) (hg : LexAt W g v us) (ha : a.size + b.size ≤ 1048576) :
    Calls Try.prog 89 #[.pointer (some ⟨g, 0, none⟩), .string a, .string b] W fun e w' => e = .returned (.string ⟨(letsTo (fun k => hasL us (h k)) 26).toArray⟩) ∧ Below W.heap.size W w' := by
  have HG := ShE.mk hg
  have HH := ShE.mk hh
  obtain ⟨aa, ac, rfl, -⟩ := hg.strs
  clear hh hg
  go_enter Try.func89, Try.ntmps89
  go_wp2
  go_loopw [7, 8, 9] (fun o c _ wr => ∃ k : Nat, k ≤ 26 ∧ c = .int .u8 ((97 + k : Nat) : Int) ∧ ShE (o = .string ⟨(letsTo (fun k => hasL us (h k)) k).toArray⟩) ∧ ShE (Below W.heap.size W wr)) (fun _ c _ _ => 123 - (RowKit.intOf c).toNat)
  case atStart => exact ⟨0, Nat.zero_le _, rfl, ⟨rfl⟩, ⟨Below.refl _ _⟩⟩
  case round =>
    obtain ⟨k, hk, rfl, ⟨ho⟩, hb⟩ := hrel
    subst ho
    by_cases hlt : k < 26
    · have c0 := ((HG.out.belowG hb.out).blk.alloc (.cells #[.int .u8 ((97 + k : Nat) : Int)] 5)).cells
      have HS1 := ShE.mk ((HG.out.belowG hb.out).strs.alloc (.cells #[.int .u8 ((97 + k : Nat) : Int)] 5))
      have HB1 := ShE.mk (hb.out.alloc hb.out.size (.cells #[.int .u8 ((97 + k : Nat) : Int)] 5))
      have hcv := one_letter wr k
      have HLN := letsTo_len (fun k => hasL us (h k)) k
      have hS := letsTo_skip (q := fun k => hasL us (h k)) (n := k)
      have hM := letsTo_more (q := fun k => hasL us (h k)) (n := k)
      have HHK := ShE.mk (HH.out k)
      have HLM := ShE.mk (lets_more (letsTo (fun k => hasL us (h k)) k) k)
      have hl1 := letS_size k
      have hsz1 : (a ++ letS k).size = a.size + 1 := by rw [ByteArray.size_append, hl1]
      have hsz2 : ((⟨(letsTo (fun k => hasL us (h k)) k).toArray⟩ : ByteArray)).size ≤ 26 := by simp [ByteArray.size]; omega
      obtain ⟨S, hS0⟩ : ∃ S : ByteArray, ⟨(letsTo (fun k => hasL us (h k)) k).toArray⟩ = S := ⟨_, rfl⟩
      rw [hS0] at HLM hsz2 ⊢
      have HS0 := ShE.mk hS0
      obtain ⟨Y, hY⟩ : ∃ Y, letS k = Y := ⟨_, rfl⟩
      rw [hY] at hcv HHK HLM hl1 hsz1
      have hle : ((97 + k : Nat) : Int) ≤ 122 := by omega
      have hw1 : ((97 + k : Nat) : Int) + 1 = ((97 + (k + 1) : Nat) : Int) := by omega
      have hw2 : ((97 + k : Nat) : Int) + 1 < 256 := by omega
      have hw3 : (0 : Int) ≤ ((97 + k : Nat) : Int) := by omega
      have HW1 := ShE.mk hw1
      obtain ⟨C, hC⟩ : ∃ C : Int, ((97 + k : Nat) : Int) = C := ⟨_, rfl⟩
      have HC := ShE.mk hC
      rw [hC] at hcv hle hw2 hw3 c0 HS1 HB1 HW1 ⊢
      have g1 : ¬ 9223372036854775807 < a.size + Y.size := by omega
      have g2 : ¬ 9223372036854775807 < (a ++ Y).size + b.size := by omega
      have g3 : ¬ 9223372036854775807 < S.size + Y.size := by omega
      cases hq : hasL us (h k)
      · have HQ := ShE.mk hq
        have HE := ShE.mk (hS hq)
        clear hS hM hq hY hS0 hC hw1
        go_wp2_with fail
        rw [HHK.out]
        refine (l05Has_any _ (h k) HS1.out HQ.out).mono ?_
        rintro e w3 ⟨rfl, rfl⟩
        go_wp2
        go_roundw
        case rel => exact ⟨k + 1, by omega, by first | rfl | (rw [← HW1.out]) | go_num, ⟨by rw [HE.out, HS0.out]⟩, HB1⟩
        case measure => simp [RowKit.intOf]; omega
      · have HQ := ShE.mk hq
        have HE := ShE.mk (hM hq)
        clear hS hM hq hY hS0 hC hw1
        go_wp2_with fail
        rw [HHK.out]
        refine (l05Has_any _ (h k) HS1.out HQ.out).mono ?_
        rintro e w3 ⟨rfl, rfl⟩
        go_wp2
        go_roundw
        case rel => exact ⟨k + 1, by omega, by first | rfl | (rw [← HW1.out]) | go_num, ⟨by rw [HE.out, ← HLM.out]⟩, HB1⟩
        case measure => simp [RowKit.intOf]; omega
    · obtain rfl : k = 26 := by omega
      go_wp2
      go_ret
      exact ⟨rfl, hb.out⟩
set_option maxRecDepth 100000 in
set_option maxHeartbeats 2000000 in
theorem specFrontHooks_any {v : Value} {us : List ByteArray} (s : ByteArray) (W : World) (hu : Strs W v us) (hz : ∀ s ∈ us, s.size ≤ maxLen) (hs : s.size ≤ 1048576) :
    Calls Try.prog 36 #[.agg #[v], .string s] W fun e w' => e = .returned (retT (hookOut true us s (codeW us s))) ∧ Below W.heap.size W w' := by
  have HG := ShE.mk (LexAt.made hu)
  have HB := ShE.mk ((Below.refl W.heap.size W).alloc (Nat.le_refl _) (.cells #[v] 26))
  obtain ⟨c, hcw⟩ : ∃ c, codeW us s = c := ⟨_, rfl⟩
  have HCW := ShE.mk hcw
  by_cases hc0 : c = 0
  · subst hc0
    have HA := ShE.mk (show hookOut true us s (codeW us s) = (⟨(letsTo (fun k => hasL us (hookS true s k)) 26).toArray⟩, 0) by rw [hcw]; exact hookOut_yes)
    clear hcw
    go_enter Try.func36, Try.ntmps36
    go_wp2_with fail
    refine (code_is HCW.out _ HG.out hz hs).mono ?_
    rintro e w2 ⟨rfl, k, hw1⟩
    have HG2 := ShE.mk (show LexAt w2 W.heap.size _ us by rw [hw1]; exact HG.out.drewN k)
    have HB2 := ShE.mk (show Below W.heap.size W w2 by rw [hw1]; exact below_drewN HB.out k)
    clear hw1
    go_wp2_with fail
    refine (l10Hooks_any ⟨#[]⟩ s (hookS true s) (fun k => hook_front s k) _ HG2.out (by have : (⟨#[]⟩ : ByteArray).size = 0 := rfl; omega)).mono ?_
    rintro e w3 ⟨rfl, hb3⟩
    go_wp2
    go_ret2
    rw [HA.out]
    exact ⟨rfl, HB2.out.trans (hb3.mono HB2.out.size)⟩
  · have HA := ShE.mk (show hookOut true us s (codeW us s) = (⟨#[]⟩, c) by rw [hcw]; exact hookOut_bad hc0)
    have hcb : (c != 0) = true := bne_iff_ne.2 hc0
    clear hcw hc0
    go_enter Try.func36, Try.ntmps36
    go_wp2_with fail
    refine (code_is HCW.out _ HG.out hz hs).mono ?_
    rintro e w2 ⟨rfl, k, rfl⟩
    go_wp2
    go_ret2
    rw [HA.out]
    exact ⟨rfl, below_drewN HB.out k⟩
set_option maxRecDepth 100000 in
set_option maxHeartbeats 2000000 in
theorem specBackHooks_any {v : Value} {us : List ByteArray} (s : ByteArray) (W : World) (hu : Strs W v us) (hz : ∀ s ∈ us, s.size ≤ maxLen) (hs : s.size ≤ 1048576) :
    Calls Try.prog 37 #[.agg #[v], .string s] W fun e w' => e = .returned (retT (hookOut false us s (codeW us s))) ∧ Below W.heap.size W w' := by
  have HG := ShE.mk (LexAt.made hu)
  have HB := ShE.mk ((Below.refl W.heap.size W).alloc (Nat.le_refl _) (.cells #[v] 26))
  obtain ⟨c, hcw⟩ : ∃ c, codeW us s = c := ⟨_, rfl⟩
  have HCW := ShE.mk hcw
  by_cases hc0 : c = 0
  · subst hc0
    have HA := ShE.mk (show hookOut false us s (codeW us s) = (⟨(letsTo (fun k => hasL us (hookS false s k)) 26).toArray⟩, 0) by rw [hcw]; exact hookOut_yes)
    clear hcw
    go_enter Try.func37, Try.ntmps37
    go_wp2_with fail
    refine (code_is HCW.out _ HG.out hz hs).mono ?_
    rintro e w2 ⟨rfl, k, hw1⟩
    have HG2 := ShE.mk (show LexAt w2 W.heap.size _ us by rw [hw1]; exact HG.out.drewN k)
    have HB2 := ShE.mk (show Below W.heap.size W w2 by rw [hw1]; exact below_drewN HB.out k)
    clear hw1
    go_wp2_with fail
    refine (l10Hooks_any s ⟨#[]⟩ (hookS false s) (fun k => hook_back s k) _ HG2.out (by have : (⟨#[]⟩ : ByteArray).size = 0 := rfl; omega)).mono ?_
    rintro e w3 ⟨rfl, hb3⟩
    go_wp2
    go_ret2
    rw [HA.out]
    exact ⟨rfl, HB2.out.trans (hb3.mono HB2.out.size)⟩
  · have HA := ShE.mk (show hookOut false us s (codeW us s) = (⟨#[]⟩, c) by rw [hcw]; exact hookOut_bad hc0)
    have hcb : (c != 0) = true := bne_iff_ne.2 hc0
    clear hcw hc0
    go_enter Try.func37, Try.ntmps37
    go_wp2_with fail
    refine (code_is HCW.out _ HG.out hz hs).mono ?_
    rintro e w2 ⟨rfl, k, rfl⟩
    go_wp2
    go_ret2
    rw [HA.out]
    exact ⟨rfl, below_drewN HB.out k⟩

/-! ### The program's -/
theorem hasI {us : List ByteArray} {v : Value} {s : ByteArray} {b : Bool} (hok : okL us = true) (h : hasL us s = b) (W : World) (hu : Strs W v us) (hz : ∀ s ∈ us, s.size ≤ maxLen) (hs : s.size ≤ 1048576) :
    Calls Try.prog 40 #[.agg #[v], .string s] W fun e w' => e = .returned (.bool b) ∧ Below W.heap.size W w' := by
  rw [← h, ← hasOut_yes hok]; exact implHasWord_any s W hu hz hs
/-- What a function value of one captured variable makes of the letters. -/
def HookDoes (F : FuncId) (g : Nat) (w : World) (h : Nat → ByteArray) : Prop :=
  ∀ k, k < 26 → ∀ wr, Below w.heap.size w wr → Calls Try.prog F #[.string (letS k), .pointer (some ⟨g, 0, none⟩)] wr fun e w' => e = .returned (.string (h k)) ∧ w' = wr
theorem HookDoes.below {F : FuncId} {g : Nat} {w w' : World} {h : Nat → ByteArray} (hd : HookDoes F g w h) (hb : Below w.heap.size w w') : HookDoes F g w' h :=
  fun k hk wr hr => hd k hk wr (hb.trans (hr.mono hb.size))
theorem HookDoes.on {F : FuncId} {g : Nat} {w : World} {h : Nat → ByteArray} (hd : HookDoes F g w h) {k : Nat} (hk : k < 26) (W : World) (hb : Below w.heap.size w W) :
    Calls Try.prog F #[.string (letS k), .pointer (some ⟨g, 0, none⟩)] W fun e w' => e = .returned (.string (h k)) ∧ Below w.heap.size w w' := (hd k hk W hb).mono fun _ _ ⟨h1, h2⟩ => ⟨h1, by rw [h2]; exact hb⟩
theorem has_on {us : List ByteArray} {v : Value} {s : ByteArray} {b : Bool} (hok : okL us = true) (h : hasL us s = b) (w W : World) (hb : Below w.heap.size w W) (hu : Strs w v us) (hz : ∀ s ∈ us, s.size ≤ maxLen) (hs : s.size ≤ 1048576) :
    Calls Try.prog 40 #[.agg #[v], .string s] W fun e w' => e = .returned (.bool b) ∧ Below w.heap.size w w' := (hasI hok h W (hu.below hb) hz hs).mono fun _ _ ⟨h1, h2⟩ => ⟨h1, hb.trans (h2.mono hb.size)⟩
set_option maxRecDepth 100000 in
set_option maxHeartbeats 2000000 in
theorem hookOne_any {v : Value} {us : List ByteArray} {h : Nat → ByteArray} {F : FuncId} {g lb fb : Nat} (w : World) (hl : Blk w lb 26 #[v]) (hf : Blk w fb 69 #[.func (.func F) #[] #[.pointer (some ⟨g, 0, none⟩)]])
    (hu : Strs w v us) (hz : ∀ s ∈ us, s.size ≤ maxLen) (hok : okL us = true) (hF : ∀ args w, (callFunc F args).run Try.prog w = .ok (.enter F args) w) (hd : HookDoes F g w h) (hsz : ∀ k, (h k).size ≤ 1048576) :
    TellsL 143 (.pointer (some ⟨lb, 0, none⟩)) (.pointer (some ⟨fb, 0, none⟩)) w (fun k => hasL us (h k)) := by
  intro k hk wr hb
  have c0 := (hl.kept hb hl.lt).cells
  have c1 := (hf.kept hb hf.lt).cells
  have HS := ShE.mk (hu.below hb)
  have HD := ShE.mk ((hd.below hb).on hk)
  have HZ := ShE.mk (hsz k)
  have HO := ShE.mk hok
  have HK := ShE.mk (fun w' (hb' : Below wr.heap.size wr w') => (⟨(((hl.kept hb hl.lt).kept hb' (hl.kept hb hl.lt).lt).cells) 0, (((hf.kept hb hf.lt).kept hb' (hf.kept hb hf.lt).lt).cells) 0⟩ : w'.cell? ⟨lb, 0, none⟩ = some v ∧ w'.cell? ⟨fb, 0, none⟩ = some (.func (.func F) #[] #[.pointer (some ⟨g, 0, none⟩)])))
  obtain ⟨y, hy⟩ : ∃ y, h k = y := ⟨_, rfl⟩
  rw [hy] at HD HZ
  show Calls _ _ _ _ fun e w' => e = .returned (.bool (hasL us (h k))) ∧ _
  rw [hy]
  obtain ⟨aa, ac, hv, -⟩ := hu
  subst hv
  clear hd hsz hok hy hb hf hl
  go_enter Try.func143, Try.ntmps143
  go_wp2
  go_region_held3 (fun w' => w'.cell? ⟨lb, 0, none⟩ = some (.slice aa us.length ac) ∧ w'.cell? ⟨fb, 0, none⟩ = some (.func (.func F) #[] #[.pointer (some ⟨g, 0, none⟩)]))
    (exact HK.out _ (by first | assumption | exact (Below.refl _ _).drew))
    (first
      | (go_at_fn F; with_reducible refine (HD.out _ (by first | assumption | exact (Below.refl _ _).drew)).mono ?_; rintro e w2 ⟨rfl, hb2⟩)
      | (go_at_call 40; refine (has_on HO.out rfl wr _ (by first | assumption | exact (Below.refl _ _).drew) HS.out hz HZ.out).mono ?_; rintro e w3 ⟨rfl, hb3⟩))
  all_goals
    go_wp2
    go_ret
    exact ⟨rfl, hb3⟩
theorem hooksOne_enters : ∀ args w, (callFunc 143 args).run Try.prog w = .ok (.enter 143 args) w := enters_of Try.func143 (by kernel_rfl) rfl
theorem hookS_size (f : Bool) (s : ByteArray) (k : Nat) : (hookS f s k).size = s.size + 1 := by
  unfold hookS
  split
  · rw [ByteArray.size_append, letS_size]; omega
  · rw [ByteArray.size_append, letS_size]
theorem code_size {us : List ByteArray} {s : ByteArray} (h : codeW us s = 0) : s.size ≤ 12 := isWordB_size (codeW_ok h).2
set_option maxRecDepth 100000 in
set_option maxHeartbeats 2000000 in
theorem hooksOf_any {v : Value} {us : List ByteArray} {F : FuncId} {g : Nat} (f : Bool) (s : ByteArray) (w : World) (hu : Strs w v us) (hz : ∀ s ∈ us, s.size ≤ maxLen) (hs : s.size ≤ 1048576)
    (hF : ∀ args w, (callFunc F args).run Try.prog w = .ok (.enter F args) w) (hd : HookDoes F g w (hookS f s)) :
    Calls Try.prog 81 #[.agg #[v], .string s, .func (.func F) #[] #[.pointer (some ⟨g, 0, none⟩)]] w fun e w' => e = .returned (retT (hookOut f us s (codeW us s))) ∧ Below w.heap.size w w' := by
  have HG := ShE.mk ((LexAt.made hu).belowG ((Below.refl _ _).alloc (Nat.le_refl _) (.cells #[.func (.func F) #[] #[.pointer (some ⟨g, 0, none⟩)]] 69)))
  have hg := Blk.made (w.alloc (.cells #[v] 26)) 69 #[.func (.func F) #[] #[.pointer (some ⟨g, 0, none⟩)]]
  rw [World.size_alloc] at hg
  have HS := ShE.mk hg
  have HB := ShE.mk (((Below.refl w.heap.size w).alloc (Nat.le_refl _) (.cells #[v] 26)).alloc (by simp) (.cells #[.func (.func F) #[] #[.pointer (some ⟨g, 0, none⟩)]] 69))
  have HF := ShE.mk hF
  have HD := ShE.mk hd
  have c0 := HG.out.blk.cells
  have c1 := HS.out.cells
  clear hg hF hd
  obtain ⟨c, hcw⟩ : ∃ c, codeW us s = c := ⟨_, rfl⟩
  have HCW := ShE.mk hcw
  by_cases hc0 : c = 0
  · subst hc0
    have HA := ShE.mk (show hookOut f us s (codeW us s) = (⟨(letsTo (fun k => hasL us (hookS f s k)) 26).toArray⟩, 0) by rw [hcw]; exact hookOut_yes)
    have HO := ShE.mk (codeW_ok hcw).1
    have hs12 := code_size hcw
    clear hcw
    go_enter Try.func81, Try.ntmps81
    go_wp2_with fail
    refine (check_is HCW.out _ HG.out.strs hz hs).mono ?_
    rintro e w1 ⟨rfl, hb1⟩
    have HB1 := ShE.mk (HB.out.trans (hb1.mono HB.out.size))
    have HG1 := ShE.mk (HG.out.belowG hb1)
    have HS1 := ShE.mk (HS.out.kept hb1 HS.out.lt)
    clear c0 c1 hb1
    go_wp2_with fail
    refine (lettersWith_any _ hooksOne_enters (hookOne_any _ HG1.out.blk HS1.out HG1.out.strs hz HO.out HF.out (HD.out.below HB1.out) (fun k => by rw [hookS_size]; omega))).mono ?_
    rintro e w2 ⟨rfl, hb2⟩
    go_wp2
    go_ret2
    rw [HA.out]
    exact ⟨rfl, HB1.out.trans (hb2.mono HB1.out.size)⟩
  · have HA := ShE.mk (show hookOut f us s (codeW us s) = (⟨#[]⟩, c) by rw [hcw]; exact hookOut_bad hc0)
    have hcb : (c != 0) = true := bne_iff_ne.2 hc0
    clear hcw hc0
    go_enter Try.func81, Try.ntmps81
    go_wp2_with fail
    refine (check_is HCW.out _ HG.out.strs hz hs).mono ?_
    rintro e w1 ⟨rfl, hb1⟩
    go_wp2
    go_ret2
    rw [HA.out]
    exact ⟨rfl, HB.out.trans (hb1.mono HB.out.size)⟩
theorem FrontHooks_hook {g : Nat} {s : ByteArray} (W : World) (hg : Blk W g 9 #[.string s]) (hs : s.size ≤ 1048576) : HookDoes 82 g W (hookS true s) := by
  intro k hk wr hb
  have c0 := (hg.kept hb hg.lt).cells
  have HH := ShE.mk (show hookS true s k = letS k ++ s from rfl)
  have hl1 := letS_size k
  obtain ⟨Y, hY⟩ : ∃ Y, letS k = Y := ⟨_, rfl⟩
  rw [hY] at HH hl1 ⊢
  have g1 : ¬ 9223372036854775807 < Y.size + s.size := by omega
  have g2 : ¬ 9223372036854775807 < s.size + Y.size := by omega
  go_enter Try.func82, Try.ntmps82
  go_wp2
  go_ret
  exact ⟨by rw [HH.out]; rfl, rfl⟩
theorem FrontHooks_enters : ∀ args w, (callFunc 82 args).run Try.prog w = .ok (.enter 82 args) w := enters_of Try.func82 (by kernel_rfl) rfl
set_option maxRecDepth 100000 in
set_option maxHeartbeats 2000000 in
theorem implFrontHooks_any {v : Value} {us : List ByteArray} (s : ByteArray) (W : World) (hu : Strs W v us) (hz : ∀ s ∈ us, s.size ≤ maxLen) (hs : s.size ≤ 1048576) :
    Calls Try.prog 32 #[.agg #[v], .string s] W fun e w' => e = .returned (retT (hookOut true us s (codeW us s))) ∧ Below W.heap.size W w' := by
  have HG := ShE.mk ((LexAt.made hu).belowG ((Below.refl _ _).alloc (Nat.le_refl _) (.cells #[.string s] 9)))
  have hg := Blk.made (W.alloc (.cells #[v] 26)) 9 #[.string s]
  rw [World.size_alloc] at hg
  have HS := ShE.mk hg
  have HB := ShE.mk (((Below.refl W.heap.size W).alloc (Nat.le_refl _) (.cells #[v] 26)).alloc (by simp) (.cells #[.string s] 9))
  have c0 := HG.out.blk.cells
  have c1 := HS.out.cells
  clear hg
  go_enter Try.func32, Try.ntmps32
  go_wp2_with fail
  refine (hooksOf_any true s _ HG.out.strs hz hs FrontHooks_enters (FrontHooks_hook _ HS.out hs)).mono ?_
  rintro e w1 ⟨rfl, hb1⟩
  unfold retT
  go_wp2
  go_ret2
  exact ⟨rfl, HB.out.trans (hb1.mono HB.out.size)⟩
theorem BackHooks_hook {g : Nat} {s : ByteArray} (W : World) (hg : Blk W g 9 #[.string s]) (hs : s.size ≤ 1048576) : HookDoes 83 g W (hookS false s) := by
  intro k hk wr hb
  have c0 := (hg.kept hb hg.lt).cells
  have HH := ShE.mk (show hookS false s k = s ++ letS k from rfl)
  have hl1 := letS_size k
  obtain ⟨Y, hY⟩ : ∃ Y, letS k = Y := ⟨_, rfl⟩
  rw [hY] at HH hl1 ⊢
  have g1 : ¬ 9223372036854775807 < Y.size + s.size := by omega
  have g2 : ¬ 9223372036854775807 < s.size + Y.size := by omega
  go_enter Try.func83, Try.ntmps83
  go_wp2
  go_ret
  exact ⟨by rw [HH.out]; rfl, rfl⟩
theorem BackHooks_enters : ∀ args w, (callFunc 83 args).run Try.prog w = .ok (.enter 83 args) w := enters_of Try.func83 (by kernel_rfl) rfl
set_option maxRecDepth 100000 in
set_option maxHeartbeats 2000000 in
theorem implBackHooks_any {v : Value} {us : List ByteArray} (s : ByteArray) (W : World) (hu : Strs W v us) (hz : ∀ s ∈ us, s.size ≤ maxLen) (hs : s.size ≤ 1048576) :
    Calls Try.prog 33 #[.agg #[v], .string s] W fun e w' => e = .returned (retT (hookOut false us s (codeW us s))) ∧ Below W.heap.size W w' := by
  have HG := ShE.mk ((LexAt.made hu).belowG ((Below.refl _ _).alloc (Nat.le_refl _) (.cells #[.string s] 9)))
  have hg := Blk.made (W.alloc (.cells #[v] 26)) 9 #[.string s]
  rw [World.size_alloc] at hg
  have HS := ShE.mk hg
  have HB := ShE.mk (((Below.refl W.heap.size W).alloc (Nat.le_refl _) (.cells #[v] 26)).alloc (by simp) (.cells #[.string s] 9))
  have c0 := HG.out.blk.cells
  have c1 := HS.out.cells
  clear hg
  go_enter Try.func33, Try.ntmps33
  go_wp2_with fail
  refine (hooksOf_any false s _ HG.out.strs hz hs BackHooks_enters (BackHooks_hook _ HS.out hs)).mono ?_
  rintro e w1 ⟨rfl, hb1⟩
  unfold retT
  go_wp2
  go_ret2
  exact ⟨rfl, HB.out.trans (hb1.mono HB.out.size)⟩
end Go.Proofs.Ytpjekfebpgjgnaa
