/-
  The model's WordOf.
-/
import Derived.Test.YtilagppmljpclaaI3
namespace Go.Proofs.Ytilagppmljpclaa
open Go.RowKit

theorem uses2_any {g : Nat} {va vs : Value} {xs : List Aff} {ss : List Stm} (stem : ByteArray) (us : List ByteArray) (W : World) (hg : GramAt W g va vs xs ss) :
    Calls Try.prog 68 #[.pointer (some ⟨g, 0, none⟩), .string stem] W fun e w' => (∃ (f : Bool) (ua : Option Addr) (uc : Nat) (ul : List ByteArray), Strs W (.slice ua ul.length uc) ul ∧ okD ss stem us = (f && decide (us.length ≤ 2) && okTo ul us us.length) ∧ e = .returned (.tuple #[.slice ua ul.length uc, .bool f])) ∧ W = w' := by
  refine (l04Uses_any stem W hg).mono ?_
  rintro e w' ⟨h | h, rfl⟩
  · obtain ⟨j, u, hj, hjl, hu, rfl⟩ := h
    have hu' := hu
    obtain ⟨ua, uc, rfl, -⟩ := hu'
    exact ⟨⟨true, ua, uc, _, hu, by rw [okD_some hj]; rfl, rfl⟩, rfl⟩
  · obtain ⟨hj, rfl⟩ := h
    exact ⟨⟨false, none, 0, [], ⟨none, 0, rfl, Nat.le_refl _, Nat.zero_le _, fun h => absurd h (by simp)⟩, by rw [okD_none hj]; rfl, rfl⟩, rfl⟩
theorem in_is {v : Value} {us : List ByteArray} {s : ByteArray} {b : Bool} (h : inTo us s us.length = b) (W : World) (hu : Strs W v us) : Calls Try.prog 69 #[v, .string s] W fun e w' => e = .returned (.bool b) ∧ W = w' := by rw [← h]; exact l04In_any s W hu
theorem inK_is {a : Option Addr} {n cap k : Nat} {us : List ByteArray} {s : ByteArray} {b : Bool} (h : inTo us s k = b) (hk : k ≤ us.length) (W : World) (hu : Strs W (.slice a n cap) us) : Calls Try.prog 69 #[.slice a k cap, .string s] W fun e w' => e = .returned (.bool b) ∧ W = w' := by
  have hl : (us.take k).length = k := by simp; omega
  have h1 := l04In_any s W (hu.takeI hk)
  rw [hl, inTo_take (Nat.le_refl _), h] at h1
  exact h1
theorem word_is {g : Nat} {va vs v : Value} {xs : List Aff} {ss : List Stm} {us : List ByteArray} {word r : ByteArray} {c : Int} (h : wordX xs us word = (r, c)) (W : World) (hg : GramAt W g va vs xs ss) (hu : Strs W v us) (hx : ∀ x ∈ xs, AffFine x) (hxa : ∀ x ∈ xs, x.a.size ≤ 1000)
    (hk : ∀ u ∈ us, knowsTo xs u xs.length = true) (hw : word.size ≤ 1000) :
    Calls Try.prog 70 #[.pointer (some ⟨g, 0, none⟩), .string word, v] W fun e w' => e = .returned (.tuple #[.string r, .int .i64 c]) ∧ ∃ k, w' = W.drewN k := by
  have h1 := l04Word_any word W hg hu hx hxa hk hw
  rw [h] at h1
  exact h1

set_option maxRecDepth 100000 in
set_option maxHeartbeats 1000000 in
theorem specWordOf_any {va vs v : Value} {xs : List Aff} {ss : List Stm} {stem : ByteArray} {us : List ByteArray} (W : World) (hg : Gram W va vs xs ss) (hx : ∀ x ∈ xs, AffFine x) (hs : ∀ x ∈ ss, StmFine x) (hu : Strs W v us) :
    Calls Try.prog 22 #[.agg #[va, vs], .agg #[.string stem, v]] W fun e w' => e = .returned (retX (wordOut xs ss stem us)) ∧ Below W.heap.size W w' := by
  have hul := hu.len
  have hB := ((Below.refl W.heap.size W).alloc (Nat.le_refl _) (.cells #[va, vs] 48)).alloc (by simp) (.cells #[.string stem, v] 50)
  have HG := Shh.mk (show GramAt ((W.alloc (.cells #[va, vs] 48)).alloc (.cells #[.string stem, v] 50)) W.heap.size va vs xs ss from ⟨(Blk.made W _ _).alloc _, (hg.alloc _).alloc _⟩)
  have HD := Shh.mk (Blk.made (W.alloc (.cells #[va, vs] 48)) 50 #[.string stem, v])
  have HU := Shh.mk ((hu.alloc (.cells #[va, vs] 48)).alloc (.cells #[.string stem, v] 50))
  obtain ⟨⟨aa, ac, rfl, -⟩, ⟨sa, sc, rfl, -⟩⟩ := hg
  obtain ⟨ua, uc, rfl, -⟩ := hu
  obtain ⟨t, htt⟩ : ∃ t, okG xs ss = t := ⟨_, rfl⟩
  have HT := Shh.mk htt
  cases t
  · have HR := Shh.mk (wordOut_bad (stem := stem) (us := us) htt)
    clear htt
    go_enter Try.func22, Try.ntmps22
    go_wp2_with fail
    refine (l04Ok_any _ HG.out hx hs).mono ?_
    rw [HT.out]
    rintro e w1 ⟨rfl, k, rfl⟩
    go_wp2
    go_ret2
    exact ⟨by rw [HR.out]; rfl, below_drewN hB _⟩
  · have HNO := Shh.mk (fun h => wordOut_no (stem := stem) (us := us) htt h)
    have HYES := Shh.mk (fun h => wordOut_yes (stem := stem) (us := us) htt h)
    have HKN := Shh.mk (fun h => okD_known (stem := stem) (us := us) htt h)
    have HXA := Shh.mk (okG_add htt)
    clear htt
    go_enter Try.func22, Try.ntmps22
    go_wp2_with fail
    refine (l04Ok_any _ HG.out hx hs).mono ?_
    rw [HT.out]
    rintro e w1 ⟨rfl, k, hw1⟩
    have G1 := Shh.mk (show GramAt w1 W.heap.size _ _ xs ss by rw [hw1]; exact HG.out.drewN k)
    have D1 := Shh.mk (show Blk w1 (W.alloc (.cells #[.slice aa xs.length ac, .slice sa ss.length sc] 48)).heap.size 50 #[.string stem, .slice ua us.length uc] by rw [hw1]; exact HD.out)
    have U1 := Shh.mk (show Strs w1 (.slice ua us.length uc) us by rw [hw1]; exact HU.out.drewN k)
    have B1 := Shh.mk (show Below W.heap.size W w1 by rw [hw1]; exact below_drewN hB k)
    have d1 := D1.out.cells
    rw [World.size_alloc] at d1
    clear hw1 hB
    go_wp2_with fail
    refine (uses2_any stem us _ G1.out).mono ?_
    rintro e w2 ⟨⟨f, la, lc, ul, hls, hok, rfl⟩, rfl⟩
    have HLS := Shh.mk hls
    have HOK := Shh.mk hok
    clear hok hls
    cases f
    · skip
      have HF := Shh.mk (HNO.out (by rw [HOK.out]; simp))
      clear HOK HYES HKN
      go_wp2
      go_loopw [7, 8] (fun o i wr => ∃ k m : Nat, k ≤ us.length ∧ i = .int .i64 k ∧ o = .bool false ∧ wr = w1.drewN m) (fun _ i _ => us.length - (intOf i).toNat)
      case atStart => exact ⟨0, 0, Nat.zero_le _, rfl, by first | rfl | exact congrArg Value.bool (decide_eq_false (by omega)), rfl⟩
      case round =>
        clear d1
        obtain ⟨k, m, hk, rfl, rfl, hw'⟩ := hrel
        have HW := Shh.mk hw'
        have d1 := (show Blk wr (W.alloc (.cells #[.slice aa xs.length ac, .slice sa ss.length sc] 48)).heap.size 50 #[.string stem, .slice ua us.length uc] by rw [hw']; exact D1.out).cells
        rw [World.size_alloc] at d1
        clear hw'
        by_cases hlt : k < us.length
        · go_wp2
          go_quiet (fail)
          go_wp2
          go_roundw
          case rel => exact ⟨k + 1, _, by omega, by go_num, rfl, by rw [HW.out]; exact World.drewN_drewN _ _ _⟩
          case measure => simp [intOf]; omega
        · obtain rfl : k = us.length := by omega
          go_wp2
          go_ret2
          exact ⟨by rw [HF.out]; rfl, by first | (rw [HW.out]; exact below_drewN B1.out _) | exact below_drewN B1.out _⟩
    · by_cases hl2 : us.length ≤ 2
      · skip
        have hi2 : (us.length : Int) ≤ 2 := by omega
        have HOK2 : Shh (okD ss stem us = okTo ul us us.length) := ⟨by rw [HOK.out]; simp [hl2]⟩
        clear HOK
        obtain ⟨hu1, hu2, huc⟩ : us.length ≤ uc ∧ uc ≤ maxLen ∧ (0 < us.length → ∃ b off, ua = some ⟨b, off, none⟩ ∧ b < w1.heap.size ∧ ∀ j, j < us.length → w1.cell? ⟨b, off + j, none⟩ = some (.string (strAt us j))) := by
          obtain ⟨a, cap, h1, h2, h3, h4⟩ := U1.out
          cases h1
          exact ⟨h2, h3, h4⟩
        have HUC := Shh.mk huc
        clear huc
        go_wp2
        go_loopw [7, 8] (fun o i wr => ∃ (k m : Nat) (b : Bool), k ≤ us.length ∧ i = .int .i64 k ∧ o = .bool b ∧ wr = w1.drewN m ∧ Shh (okTo ul us k = b)) (fun _ i _ => us.length - (intOf i).toNat)
        case atStart => exact ⟨0, 0, true, Nat.zero_le _, rfl, by first | rfl | exact congrArg Value.bool (decide_eq_true hi2), rfl, ⟨rfl⟩⟩
        case round =>
          clear d1
          obtain ⟨k, m, b, hk, rfl, rfl, hw', hE⟩ := hrel
          have HW := Shh.mk hw'
          have d1 := (show Blk wr (W.alloc (.cells #[.slice aa xs.length ac, .slice sa ss.length sc] 48)).heap.size 50 #[.string stem, .slice ua us.length uc] by rw [hw']; exact D1.out).cells
          rw [World.size_alloc] at d1
          have UR := Shh.mk (show Strs wr (.slice ua us.length uc) us by rw [hw']; exact U1.out.drewN m)
          have LR := Shh.mk (show Strs wr (.slice la ul.length lc) ul by rw [hw']; exact HLS.out.drewN m)
          have GR := Shh.mk (show GramAt wr W.heap.size _ _ xs ss by rw [hw']; exact G1.out.drewN m)
          by_cases hlt : k < us.length
          · have HS : Shh (okTo ul us (k + 1) = (okTo ul us k && (inTo ul (strAt us k) ul.length && !inTo us (strAt us k) k))) := ⟨rfl⟩
            obtain ⟨bu, ou, rfl, hbu, hcu⟩ := HUC.out (by omega)
            have cu : wr.cell? ⟨bu, ou + k, none⟩ = some (.string (strAt us k)) := by rw [hw']; exact hcu k hlt
            obtain ⟨x, hx⟩ : ∃ x, strAt us k = x := ⟨_, rfl⟩
            rw [hx] at cu HS
            obtain ⟨p, hp⟩ : ∃ p, inTo ul x ul.length = p := ⟨_, rfl⟩
            obtain ⟨q, hq⟩ : ∃ q, inTo us x k = q := ⟨_, rfl⟩
            rw [hE.out, hp, hq] at HS
            have HP := Shh.mk hp
            have HQ := Shh.mk hq
            clear hcu hx hw' hp hq
            have hk0 : (0 : Int) ≤ (k : Int) := by omega
            have hk1 : (k : Int) ≤ (uc : Int) := by omega
            have hk2 : k ≤ uc := by omega
            cases b <;> cases p <;> cases q
            all_goals
              go_wp2
              go_quiet (first
                | (go_at_call 69; first | with_reducible exact quietF (in_is HP.out _ (LR.out.drewN _)) | with_reducible exact quietF (inK_is HQ.out hk _ (UR.out.drewN _))))
              go_wp2
              go_roundw
              case rel => exact ⟨k + 1, _, _, by omega, by go_num, rfl, by rw [HW.out]; exact World.drewN_drewN _ _ _, ⟨HS.out⟩⟩
              case measure => simp [intOf]; omega
          · obtain rfl : k = us.length := by omega
            cases b
            · have HF := Shh.mk (HNO.out (by rw [HOK2.out, hE.out]))
              clear hw'
              go_wp2
              go_ret2
              exact ⟨by rw [HF.out]; rfl, by first | (rw [HW.out]; exact below_drewN B1.out _) | exact below_drewN B1.out _⟩
            · have hd : okD ss stem us = true := by rw [HOK2.out, hE.out]
              have HF := Shh.mk (HYES.out hd)
              have HN := Shh.mk (HKN.out hd)
              obtain ⟨⟨r, c⟩, hr⟩ : ∃ r, wordX xs us stem = r := ⟨_, rfl⟩
              have HRR := Shh.mk hr
              have BR := Shh.mk (show Below W.heap.size W wr by rw [hw']; exact below_drewN B1.out m)
              clear hw' hd hr HW
              go_wp2_with fail
              refine (word_is HRR.out _ GR.out UR.out hx HXA.out HN.out.2 HN.out.1).mono ?_
              rintro e w3 ⟨rfl, k3, rfl⟩
              go_wp2
              go_ret2
              exact ⟨by rw [HF.out, HRR.out]; rfl, below_drewN BR.out _⟩
      · have hi2 : ¬ (us.length : Int) ≤ 2 := by omega
        have HF := Shh.mk (HNO.out (by rw [HOK.out]; simp; intro h; omega))
        clear HOK HYES HKN
        go_wp2
        go_loopw [7, 8] (fun o i wr => ∃ k m : Nat, k ≤ us.length ∧ i = .int .i64 k ∧ o = .bool false ∧ wr = w1.drewN m) (fun _ i _ => us.length - (intOf i).toNat)
        case atStart => exact ⟨0, 0, Nat.zero_le _, rfl, by first | rfl | exact congrArg Value.bool (decide_eq_false (by omega)), rfl⟩
        case round =>
          clear d1
          obtain ⟨k, m, hk, rfl, rfl, hw'⟩ := hrel
          have HW := Shh.mk hw'
          have d1 := (show Blk wr (W.alloc (.cells #[.slice aa xs.length ac, .slice sa ss.length sc] 48)).heap.size 50 #[.string stem, .slice ua us.length uc] by rw [hw']; exact D1.out).cells
          rw [World.size_alloc] at d1
          clear hw'
          by_cases hlt : k < us.length
          · go_wp2
            go_quiet (fail)
            go_wp2
            go_roundw
            case rel => exact ⟨k + 1, _, by omega, by go_num, rfl, by rw [HW.out]; exact World.drewN_drewN _ _ _⟩
            case measure => simp [intOf]; omega
          · obtain rfl : k = us.length := by omega
            go_wp2
            go_ret2
            exact ⟨by rw [HF.out]; rfl, by first | (rw [HW.out]; exact below_drewN B1.out _) | exact below_drewN B1.out _⟩
end Go.Proofs.Ytilagppmljpclaa
