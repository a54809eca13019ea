/-
  A word less: the model's RemoveWord and the program's.
-/
import Derived.Test.YtomofgebobabnaaLC
namespace Go.Proofs.Ytomofgebobabnaa
open Go.RowKit Go.Lib

/-- A valid lexicon without a word of it. -/
def remOut (us : List ByteArray) (s : ByteArray) : List ByteArray × Int :=
  if okL us = false then ([], 1) else if hasL us s = false then ([], 3) else (delL us s, 0)
theorem remOut_bad {us : List ByteArray} {s : ByteArray} (h : okL us = false) : remOut us s = ([], 1) := by simp [remOut, h]
theorem remOut_none {us : List ByteArray} {s : ByteArray} (h : okL us = true) (h2 : hasL us s = false) : remOut us s = ([], 3) := by simp [remOut, h, h2]
theorem remOut_yes {us : List ByteArray} {s : ByteArray} (h : okL us = true) (h2 : hasL us s = true) : remOut us s = (delL us s, 0) := by simp [remOut, h, h2]
theorem delL_len (us : List ByteArray) (s : ByteArray) : (delL us s).length ≤ us.length := by unfold delL; simp; omega
theorem remOut_len (us : List ByteArray) (s : ByteArray) : (remOut us s).1.length ≤ us.length := by
  unfold remOut
  have := delL_len us s
  repeat' split
  all_goals simp
  omega
theorem delL_at (us : List ByteArray) (s : ByteArray) : delL us s = us.take (firstG us s) ++ us.drop (firstG us s + 1) := rfl
theorem hasL_lt {us : List ByteArray} {s : ByteArray} (h : hasL us s = true) : firstG us s < us.length := by
  rw [hasL_is, decide_eq_true_eq] at h
  exact h.1

/-! ### What is left of the words passed -/
def withoutTo (us : List ByteArray) (s : ByteArray) (k : Nat) : List ByteArray := (us.take k).filter fun x => !decide (x = s)
theorem withoutTo_skip {us : List ByteArray} {s : ByteArray} {k : Nat} (h : k < us.length) (e : strAt us k = s) : withoutTo us s (k + 1) = withoutTo us s k := by
  unfold withoutTo
  rw [List.take_succ_eq_append_getElem h, List.filter_append, ← strAt_eq h, e]
  simp
theorem withoutTo_more {us : List ByteArray} {s : ByteArray} {k : Nat} (h : k < us.length) (e : ¬ strAt us k = s) : withoutTo us s (k + 1) = withoutTo us s k ++ [strAt us k] := by
  unfold withoutTo
  rw [List.take_succ_eq_append_getElem h, List.filter_append, ← strAt_eq h]
  simp [e]
theorem withoutTo_len (us : List ByteArray) (s : ByteArray) (k : Nat) : (withoutTo us s k).length ≤ us.length := by
  unfold withoutTo
  have h1 := List.length_filter_le (fun x => !decide (x = s)) (us.take k)
  rw [List.length_take] at h1
  omega
theorem withoutTo_all {us : List ByteArray} {s : ByteArray} (hr : Rise us) (h : hasL us s = true) : withoutTo us s us.length = delL us s := by
  unfold withoutTo
  rw [List.take_length]
  exact del_filter hr h

set_option maxRecDepth 100000 in
set_option maxHeartbeats 1000000 in
theorem l05Without_any {v : Value} {us : List ByteArray} (w : World) (s : ByteArray) (h : Strs w v us) (hn : us.length ≤ 200) :
    Calls Try.prog 63 #[v, .string s] w fun e w' => ∃ v', e = .returned v' ∧ OwnS w.heap.size w' v' (withoutTo us s us.length) ∧ Below w.heap.size w w' := by
  have hl := h.len
  obtain ⟨a, cap, rfl, hl1, hm, hc⟩ := h
  have HC := Shh.mk hc
  have HLN := Shh.mk (withoutTo_len us s)
  clear hc
  go_enter Try.func63, Try.ntmps63
  go_wp2
  go_loopw [5, 6] (fun x i wr => ∃ k : Nat, k ≤ us.length ∧ i = .int .i64 k ∧ OwnS w.heap.size wr x (withoutTo us s k) ∧ Below w.heap.size w wr) (fun _ i _ => us.length - (intOf i).toNat)
  case atStart => exact ⟨0, Nat.zero_le _, rfl, World.ownsRow_lit w _ 0 (Nat.le_refl _) (by unfold maxLen; omega) rfl, (Below.refl _ _).alloc (Nat.le_refl _) _⟩
  case round =>
    obtain ⟨k, hk, rfl, ho, hb⟩ := hrel
    have HO := Shh.mk ho
    have HB := Shh.mk hb
    clear ho
    by_cases hlt : k < us.length
    · obtain ⟨b, off, rfl, hbl, hcc⟩ := HC.out (by omega)
      have ck := (hb.cell (p := ⟨b, off + k, none⟩) hbl).trans (hcc k hlt)
      by_cases he : strAt us k = s
      · have HE := Shh.mk (withoutTo_skip hlt he)
        rw [he] at ck
        have heq := strSame s
        clear he hcc hb
        go_wp2
        go_roundw
        case rel => exact ⟨k + 1, by omega, by go_num, by rw [HE.out]; exact HO.out, HB.out⟩
        case measure => simp [intOf]; omega
      · have hE := withoutTo_more hlt he
        obtain ⟨y, hy⟩ : ∃ y, strAt us k = y := ⟨_, rfl⟩
        rw [hy] at ck he hE
        have heq : (y.toList == s.toList) = false := strNe he
        have HE := Shh.mk hE
        have ck2 : (wr.alloc (.cells #[.string y] 9)).cell? ⟨b, off + k, none⟩ = some (.string y) := by
          have := ((Below.refl wr.heap.size wr).alloc (Nat.le_refl _) (.cells #[.string y] 9)).cell (p := ⟨b, off + k, none⟩) (Nat.lt_of_lt_of_le hbl hb.size)
          rw [this]; exact ck
        clear he hcc hb hE hy
        go_wp2_with (at_builtin; refine wpList_append_strs rfl _ _ rfl rfl rfl (OwnS.kept HO.out ((Below.refl _ _).alloc (Nat.le_refl _) _)) (Strs.made1 _ y) (by have := HLN.out k; simp; omega) (by have := HB.out.size; simp; omega) ?_)
        intro v' w2 ho2 hg2
        have HB2 := Shh.mk ((HB.out.alloc HB.out.size (.cells #[.string y] 9)).grown hg2 (by have := HB.out.size; simp; omega) (OwnS.block HO.out))
        have HO2 := Shh.mk (show OwnS w.heap.size w2 v' (withoutTo us s (k + 1)) by rw [HE.out]; exact ho2)
        clear ho2 hg2
        go_wp2
        go_roundw
        case rel => exact ⟨k + 1, by omega, by go_num, HO2.out, HB2.out⟩
        case measure => simp [intOf]; omega
    · obtain rfl : k = us.length := by omega
      go_wp2
      go_ret
      exact ⟨_, rfl, HO.out, HB.out⟩

set_option maxRecDepth 100000 in
set_option maxHeartbeats 1000000 in
theorem specRemoveWord_any {v : Value} {us : List ByteArray} (s : ByteArray) (W : World) (hu : Strs W v us) (hz : ∀ s ∈ us, s.size ≤ maxLen) (_hs : s.size ≤ 1048576) :
    Calls Try.prog 34 #[.agg #[v], .string s] W fun e w' => ∃ v0, e = retL v0 (remOut us s).2 ∧ Strs w' v0 (remOut us s).1 ∧ Below W.heap.size W w' := by
  have hul := hu.len
  have hg := (LexAt.made hu).alloc (.cells #[.slice none 0 0] 27)
  have hr := Blk.made (W.alloc (.cells #[v] 27)) 27 #[.slice none 0 0]
  rw [World.size_alloc] at hr
  have hB := ((Below.refl W.heap.size W).alloc (Nat.le_refl _) (.cells #[v] 27)).alloc (by simp) (.cells #[.slice none 0 0] 27)
  have HG := Shh.mk hg
  have HR := Shh.mk hr
  have HB := Shh.mk hB
  have c0 := hg.blk.cells
  obtain ⟨aa, ac, rfl, -⟩ := hu
  clear hg hr hB
  cases hok : okL us
  · have HA := Shh.mk (remOut_bad (s := s) hok)
    have HO := Shh.mk hok
    clear hok
    go_enter Try.func34, Try.ntmps34
    go_wp2_with fail
    refine (ok_is HO.out _ HG.out hz).mono ?_
    rintro e w1 ⟨rfl, k, hw1⟩
    have G1 := Shh.mk (show LexAt w1 W.heap.size _ us by rw [hw1]; exact HG.out.drewN k)
    have q1 : Blk w1 (W.heap.size + 1) 27 #[.slice none 0 0] := by rw [hw1]; exact HR.out.drewN k
    have HB1 := Shh.mk (show Below W.heap.size W w1 by rw [hw1]; exact below_drewN HB.out k)
    have Q1 := Shh.mk q1
    have c2 := q1.cells
    have m2 := q1.marks
    clear c0 hw1 q1
    have c0 := G1.out.blk.cells
    go_wp2
    refine bodyPost_ret (v := .tuple #[.agg #[.slice none 0 0], .int .i64 1]) (by simp [results, Try.results34, go_sem, c2]) rfl ?_
    rw [HA.out]
    exact ⟨_, rfl, (Strs.void _ _ (Nat.zero_le _)), HB1.out.setCell (by simp) _⟩
  · have HO := Shh.mk hok
    have hn := okL_size hok
    cases hha : hasL us s
    · have HH := Shh.mk hha
      have HA := Shh.mk (remOut_none (s := s) hok hha)
      clear hok hha
      go_enter Try.func34, Try.ntmps34
      go_wp2_with fail
      refine (ok_is HO.out _ HG.out hz).mono ?_
      rintro e w1 ⟨rfl, k, hw1⟩
      have G1 := Shh.mk (show LexAt w1 W.heap.size _ us by rw [hw1]; exact HG.out.drewN k)
      have q1 : Blk w1 (W.heap.size + 1) 27 #[.slice none 0 0] := by rw [hw1]; exact HR.out.drewN k
      have HB1 := Shh.mk (show Below W.heap.size W w1 by rw [hw1]; exact below_drewN HB.out k)
      have Q1 := Shh.mk q1
      have c2 := q1.cells
      have m2 := q1.marks
      clear c0 hw1 q1
      have c0 := G1.out.blk.cells
      go_wp2_with fail
      refine (l05Has_any _ s G1.out.strs HH.out).mono ?_
      rintro e w2 ⟨rfl, rfl⟩
      go_wp2
      refine bodyPost_ret (v := .tuple #[.agg #[.slice none 0 0], .int .i64 3]) (by simp [results, Try.results34, go_sem, c2]) rfl ?_
      rw [HA.out]
      exact ⟨_, rfl, (Strs.void _ _ (Nat.zero_le _)), HB1.out.setCell (by simp) _⟩
    · have HH := Shh.mk hha
      have HA := Shh.mk (remOut_yes (s := s) hok hha)
      have HAL := Shh.mk (withoutTo_all (okL_rise hok) hha)
      clear hok hha
      go_enter Try.func34, Try.ntmps34
      go_wp2_with fail
      refine (ok_is HO.out _ HG.out hz).mono ?_
      rintro e w1 ⟨rfl, k, hw1⟩
      have G1 := Shh.mk (show LexAt w1 W.heap.size _ us by rw [hw1]; exact HG.out.drewN k)
      have q1 : Blk w1 (W.heap.size + 1) 27 #[.slice none 0 0] := by rw [hw1]; exact HR.out.drewN k
      have HB1 := Shh.mk (show Below W.heap.size W w1 by rw [hw1]; exact below_drewN HB.out k)
      have Q1 := Shh.mk q1
      have c2 := q1.cells
      have m2 := q1.marks
      clear c0 hw1 q1
      have c0 := G1.out.blk.cells
      go_wp2_with fail
      refine (l05Has_any _ s G1.out.strs HH.out).mono ?_
      rintro e w2 ⟨rfl, rfl⟩
      go_wp2_with fail
      refine (l05Without_any _ s G1.out.strs hn).mono ?_
      rw [HAL.out]
      rintro e w2 ⟨v2, rfl, ho2, hb2⟩
      obtain ⟨b2, cp2, rfl, -, -, -⟩ := own_form ho2
      have q2 := Q1.out.kept hb2 Q1.out.lt
      have HO2 := Shh.mk ho2
      have HB2 := Shh.mk (HB1.out.trans (hb2.mono HB1.out.size))
      clear c0 c2 m2 ho2 hb2
      have c2 := q2.cells
      have m2 := q2.marks
      go_wp2
      refine bodyPost_ret (v := .tuple #[.agg #[.slice b2 (delL us s).length cp2], .int .i64 0]) (by simp [results, Try.results34, go_sem, c2]) rfl ?_
      rw [HA.out]
      exact ⟨_, rfl, (HO2.out.off (g := W.heap.size + 1) (j := 0) (Q1.out.lt) _).strs, HB2.out.setCell (by simp) _⟩

set_option maxRecDepth 100000 in
set_option maxHeartbeats 1000000 in
theorem implRemoveWord_any {v : Value} {us : List ByteArray} (s : ByteArray) (W : World) (hu : Strs W v us) (hz : ∀ s ∈ us, s.size ≤ maxLen) (_hs : s.size ≤ 1048576) :
    Calls Try.prog 35 #[.agg #[v], .string s] W fun e w' => ∃ v0, e = retL v0 (remOut us s).2 ∧ OwnS W.heap.size w' v0 (remOut us s).1 ∧ Below W.heap.size W w' := by
  have hul := hu.len
  have hg := (LexAt.made hu).alloc (.cells #[.slice none 0 0] 27)
  have hr := Blk.made (W.alloc (.cells #[v] 27)) 27 #[.slice none 0 0]
  rw [World.size_alloc] at hr
  have hB := ((Below.refl W.heap.size W).alloc (Nat.le_refl _) (.cells #[v] 27)).alloc (by simp) (.cells #[.slice none 0 0] 27)
  have HG := Shh.mk hg
  have HR := Shh.mk hr
  have HB := Shh.mk hB
  have c0 := hg.blk.cells
  obtain ⟨aa, ac, rfl, hl1, hm, hc⟩ := hu
  have HC := Shh.mk hc
  clear hc
  clear hg hr hB
  cases hok : okL us
  · have HA := Shh.mk (remOut_bad (s := s) hok)
    have HO := Shh.mk hok
    clear hok
    go_enter Try.func35, Try.ntmps35
    go_wp2_with fail
    refine (valid_on HO.out _ HG.out.strs hz).mono ?_
    rintro e w1 ⟨rfl, hb1⟩
    have G1 := Shh.mk (HG.out.below hb1)
    have Q1 := Shh.mk (HR.out.kept hb1 HR.out.lt)
    have HB1 := Shh.mk (HB.out.trans (hb1.mono HB.out.size))
    have c2 := Q1.out.cells
    have m2 := Q1.out.marks
    clear c0 hb1
    have c0 := G1.out.blk.cells
    go_wp2
    refine bodyPost_ret (v := .tuple #[.agg #[.slice none 0 0], .int .i64 1]) (by simp [results, Try.results35, go_sem, c2]) rfl ?_
    rw [HA.out]
    exact ⟨_, rfl, (OwnS.void _ _), HB1.out.setCell (by simp) _⟩
  · have HO := Shh.mk hok
    have HRI := Shh.mk (okL_rise hok)
    have hn := okL_size hok
    have hF := firstG_le us s
    have hFl := fun h => hasL_lt (us := us) (s := s) h
    obtain ⟨F, hFF⟩ : ∃ F, firstG us s = F := ⟨_, rfl⟩
    rw [hFF] at hF hFl
    have HF := Shh.mk hFF
    clear hFF
    cases hha : hasL us s
    · have HH := Shh.mk hha
      have HA := Shh.mk (remOut_none (s := s) hok hha)
      clear hok hha hFl
      go_enter Try.func35, Try.ntmps35
      go_wp2_with fail
      refine (valid_on HO.out _ HG.out.strs hz).mono ?_
      rintro e w1 ⟨rfl, hb1⟩
      have G1 := Shh.mk (HG.out.below hb1)
      have Q1 := Shh.mk (HR.out.kept hb1 HR.out.lt)
      have HB1 := Shh.mk (HB.out.trans (hb1.mono HB.out.size))
      have c2 := Q1.out.cells
      have m2 := Q1.out.marks
      clear c0 hb1
      have c0 := G1.out.blk.cells
      go_wp2_with fail
      refine (search_any _ s G1.out.strs HRI.out hn).mono ?_
      rw [HH.out, HF.out]
      rintro e w3 ⟨rfl, q, hw3⟩
      have G3 := Shh.mk (show LexAt w3 W.heap.size _ us by rw [hw3]; exact G1.out.drewN q)
      have Q3 := Shh.mk (show Blk w3 (W.heap.size + 1) 27 #[.slice none 0 0] by rw [hw3]; exact Q1.out.drewN q)
      have HB3 := Shh.mk (show Below W.heap.size W w3 by rw [hw3]; exact below_drewN HB1.out q)
      clear c0 c2 m2 hw3
      have c2 := Q3.out.cells
      have m2 := Q3.out.marks
      have c0 := G3.out.blk.cells
      go_wp2
      refine bodyPost_ret (v := .tuple #[.agg #[.slice none 0 0], .int .i64 3]) (by simp [results, Try.results35, go_sem, c2]) rfl ?_
      rw [HA.out]
      exact ⟨_, rfl, (OwnS.void _ _), HB3.out.setCell (by simp) _⟩
    · have HH := Shh.mk hha
      have HA := Shh.mk (remOut_yes (s := s) hok hha)
      have hFl := hFl hha
      have hz0 : 0 < us.length := by omega
      unfold maxLen at hm
      have hFi : (F : Int) ≤ (us.length : Int) := by omega
      have hFc : (F : Int) ≤ (ac : Int) := by omega
      have hF1 : (F : Int) + 1 ≤ (us.length : Int) := by omega
      have hF2 : IntKind.i64.wrap ((F : Int) + 1) = (F : Int) + 1 := IntWalk.i64_in _ (by omega)
      have hF3 : (F : Int) + 1 ≤ (ac : Int) := by omega
      have hF4 : 0 ≤ (F : Int) + 1 := by omega
      clear hok hha
      go_enter Try.func35, Try.ntmps35
      go_wp2_with fail
      refine (valid_on HO.out _ HG.out.strs hz).mono ?_
      rintro e w1 ⟨rfl, hb1⟩
      have G1 := Shh.mk (HG.out.below hb1)
      have Q1 := Shh.mk (HR.out.kept hb1 HR.out.lt)
      have HB1 := Shh.mk (HB.out.trans (hb1.mono HB.out.size))
      have c2 := Q1.out.cells
      have m2 := Q1.out.marks
      clear c0 hb1
      have c0 := G1.out.blk.cells
      go_wp2_with fail
      refine (search_any _ s G1.out.strs HRI.out hn).mono ?_
      rw [HH.out, HF.out]
      rintro e w3 ⟨rfl, q, hw3⟩
      have G3 := Shh.mk (show LexAt w3 W.heap.size _ us by rw [hw3]; exact G1.out.drewN q)
      have Q3 := Shh.mk (show Blk w3 (W.heap.size + 1) 27 #[.slice none 0 0] by rw [hw3]; exact Q1.out.drewN q)
      have HB3 := Shh.mk (show Below W.heap.size W w3 by rw [hw3]; exact below_drewN HB1.out q)
      clear c0 c2 m2 hw3
      have c2 := Q3.out.cells
      have m2 := Q3.out.marks
      have c0 := G3.out.blk.cells
      have HAS := Shh.mk (delL_at us s)
      have HK := Shh.mk (fun w' (hb : Below w3.heap.size w3 w') => (G3.out.below hb).blk.cells 0)
      have HST := Shh.mk G3.out.strs
      obtain ⟨b, off, rfl, hb, -⟩ := HC.out hz0
      by_cases hcf : ac = F + 1
      · subst hcf
        have hFe : (F : Int) ≤ (F : Int) + 1 := by omega
        have hFg : F ≤ F + 1 := by omega
        have HD := Shh.mk (show Strs w3 (.slice (some ⟨b, off, none⟩) (us.length - (F + 1)) 0) (us.drop (F + 1)) from by
          have e : us.length - (F + 1) = 0 := by omega
          rw [e, List.drop_eq_nil_of_le (by omega)]; exact Strs.void _ _ (Nat.zero_le _))
        have HD0 := Shh.mk (show Strs w3 (.slice (some ⟨b, off, none⟩) 0 0) (us.drop (F + 1)) from by
          rw [List.drop_eq_nil_of_le (by omega)]; exact Strs.void _ _ (Nat.zero_le _))
        go_wp2
        go_region_held3 (fun w' => w'.cell? ⟨W.heap.size, 0, none⟩ = some (.slice (some ⟨b, off, none⟩) us.length (F + 1)))
          (first | exact HK4.out _ _ (by simp) | exact HK.out _ (by first | assumption | exact (Below.refl _ _).drew | exact ((Below.refl _ _).alloc (Nat.le_refl _) _).drew))
          ((go_at_call 62; refine (concat2 (HST.out.takeL hF) (by first | exact HD.out | exact HD0.out) (by simp; omega)).mono ?_; rintro e w4 ⟨b4, n4, cp4, rfl, ho4, hb4⟩; have HK4 := Shh.mk (fun (p : Addr) (u : Value) (hp : W.heap.size ≠ p.block) => ((G3.out.below hb4).blk.other hp u).cells 0); have q4 := Q3.out.kept hb4 Q3.out.lt; have c4 := q4.cells; have m4 := q4.marks))
        all_goals
          go_wp2
          refine bodyPost_ret (v := .tuple #[.agg #[.slice b4 n4 cp4], .int .i64 0]) (by simp [results, Try.results35, go_sem, c4]) rfl ?_
          rw [HA.out, HAS.out, HF.out]
          refine ⟨_, rfl, (OwnS.lower (ho4.off Q3.out.lt 0 _) HB3.out.size), (HB3.out.trans (hb4.mono HB3.out.size)).setCell (by simp) _⟩
      · have HD := Shh.mk (HST.out.dropL (k := F + 1) (by omega))
        go_wp2
        go_region_held3 (fun w' => w'.cell? ⟨W.heap.size, 0, none⟩ = some (.slice (some ⟨b, off, none⟩) us.length ac))
          (first | exact HK4.out _ _ (by simp) | exact HK.out _ (by first | assumption | exact (Below.refl _ _).drew | exact ((Below.refl _ _).alloc (Nat.le_refl _) _).drew))
          ((go_at_call 62; refine (concat2 (HST.out.takeL hF) HD.out (by simp; omega)).mono ?_; rintro e w4 ⟨b4, n4, cp4, rfl, ho4, hb4⟩; have HK4 := Shh.mk (fun (p : Addr) (u : Value) (hp : W.heap.size ≠ p.block) => ((G3.out.below hb4).blk.other hp u).cells 0); have q4 := Q3.out.kept hb4 Q3.out.lt; have c4 := q4.cells; have m4 := q4.marks))
        all_goals
          go_wp2
          refine bodyPost_ret (v := .tuple #[.agg #[.slice b4 n4 cp4], .int .i64 0]) (by simp [results, Try.results35, go_sem, c4]) rfl ?_
          rw [HA.out, HAS.out, HF.out]
          refine ⟨_, rfl, (OwnS.lower (ho4.off Q3.out.lt 0 _) HB3.out.size), (HB3.out.trans (hb4.mono HB3.out.size)).setCell (by simp) _⟩
end Go.Proofs.Ytomofgebobabnaa
