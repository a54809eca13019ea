/-
  The words of a length: the model's WordsOfLength and the program's, by a map of lists.
-/
import Derived.Test.YtpjekfebpgjgnaaLJ
namespace Go.Proofs.Ytpjekfebpgjgnaa
open Go.RowKit Go.Lib

/-- The key of a word is its length. -/
def sizeQ (κ : Lit) (x : ByteArray) : Bool := match κ with
  | .int .i64 m => decide (m = (x.size : Int))
  | _ => false
theorem sizeQ_same (x : ByteArray) : sizeQ (.int .i64 (x.size : Int)) x = true := by simp [sizeQ]
theorem sizeQ_other {κ : Lit} {x : ByteArray} (h : κ ≠ .int .i64 (x.size : Int)) : sizeQ κ x = false := by
  unfold sizeQ
  split
  · rename_i m
    exact decide_eq_false fun e => h (by rw [e])
  · rfl
/-- The words of a length of a valid lexicon. -/
def lenOut (us : List ByteArray) (n : Int) : List ByteArray × Int := if okL us = false then ([], 1) else (pickTo (sizeQ (.int .i64 n)) us us.length, 0)
theorem lenOut_bad {us : List ByteArray} {n : Int} (h : okL us = false) : lenOut us n = ([], 1) := by simp [lenOut, h]
theorem lenOut_yes {us : List ByteArray} {n : Int} (h : okL us = true) : lenOut us n = (pickTo (sizeQ (.int .i64 n)) us us.length, 0) := by simp [lenOut, h]
theorem lenOut_len (us : List ByteArray) (n : Int) : (lenOut us n).1.length ≤ us.length := by
  unfold lenOut
  have := pickTo_len (sizeQ (.int .i64 n)) us us.length
  repeat' split
  all_goals simp
  omega


theorem lengthOf_any (s : ByteArray) (w : World) (_hs : s.size ≤ 1048576) : Calls Try.prog 101 #[.string s] w fun e w' => e = .returned (.int .i64 (s.size : Int)) ∧ w = w' := by
  go_enter Try.func101, Try.ntmps101
  go_wp2
  go_ret
  exact ⟨rfl, rfl⟩

set_option maxRecDepth 100000 in
set_option maxHeartbeats 1000000 in
theorem groupLen_any {v : Value} {us : List ByteArray} (w : World) (hu : Strs w v us) (hz : ∀ k, k < us.length → (strAt us k).size ≤ 1048576) (hn : us.length ≤ 200) :
    Calls Try.prog 149 #[v, .func (.func 101) #[] #[]] w fun e w' => ∃ D, e = .returned (.map (some w.heap.size)) ∧ Groups w' 2 (w.heap.size + 1) w.heap.size us.length D (fun κ => pickTo (sizeQ κ) us us.length) ∧ Below w.heap.size w w' := by
  have hmm := @run_makeMap Try.prog
  have HLS := Shh.mk hz
  have hul := hu.len
  obtain ⟨a, cap, rfl, hl1, hm, hc⟩ := hu
  have HC := Shh.mk hc
  clear hc hz
  go_enter Try.func149, Try.ntmps149
  go_wp2
  go_loopw [7, 8, 12] (fun _ _ i wr => ∃ (k : Nat) (D : DataW Value), k ≤ us.length ∧ i = .int .i64 k ∧ Shh (Groups wr 2 (w.heap.size + 1) w.heap.size k D (fun κ => pickTo (sizeQ κ) us k)) ∧ Below w.heap.size w wr) (fun _ _ i _ => us.length - (intOf i).toNat)
  case atStart => exact ⟨0, .map [], Nat.zero_le _, rfl, ⟨Groups.made _ _ _ fun κ => rfl⟩, (Below.refl _ _).alloc (Nat.le_refl _) _⟩
  case round =>
    obtain ⟨k, D, hk, rfl, HG, hb⟩ := hrel
    by_cases hlt : k < us.length
    · obtain ⟨b, off, rfl, hbl, hcc⟩ := HC.out (by omega)
      have ck := (hb.cell (p := ⟨b, off + k, none⟩) hbl).trans (hcc k hlt)
      have hls := HLS.out k hlt
      have hS := fun κ h => pickTo_skip (q := sizeQ κ) (us := us) hlt h
      have hM := fun κ h => pickTo_more (q := sizeQ κ) (us := us) hlt h
      obtain ⟨y, hy⟩ : ∃ y, strAt us k = y := ⟨_, rfl⟩
      rw [hy] at ck hls hS hM
      have HS := Shh.mk hS
      have HM := Shh.mk hM
      have HB := Shh.mk hb
      have hkey : Go.keyOf Try.prog 2 (.int .i64 (y.size : Int)) = some (.int .i64 (y.size : Int)) := Maps.keyOf_int_mk Try.underlying2 (WalkArith.wf_i64 (by omega))
      clear hcc hS hM hb hy
      go_wp2_with fail
      refine (lengthOf_any y _ hls).mono ?_
      rintro e w2 ⟨rfl, rfl⟩
      have hlen := pickTo_len (sizeQ (.int .i64 (y.size : Int))) us k
      go_wp2_with (first
        | (at_lookup; refine wpList_lookup_id _ rfl _ _ 116 rfl 2 24 (Maps.int_keyed Try.underlying2) Try.underlying116 (zeroSlice _) w.heap.size k D rfl HG.out.map _ _ rfl hkey ?_; intro v0 hat; obtain ⟨v1, hv1, ho⟩ := HG.out.own (.int .i64 (y.size : Int)); have hv01 : v1 = v0 := (by rw [hat] at hv1; injection hv1 with hv1; exact hv1.symm); rw [hv01] at ho; have HO := Shh.mk ho; have HAT := Shh.mk hat; clear hv1 ho hv01 hat)
        | (at_builtin; refine wpList_append_word rfl _ _ rfl y rfl rfl HO.out (by omega) HG.out.size ?_; intro v' w3 ho3 hg3 hloc; have HO3 := Shh.mk ho3; have HG3 := Shh.mk hg3; have HLOC := Shh.mk hloc; have hne : some w.heap.size ≠ v0.ownBlock := (fun e => by have := HO.out.block _ e.symm; omega); have HM3 := Shh.mk (HG.out.map.kept hg3 hne); have HB3 := Shh.mk (HB.out.grown hg3 HB.out.size (fun j hj => by have := HO.out.block j hj; omega)); clear ho3 hg3 hloc hne)
        | (at_mapUpdate; refine wpList_mapUpdate_own _ rfl _ _ _ 116 rfl 2 24 (Maps.int_keyed Try.underlying2) Try.underlying116 idR w.heap.size k D rfl HM3.out (by unfold maxLen; omega) _ _ _ rfl rfl hkey (.held v') [] rfl ?_; intro w4 hm4 hg4))
      have hb4 := HB3.out.grown hg4 HB3.out.size (fun j hj => by cases hj; exact Nat.le_refl _)
      have HG4 := Shh.mk (HG.out.put (f' := fun κ => pickTo (sizeQ κ) us (k + 1)) (by exact (Maps.int_keyed Try.underlying2).key hkey) HAT.out HG3.out (by show OwnS _ _ _ (pickTo (sizeQ (.int .i64 (y.size : Int))) us (k + 1)); rw [HM.out _ (sizeQ_same y)]; exact HO3.out) HLOC.out hm4 hg4 (fun κ hκ => HS.out κ (sizeQ_other hκ)))
      clear hm4 hg4 hkey
      go_wp2
      go_roundw
      case rel => exact ⟨k + 1, _, by omega, by go_num, HG4, hb4⟩
      case measure => simp [intOf]; omega
    · obtain rfl : k = us.length := by omega
      go_wp2
      go_ret
      exact ⟨D, rfl, HG.out, hb⟩

set_option maxRecDepth 100000 in
set_option maxHeartbeats 1000000 in
theorem implWordsOfLength_any {v : Value} {us : List ByteArray} (n : Int) (W : World) (hu : Strs W v us) (hz : ∀ s ∈ us, s.size ≤ maxLen) (hw : (Lit.int .i64 n).wf = true) :
    Calls Try.prog 100 #[.agg #[v], .int .i64 n] W fun e w' => ∃ v0, e = retS v0 (lenOut us n).2 ∧ OwnS W.heap.size w' v0 (lenOut us n).1 ∧ Below W.heap.size W w' := by
  have hul := hu.len
  have HG := Shh.mk (LexAt.made hu)
  have c0 := HG.out.blk.cells
  have HB := Shh.mk ((Below.refl W.heap.size W).alloc (Nat.le_refl _) (.cells #[v] 26))
  obtain ⟨aa, ac, rfl, -, -, hc⟩ := hu
  cases hok : okL us
  · have HA := Shh.mk (lenOut_bad (n := n) hok)
    have HO := Shh.mk hok
    clear hok
    go_enter Try.func100, Try.ntmps100
    go_wp2_with fail
    refine (valid_on HO.out _ HG.out.strs hz).mono ?_
    rintro e w1 ⟨rfl, hb1⟩
    go_wp2
    go_ret2
    rw [HA.out]
    exact ⟨_, rfl, OwnS.voidG _ _, HB.out.trans (hb1.mono HB.out.size)⟩
  · have HO := Shh.mk hok
    have HA := Shh.mk (lenOut_yes (n := n) hok)
    have HLS := Shh.mk (fun (k : Nat) (hk : k < us.length) => (long_small hok hk).2)
    have hn := okL_size hok
    have hkey : Go.keyOf Try.prog 2 (.int .i64 n) = some (.int .i64 n) := Maps.keyOf_int_mk Try.underlying2 hw
    clear hok
    go_enter Try.func100, Try.ntmps100
    go_wp2_with fail
    refine (valid_on HO.out _ HG.out.strs hz).mono ?_
    rintro e w1 ⟨rfl, hb1⟩
    have HG1 := Shh.mk (HG.out.belowG hb1)
    have HB1 := Shh.mk (HB.out.trans (hb1.mono HB.out.size))
    clear c0 hb1
    have c0 := HG1.out.blk.cells
    go_wp2_with fail
    refine (groupLen_any _ HG1.out.strs HLS.out hn).mono ?_
    rintro e w2 ⟨D, rfl, hg, hb2⟩
    have HGG := Shh.mk hg
    have HB2 := Shh.mk (HB1.out.trans (hb2.mono HB1.out.size))
    clear hg hb2
    go_wp2_with (at_lookup; refine wpList_lookup_id _ rfl _ _ 116 rfl 2 24 (Maps.int_keyed Try.underlying2) Try.underlying116 (zeroSlice _) w1.heap.size us.length D rfl HGG.out.map _ _ rfl hkey ?_; intro v0 hat; obtain ⟨v1, hv1, ho⟩ := HGG.out.own (.int .i64 n); have hv01 : v1 = v0 := (by rw [hat] at hv1; injection hv1 with hv1; exact hv1.symm); rw [hv01] at ho; have HO2 := Shh.mk ho; clear hv1 ho hat hv01)
    go_wp2
    go_ret2
    rw [HA.out]
    exact ⟨_, rfl, OwnS.lower HO2.out (Nat.le_succ_of_le HB1.out.size), HB2.out⟩
end Go.Proofs.Ytpjekfebpgjgnaa
