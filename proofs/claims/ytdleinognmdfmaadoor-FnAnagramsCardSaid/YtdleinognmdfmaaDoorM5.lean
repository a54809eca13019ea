/-
  The words with the same letters: the model's AnagramsOf and the program's, by a map of lists.
-/
import Derived.Test.YtdleinognmdfmaaDoorLJ
import Derived.Test.YtdleinognmdfmaaDoorD5
namespace Go.Proofs.YtdleinognmdfmaaDoor
open Go.RowKit Go.Lib

/-! ### Plain facts: the tiles of a word are its letters in ascending order -/
theorem word_lower {l : List UInt8} (h : isWordB l = true) : ∀ c ∈ l, 97 ≤ (c.toNat : Int) ∧ (c.toNat : Int) ≤ 122 := by
  unfold isWordB allSmall at h
  simp only [Bool.and_eq_true] at h
  intro c hc
  exact smallB_iff.1 (List.all_eq_true.1 h.1.1 c hc)
theorem word_tiles {l : List UInt8} (h : isWordB l = true) : allTiles l = true := by
  unfold allTiles
  rw [List.all_eq_true]
  intro c hc
  exact tileB_iff.2 (.inr (word_lower h c hc))
theorem word_out {l : List UInt8} (h : isWordB l = true) : tilesOut l = sortL l := by
  have hp : placedL l = true := by
    have h2 := h
    unfold isWordB at h2
    unfold placedL allLet
    simp only [Bool.and_eq_true] at h2 ⊢
    refine ⟨⟨?_, h2.1.2⟩, h2.2⟩
    rw [List.all_eq_true]
    intro c hc
    exact letB_iff.2 (.inl (word_lower h c hc))
  have hm : l.map tileU = l := by
    conv => rhs; rw [← List.map_id l]
    apply List.map_congr_left
    intro c hc
    have := word_lower h c hc
    unfold tileU
    rw [if_neg (by omega)]
    rfl
  rw [tilesOut_yes hp, hm]
theorem pickTo_congr {q q' : ByteArray → Bool} {us : List ByteArray} (h : ∀ x ∈ us, q x = q' x) : pickTo q us us.length = pickTo q' us us.length := by
  unfold pickTo
  rw [List.take_length]
  exact List.filter_congr h

def sortT (x : ByteArray) : ByteArray := txt (sortL x.data.toList)
def tileT (x : ByteArray) : ByteArray := txt (tilesOut x.data.toList)
theorem tileT_size (x : ByteArray) : (tileT x).size ≤ maxLen := by
  unfold tileT
  rw [txt_size]
  cases hp : placedL x.data.toList
  · rw [tilesOut_no hp]; exact Nat.zero_le _
  · rw [tilesOut_yes hp, sortL_len (map_tiles (placed_let hp)), List.length_map]
    have := placed_len hp
    unfold maxLen
    omega
theorem tileT_word {x : ByteArray} (h : isWordB x.data.toList = true) : tileT x = sortT x := by unfold tileT sortT; rw [word_out h]
/-- The key of a word: its tiles. -/
def tileQ (κ : Lit) (x : ByteArray) : Bool := match κ with
  | .string l => decide (l = (tileT x).data.toList)
  | _ => false
theorem tileQ_same (x : ByteArray) : tileQ (.string (tileT x).data.toList) x = true := by simp [tileQ]
theorem tileQ_other {κ : Lit} {x : ByteArray} (h : κ ≠ .string (tileT x).data.toList) : tileQ κ x = false := by
  unfold tileQ
  split
  · rename_i m
    exact decide_eq_false fun e => h (by rw [e])
  · rfl
def sameQ (s x : ByteArray) : Bool := decide (sortT x = sortT s)
/-- The words of a valid lexicon with the letters of a word. -/
def anaOut (us : List ByteArray) (s : ByteArray) : List ByteArray × Int :=
  if okL us = false then ([], 1) else if isWordB s.data.toList = false then ([], 7) else (pickTo (sameQ s) us us.length, 0)
theorem anaOut_bad {us : List ByteArray} {s : ByteArray} (h : okL us = false) : anaOut us s = ([], 1) := by simp [anaOut, h]
theorem anaOut_word {us : List ByteArray} {s : ByteArray} (h : okL us = true) (h2 : isWordB s.data.toList = false) : anaOut us s = ([], 7) := by simp [anaOut, h, h2]
theorem anaOut_yes {us : List ByteArray} {s : ByteArray} (h : okL us = true) (h2 : isWordB s.data.toList = true) : anaOut us s = (pickTo (sameQ s) us us.length, 0) := by simp [anaOut, h, h2]
theorem anaOut_len (us : List ByteArray) (s : ByteArray) : (anaOut us s).1.length ≤ us.length := by
  unfold anaOut
  have := pickTo_len (sameQ s) us us.length
  repeat' split
  all_goals simp
  omega
theorem ana_same {us : List ByteArray} {s : ByteArray} (h : okL us = true) (h2 : isWordB s.data.toList = true) : pickTo (tileQ (.string (tileT s).data.toList)) us us.length = pickTo (sameQ s) us us.length := by
  refine pickTo_congr fun x hx => ?_
  obtain ⟨j, hj, rfl⟩ := List.mem_iff_getElem.1 hx
  have hl := okL_long h hj
  rw [strAt_eq hj] at hl
  unfold tileQ sameQ
  rw [tileT_word h2, tileT_word (long_word hl)]
  by_cases e : sortT us[j] = sortT s
  · rw [e]; simp
  · rw [decide_eq_false e]
    exact decide_eq_false fun e2 => e (Go.WideShapes.bytes_inj e2.symm)


theorem isWordI_is {s : ByteArray} {b : Bool} (h : isWordB s.data.toList = b) (w : World) (hs : s.size ≤ maxLen) : Calls Tryd.prog 19 #[.string s] w fun e w' => e = .returned (.bool b) ∧ Below w.heap.size w w' := by rw [← h]; exact implIsWord_any s w hs
theorem tiles_is {s T : ByteArray} (h : tileT s = T) (w : World) (hs : s.size ≤ 1048576) (hT : Tabs w) : Calls Tryd.prog 21 #[.string s] w fun e w' => e = .returned (.string T) ∧ Below w.heap.size w w' := by rw [← h]; exact implTilesOfWord_any s w hs hT
theorem keyS {x Y : ByteArray} (h : tileT x = Y) : Go.keyOf Tryd.prog 9 (.string Y) = some (.string Y.data.toList) := WideMaps.keyOf_string_mk Tryd.underlying9 (by rw [← h]; exact tileT_size x)

set_option maxRecDepth 100000 in
set_option maxHeartbeats 1000000 in
theorem groupTiles_any {v : Value} {us : List ByteArray} (w : World) (hu : Strs w v us) (hz : ∀ k, k < us.length → (strAt us k).size ≤ 1048576) (hn : us.length ≤ 200) (hT : Tabs w) :
    Calls Tryd.prog 20 #[v, .func (.func 21) #[] #[]] w fun e w' => ∃ D, e = .returned (.map (some w.heap.size)) ∧ Groups w' 9 (w.heap.size + 1) w.heap.size us.length D (fun κ => pickTo (tileQ κ) us us.length) ∧ Below w.heap.size w w' := by
  have hmm := @run_makeMap Tryd.prog
  have HLS := Shh.mk hz
  have HT := Shh.mk hT
  have hul := hu.len
  obtain ⟨a, cap, rfl, hl1, hm, hc⟩ := hu
  have HC := Shh.mk hc
  clear hc hz hT
  go_enter Tryd.func20, Tryd.ntmps20
  go_wp2
  go_loopw [7, 8, 12] (fun _ _ i wr => ∃ (k : Nat) (D : DataW Value), k ≤ us.length ∧ i = .int .i64 k ∧ Shh (Groups wr 9 (w.heap.size + 1) w.heap.size k D (fun κ => pickTo (tileQ κ) us k)) ∧ Below w.heap.size w wr) (fun _ _ i _ => us.length - (intOf i).toNat)
  case atStart => exact ⟨0, .map [], Nat.zero_le _, rfl, ⟨Groups.made _ _ _ fun κ => rfl⟩, (Below.refl _ _).alloc (Nat.le_refl _) _⟩
  case round =>
    obtain ⟨k, D, hk, rfl, HG, hb⟩ := hrel
    by_cases hlt : k < us.length
    · obtain ⟨b, off, rfl, hbl, hcc⟩ := HC.out (by omega)
      have ck := (hb.cell (p := ⟨b, off + k, none⟩) hbl).trans (hcc k hlt)
      have hls := HLS.out k hlt
      have hS := fun κ h => pickTo_skip (q := tileQ κ) (us := us) hlt h
      have hM := fun κ h => pickTo_more (q := tileQ κ) (us := us) hlt h
      obtain ⟨y, hy⟩ : ∃ y, strAt us k = y := ⟨_, rfl⟩
      rw [hy] at ck hls hS hM
      have hS2 := fun κ (h : κ ≠ .string (tileT y).data.toList) => hS κ (tileQ_other h)
      have hM2 := hM _ (tileQ_same y)
      have HTL := Shh.mk (fun (w : World) h => tiles_is (s := y) (T := tileT y) rfl w hls h)
      obtain ⟨Y, hY⟩ : ∃ Y, tileT y = Y := ⟨_, rfl⟩
      have hkey := keyS hY
      rw [hY] at hS2 hM2 HTL
      have HS := Shh.mk hS2
      have HM := Shh.mk hM2
      have HB := Shh.mk hb
      have hlen := pickTo_len (tileQ (.string Y.data.toList)) us k
      clear hcc hS hM hS2 hM2 hb hy hY
      go_wp2_with fail
      refine (HTL.out _ (HT.out.on HB.out)).mono ?_
      rintro e w2 ⟨rfl, hb2⟩
      have HG2 := Shh.mk (HG.out.below hb2)
      have HB2 := Shh.mk (HB.out.trans (hb2.mono HB.out.size))
      clear hb2 ck
      go_wp2_with (first
        | (at_lookup; refine wpList_lookup_id _ rfl _ _ 43 rfl 9 24 (Maps.string_keyed Tryd.underlying9) Tryd.underlying43 (zeroSlice _) w.heap.size k D rfl HG2.out.map _ _ rfl hkey ?_; intro v0 hat; obtain ⟨v1, hv1, ho⟩ := HG2.out.own (.string Y.data.toList); have hv01 : v1 = v0 := (by rw [hat] at hv1; injection hv1 with hv1; exact hv1.symm); rw [hv01] at ho; have HO := Shh.mk ho; have HAT := Shh.mk hat; clear hv1 ho hv01 hat)
        | (at_builtin; refine wpList_append_word rfl _ _ rfl y rfl rfl HO.out (by omega) HG2.out.size ?_; intro v' w3 ho3 hg3 hloc; have HO3 := Shh.mk ho3; have HG3 := Shh.mk hg3; have HLOC := Shh.mk hloc; have hne : some w.heap.size ≠ v0.ownBlock := (fun e => by have := HO.out.block _ e.symm; omega); have HM3 := Shh.mk (HG2.out.map.kept hg3 hne); have HB3 := Shh.mk (HB2.out.grown hg3 HB2.out.size (fun j hj => by have := HO.out.block j hj; omega)); clear ho3 hg3 hloc hne)
        | (at_mapUpdate; refine wpList_mapUpdate_own _ rfl _ _ _ 43 rfl 9 24 (Maps.string_keyed Tryd.underlying9) Tryd.underlying43 idR w.heap.size k D rfl HM3.out (by unfold maxLen; omega) _ _ _ rfl rfl hkey (.held v') [] rfl ?_; intro w4 hm4 hg4))
      have hb4 := HB3.out.grown hg4 HB3.out.size (fun j hj => by cases hj; exact Nat.le_refl _)
      have HG4 := Shh.mk (HG2.out.put (f' := fun κ => pickTo (tileQ κ) us (k + 1)) (by exact (Maps.string_keyed Tryd.underlying9).key hkey) HAT.out HG3.out (by show OwnS _ _ _ (pickTo (tileQ (.string Y.data.toList)) us (k + 1)); rw [HM.out]; exact HO3.out) HLOC.out hm4 hg4 (fun κ hκ => HS.out κ hκ))
      clear hm4 hg4 hkey
      go_wp2
      go_roundw
      case rel => exact ⟨k + 1, _, by omega, by go_num, HG4, hb4⟩
      case measure => simp [intOf]; omega
    · obtain rfl : k = us.length := by omega
      go_wp2
      go_ret
      exact ⟨D, rfl, HG.out, hb⟩

set_option maxRecDepth 100000 in
set_option maxHeartbeats 1000000 in
theorem implAnagramsOf_any {v : Value} {us : List ByteArray} (s : ByteArray) (W : World) (hu : Strs W v us) (hz : ∀ s ∈ us, s.size ≤ maxLen) (hs : s.size ≤ 1048576) (hT : Tabs W) :
    Calls Tryd.prog 7 #[.agg #[v], .string s] W fun e w' => ∃ v0, e = retS v0 (anaOut us s).2 ∧ OwnS W.heap.size w' v0 (anaOut us s).1 ∧ Below W.heap.size W w' := by
  have hul := hu.len
  have HT := Shh.mk hT
  have hsm : s.size ≤ maxLen := by unfold maxLen; omega
  have HG := Shh.mk (LexAt.made hu)
  have c0 := HG.out.blk.cells
  have HB := Shh.mk ((Below.refl W.heap.size W).alloc (Nat.le_refl _) (.cells #[v] 26))
  obtain ⟨aa, ac, rfl, -, -, hc⟩ := hu
  clear hT
  cases hok : okL us
  · have HA := Shh.mk (anaOut_bad (s := s) hok)
    have HO := Shh.mk hok
    clear hok
    go_enter Tryd.func7, Tryd.ntmps7
    go_wp2_with fail
    refine (valid_on HO.out _ HG.out.strs hz).mono ?_
    rintro e w1 ⟨rfl, hb1⟩
    go_wp2
    go_ret2
    rw [HA.out]
    exact ⟨_, rfl, OwnS.voidG _ _, HB.out.trans (hb1.mono HB.out.size)⟩
  · have HO := Shh.mk hok
    cases hwd : isWordB s.data.toList
    · have HA := Shh.mk (anaOut_word hok hwd)
      have HP := Shh.mk hwd
      clear hok hwd
      go_enter Tryd.func7, Tryd.ntmps7
      go_wp2_with fail
      refine (valid_on HO.out _ HG.out.strs hz).mono ?_
      rintro e w1 ⟨rfl, hb1⟩
      have HB1 := Shh.mk (HB.out.trans (hb1.mono HB.out.size))
      clear c0 hb1
      go_wp2_with fail
      refine (isWordI_is HP.out _ hsm).mono ?_
      rintro e w2 ⟨rfl, hb2⟩
      go_wp2
      go_ret2
      rw [HA.out]
      exact ⟨_, rfl, OwnS.voidG _ _, HB1.out.trans (hb2.mono HB1.out.size)⟩
    · have HA := Shh.mk (anaOut_yes hok hwd)
      have HAS := Shh.mk (ana_same hok hwd)
      have HP := Shh.mk hwd
      have HLS := Shh.mk (fun (k : Nat) (hk : k < us.length) => (long_small hok hk).2)
      have hn := okL_size hok
      obtain ⟨Y, hY⟩ : ∃ Y, tileT s = Y := ⟨_, rfl⟩
      rw [hY] at HAS
      have HY := Shh.mk hY
      have hkey := keyS hY
      clear hok hwd hY
      go_enter Tryd.func7, Tryd.ntmps7
      go_wp2_with fail
      refine (valid_on HO.out _ HG.out.strs hz).mono ?_
      rintro e w1 ⟨rfl, hb1⟩
      have HG1 := Shh.mk (HG.out.belowG hb1)
      have HB1 := Shh.mk (HB.out.trans (hb1.mono HB.out.size))
      clear c0 hb1
      go_wp2_with fail
      refine (isWordI_is HP.out _ hsm).mono ?_
      rintro e w2 ⟨rfl, hb2⟩
      have HG2 := Shh.mk (HG1.out.belowG hb2)
      have HB2 := Shh.mk (HB1.out.trans (hb2.mono HB1.out.size))
      clear hb2
      have c0 := HG2.out.blk.cells
      go_wp2_with fail
      refine (groupTiles_any _ HG2.out.strs HLS.out hn (HT.out.on HB2.out)).mono ?_
      rintro e w3 ⟨D, rfl, hg, hb3⟩
      have HGG := Shh.mk hg
      have HB3 := Shh.mk (HB2.out.trans (hb3.mono HB2.out.size))
      clear hg hb3 c0
      go_wp2_with fail
      refine (tiles_is HY.out _ hs (HT.out.on HB3.out)).mono ?_
      rintro e w4 ⟨rfl, hb4⟩
      have HGG4 := Shh.mk (HGG.out.below hb4)
      have HB4 := Shh.mk (HB3.out.trans (hb4.mono HB3.out.size))
      clear hb4
      go_wp2_with (at_lookup; refine wpList_lookup_id _ rfl _ _ 43 rfl 9 24 (Maps.string_keyed Tryd.underlying9) Tryd.underlying43 (zeroSlice _) w2.heap.size us.length D rfl HGG4.out.map _ _ rfl hkey ?_; intro v0 hat; obtain ⟨v1, hv1, ho⟩ := HGG4.out.own (.string Y.data.toList); have hv01 : v1 = v0 := (by rw [hat] at hv1; injection hv1 with hv1; exact hv1.symm); rw [hv01] at ho; have HO2 := Shh.mk ho; clear hv1 ho hat hv01)
      go_wp2
      go_ret2
      rw [HA.out]
      have ho := HO2.out
      rw [HAS.out] at ho
      exact ⟨_, rfl, OwnS.lower ho (Nat.le_succ_of_le HB2.out.size), HB4.out⟩
end Go.Proofs.YtdleinognmdfmaaDoor
