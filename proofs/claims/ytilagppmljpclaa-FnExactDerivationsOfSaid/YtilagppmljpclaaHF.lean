/-
  What makes a grammar valid: the program's answer.
-/
import Derived.Test.YtilagppmljpclaaHE
namespace Go.Proofs.Ytilagppmljpclaa
open Go.RowKit Go.Maps Go.WideMaps

def lastW (ss : List Stm) (k : Nat) : ByteArray := if k = 0 then ⟨#[]⟩ else (stmG ss (k - 1)).word
theorem lastW_zero (ss : List Stm) : lastW ss 0 = ⟨#[]⟩ := rfl
theorem lastW_succ (ss : List Stm) (k : Nat) : lastW ss (k + 1) = (stmG ss k).word := by simp [lastW]
theorem okSt_long {xs : List Aff} {ss : List Stm} {j : Nat} (h : longB (stmG ss j).word = false) : okSt xs ss j = false := by simp [okSt, stemB, h]
theorem okSt_uses {xs : List Aff} {ss : List Stm} {j : Nat} (h : allTo (useB xs (stmG ss j).uses) (stmG ss j).uses.length = false) : okSt xs ss j = false := by simp [okSt, stemB, h]
theorem okSt_up {xs : List Aff} {ss : List Stm} {j : Nat} (hp : 0 < (stmG ss j).word.size) (h : upS (lastW ss j) (stmG ss j).word = false) : okSt xs ss j = false := by
  cases j with
  | zero => rw [lastW_zero, upS_empty hp] at h; cases h
  | succ j => rw [lastW_succ] at h; simp [okSt, h]
theorem okSt_all {xs : List Aff} {ss : List Stm} {j : Nat} (h1 : longB (stmG ss j).word = true) (h2 : allTo (useB xs (stmG ss j).uses) (stmG ss j).uses.length = true) (h3 : upS (lastW ss j) (stmG ss j).word = true) : okSt xs ss j = true := by
  cases j with
  | zero => simp [okSt, stemB, h1, h2]
  | succ j => rw [lastW_succ] at h3; simp [okSt, stemB, h1, h2, h3]
theorem names_pos {xs : List Aff} {n : Nat} (h : allTo (affsB xs) n = true) : ∀ j, j < n → 0 < (affG xs j).n.size := by
  intro j hj
  have : affsB xs j = true := by
    unfold allTo at h
    rw [List.all_eq_true] at h
    exact h j (List.mem_range.2 hj)
  have hn := (affB_facts this).name
  rcases Nat.eq_zero_or_pos (affG xs j).n.size with h0 | h0
  · rw [isNameB_short h0] at hn; cases hn
  · exact h0
theorem okG_bad {xs : List Aff} {ss : List Stm} {k : Nat} (hk : k < xs.length) (h : affsB xs k = false) : okG xs ss = false := okG_affs (allTo_not hk (okA_not h))
theorem valid_is {f : Bool} {n w s a : ByteArray} {v : Bool} (h : affB n w s a = v) (W : World) (hn : n.size ≤ maxLen) (hw : w.size ≤ maxLen) (hs : s.size ≤ maxLen) (ha : a.size ≤ maxLen) :
    Calls Try.prog 128 #[.agg #[.string n, .bool f, .string w, .string s, .string a]] W fun e w' => e = .returned (.bool v) ∧ Below W.heap.size W w' := by rw [← h]; exact implValidAffix_any f n w s a W hn hw hs ha
theorem uses_is {v : Value} {us : List ByteArray} {t : Bool} {xs : List Aff} (h : allTo (useB xs us) us.length = t) (w : World) (B : Nat) (hu : Strs w v us) (hz : ∀ s ∈ us, s.size ≤ maxLen) (hN : NameSet w B xs xs.length) (hne : ∀ j, j < xs.length → 0 < (affG xs j).n.size) :
    Calls Try.prog 129 #[v, .map (some B)] w fun e w' => e = .returned (.bool t) ∧ Below w.heap.size w w' := by rw [← h]; exact validUses_any w B xs hu hz hN hne

theorem blk_grownH {w w' : World} {r : Option Nat} {b : Nat} {t : TypeId} {cs : Array Value} (h : Blk w b t cs) (hg : w.grownBy w' r) (hne : some b ≠ r) : Blk w' b t cs := (hg.block b h.lt hne).trans h

set_option maxRecDepth 100000 in
set_option maxHeartbeats 1000000 in
theorem implValidGrammar_any {va vs : Value} {xs : List Aff} {ss : List Stm} (W : World) (hg : Gram W va vs xs ss) (hx : ∀ x ∈ xs, AffFine x) (hs : ∀ x ∈ ss, StmFine x) :
    Calls Try.prog 74 #[.agg #[va, vs]] W fun e w' => e = .returned (.bool (okG xs ss)) ∧ Below W.heap.size W w' := by
  have hxl := hg.affs.len
  have hsl := hg.stms.len
  have hmm := @run_makeMap Try.prog
  have HG := Shh.mk hg
  have HB0 := Shh.mk ((Below.refl W.heap.size W).alloc (Nat.le_refl _) (.cells #[va, vs] 48))
  have HP0 := Shh.mk (Blk.made W 48 #[va, vs])
  obtain ⟨⟨aa, ac, rfl, hal, ham, hac⟩, ⟨sa, sc, rfl, hsl1, hsm, hsc⟩⟩ := hg
  have HCA := Shh.mk hac
  have HCS := Shh.mk hsc
  clear hac hsc
  by_cases hlen : xs.length ≤ 12 ∧ ss.length ≤ 30
  · have hi1 : ¬ (12 : Int) < (xs.length : Int) := by omega
    have hi2 : ¬ (30 : Int) < (ss.length : Int) := by omega
    have HL := Shh.mk hlen
    have hx12 := hlen.1
    clear hlen
    go_enter Try.func74, Try.ntmps74
    go_wp2
    go_loopw [5, 23] (fun _ i wr => ∃ k : Nat, k ≤ xs.length ∧ i = .int .i64 k ∧ Shh (NameSet wr (W.heap.size + 1) xs k) ∧ Below W.heap.size W wr ∧ Shh (Blk wr W.heap.size 48 #[.slice aa xs.length ac, .slice sa ss.length sc]) ∧ Hid (allTo (affsB xs) k = true)) (fun _ i _ => xs.length - (intOf i).toNat)
    case atStart =>
      have hn := NameSet.empty (W.alloc (.cells #[.slice aa xs.length ac, .slice sa ss.length sc] 48)) xs
      rw [World.size_alloc] at hn
      exact ⟨0, Nat.zero_le _, rfl, ⟨hn⟩, HB0.out.alloc HB0.out.size _, ⟨HP0.out.alloc _⟩, allTo_zero _⟩
    case round =>
      obtain ⟨k, hk, rfl, hN, hB, hP, ht⟩ := hrel
      by_cases hlt : k < xs.length
      · obtain ⟨ba, oa, rfl, hba, hcc⟩ := HCA.out (by omega)
        have ha := AffAt.below (hcc k hlt) hB hba
        have hfine := hx _ (affG_mem hlt)
        have HS := Shh.mk (allTo_succ (affsB xs) k)
        have HBAD := Shh.mk (fun h => okG_bad (ss := ss) hlt h)
        have hv : affB (affG xs k).n (affG xs k).w (affG xs k).s (affG xs k).a = affsB xs k := rfl
        have HNP := Shh.mk (fun (D : DataW Unit) h1 h2 h3 (n : ByteArray) h4 d => name_put (D := D) (xs := xs) (k := k) h1 h2 h3 (n := n) h4 d)
        obtain ⟨y, hy⟩ : ∃ y, affG xs k = y := ⟨_, rfl⟩
        have HY := Shh.mk hy
        rw [hy] at ha hfine hv
        obtain ⟨n, fr, ww, st, ad⟩ := y
        obtain ⟨k0, k1, k2, k3, k4⟩ := ha
        obtain ⟨z0, z1, z2, z3⟩ := hfine
        simp only at k0 k1 k2 k3 k4 z0 z1 z2 z3 hv
        have hwl : W.heap.size + 1 < wr.heap.size := hN.out.lt
        have hBa := hB.alloc hB.size (.cells #[.string n, .bool fr, .string ww, .string st, .string ad] 171)
        have HPa := Shh.mk (hP.out.alloc (.cells #[.string n, .bool fr, .string ww, .string st, .string ad] 171))
        have HNa := Shh.mk (hN.out.kept ((Below.refl _ _).alloc (Nat.le_refl _) (.cells #[.string n, .bool fr, .string ww, .string st, .string ad] 171)) hN.out.lt)
        have HC := Shh.mk (Blk.made wr 171 #[.string n, .bool fr, .string ww, .string st, .string ad])
        clear hcc hy
        cases hva : affsB xs k
        · have HV := Shh.mk (hv.trans hva)
          have HR := Shh.mk (HBAD.out hva)
          clear hv hva HBAD
          go_wp2_with fail
          refine (valid_is HV.out _ z0 z1 z2 z3).mono ?_
          rintro e w2 ⟨rfl, hb2⟩
          go_wp2
          go_ret
          exact ⟨ret_bool HR.out.symm, hBa.trans (hb2.mono hBa.size)⟩
        · have HV := Shh.mk (hv.trans hva)
          have HU := Shh.mk hva
          clear hv hva HBAD
          go_wp2_with fail
          refine (valid_is HV.out _ z0 z1 z2 z3).mono ?_
          rintro e w2 ⟨rfl, hb2⟩
          have hB2 := hBa.trans (hb2.mono hBa.size)
          have c2 := (HC.out.kept hb2 HC.out.lt).cells
          have HP2 := Shh.mk (HPa.out.kept hb2 HPa.out.lt)
          obtain ⟨D, hD, hown, hhas, hsize⟩ := HNa.out.kept hb2 HNa.out.lt
          have HPUT := Shh.mk (HNP.out D hD hhas hsize n (by rw [HY.out]) (.agg []))
          have hkey := keyOf_string_mk Try.underlying9 z0
          have hwl2 : W.heap.size < w2.heap.size := HP2.out.lt
          clear hhas hsize hD
          go_wp2_with (at_mapUpdate; refine wpList_mapUpdate_own _ rfl _ _ _ 178 rfl 9 180 lawS Try.underlying178 (unitElem (H := Unit)) (W.heap.size + 1) k _ rfl hown (by unfold maxLen; omega) _ _ _ rfl rfl hkey _ [] unitElem_mk ?_; intro w3 hown3 hgrow3)
          go_roundw
          case rel =>
            refine ⟨k + 1, by omega, by go_num, ⟨_, HPUT.out.1, hown3, HPUT.out.2.1, HPUT.out.2.2⟩, hB2.grown hgrow3 hB2.size (fun j hj => by cases hj; omega), ⟨blk_grownH HP2.out hgrow3 (by simp)⟩, by rw [Hid, HS.out, ht.out, HU.out]; rfl⟩
          case measure => simp [intOf]; omega
      · obtain rfl : k = xs.length := by omega
        have HTA := Shh.mk ht.out
        have HNE := Shh.mk (names_pos ht.out)
        have HN := Shh.mk hN.out
        have HP := Shh.mk hP.out
        have HBW := Shh.mk hB
        have hwl : W.heap.size + 1 < wr.heap.size := hN.out.lt
        have c0 := hP.out.cells
        clear ht hN hP hmm
        go_wp2
        clear c0
        go_loopw [6, 8, 38] (fun l _ i w' => ∃ k : Nat, k ≤ ss.length ∧ i = .int .i64 k ∧ l = .string (lastW ss k) ∧ Below wr.heap.size wr w' ∧ Hid (allTo (okSt xs ss) k = true)) (fun _ _ i _ => ss.length - (intOf i).toNat)
        case atStart => exact ⟨0, Nat.zero_le _, rfl, rfl, Below.refl _ _, allTo_zero _⟩
        case round =>
          obtain ⟨k, hk, rfl, rfl, hB1, ht⟩ := hrel
          have hBW := HBW.out.trans (hB1.mono HBW.out.size)
          by_cases hlt : k < ss.length
          · obtain ⟨bs, os, rfl, hbs, hcc⟩ := HCS.out (by omega)
            have ha := StmIs.below (hcc k hlt) hBW hbs
            have hfine := hs _ (stmG_mem hlt)
            have HS := Shh.mk (allTo_succ (okSt xs ss) k)
            have HN0 := Shh.mk (fun h => okG_stms (xs := xs) (allTo_not (p := okSt xs ss) (n := ss.length) hlt h))
            have HLS := Shh.mk (lastW_succ ss k)
            have h1f := fun h => okSt_long (xs := xs) (ss := ss) (j := k) h
            have h2f := fun h => okSt_uses (xs := xs) (ss := ss) (j := k) h
            have h3f := fun h0 h => okSt_up (xs := xs) (ss := ss) (j := k) h0 h
            have h4f := fun h1 h2 h3 => okSt_all (xs := xs) (ss := ss) (j := k) h1 h2 h3
            obtain ⟨y, hy⟩ : ∃ y, stmG ss k = y := ⟨_, rfl⟩
            rw [hy] at ha hfine h1f h2f h3f h4f HLS
            obtain ⟨l, hl'⟩ : ∃ l, lastW ss k = l := ⟨_, rfl⟩
            rw [hl'] at h3f h4f
            obtain ⟨word, us⟩ := y
            obtain ⟨k0, u, k1, hu⟩ := ha
            obtain ⟨z0, z1⟩ := hfine
            simp only at k0 k1 hu z0 z1 h1f h2f h3f h4f HLS
            have HU := Shh.mk hu
            obtain ⟨ua, uc, rfl, -⟩ := hu
            have hBa := hBW.alloc hBW.size (.cells #[.string word, .slice ua us.length uc] 111)
            have HC := Shh.mk (Blk.made wr 111 #[.string word, .slice ua us.length uc])
            have HNw := Shh.mk ((HN.out.kept hB1 HN.out.lt).kept ((Below.refl _ _).alloc (Nat.le_refl _) (.cells #[.string word, .slice ua us.length uc] 111)) (by have := hB1.size; omega))
            have hB1a := hB1.alloc hB1.size (.cells #[.string word, .slice ua us.length uc] 111)
            rw [hl']
            clear hcc hy hl'
            cases hlg : longB word
            · have HLG := Shh.mk hlg
              have HR := Shh.mk (HN0.out (h1f hlg))
              clear hlg h1f h2f h3f h4f HN0
              go_wp2_with fail
              refine (longI HLG.out _ z0).mono ?_
              rintro e w2 ⟨rfl, hb2⟩
              go_wp2
              go_ret
              exact ⟨ret_bool HR.out.symm, hBa.trans (hb2.mono hBa.size)⟩
            · have HLG := Shh.mk hlg
              have hpos : 0 < word.size := by have := longB_size hlg; omega
              have hcmp := not_le (a := l) (b := word)
              cases hup : upS l word
              · have HR := Shh.mk (HN0.out (h3f hpos hup))
                rw [hup] at hcmp
                simp only [Bool.not_false] at hcmp
                clear hlg h1f h2f h3f h4f HN0 hup hpos
                go_wp2_with fail
                refine (longI HLG.out _ z0).mono ?_
                rintro e w2 ⟨rfl, hb2⟩
                have c2 := (HC.out.kept hb2 HC.out.lt).cells
                go_wp2
                go_ret
                exact ⟨ret_bool HR.out.symm, hBa.trans (hb2.mono hBa.size)⟩
              · rw [hup] at hcmp
                simp only [Bool.not_true] at hcmp
                cases hus : allTo (useB xs us) us.length
                · have HUS := Shh.mk hus
                  have HR := Shh.mk (HN0.out (h2f hus))
                  clear hlg h1f h2f h3f h4f HN0 hup hpos hus
                  go_wp2_with fail
                  refine (longI HLG.out _ z0).mono ?_
                  rintro e w2 ⟨rfl, hb2⟩
                  have c2 := (HC.out.kept hb2 HC.out.lt).cells
                  have hBb := hBa.trans (hb2.mono hBa.size)
                  go_wp2_with fail
                  refine (uses_is HUS.out _ (W.heap.size + 1) ((HU.out.alloc _).below hb2) z1 (HNw.out.kept hb2 HNw.out.lt) HNE.out).mono ?_
                  rintro e w3 ⟨rfl, hb3⟩
                  go_wp2
                  go_ret
                  exact ⟨ret_bool HR.out.symm, hBb.trans (hb3.mono hBb.size)⟩
                · have HUS := Shh.mk hus
                  have HO := Shh.mk (h4f hlg hus hup)
                  clear hlg h1f h2f h3f h4f HN0 hup hpos hus
                  go_wp2_with fail
                  refine (longI HLG.out _ z0).mono ?_
                  rintro e w2 ⟨rfl, hb2⟩
                  have p2 := HC.out.kept hb2 HC.out.lt
                  have c2 := p2.cells
                  have hB1b := hB1a.trans (hb2.mono hB1a.size)
                  go_wp2_with fail
                  refine (uses_is HUS.out _ (W.heap.size + 1) ((HU.out.alloc _).below hb2) z1 (HNw.out.kept hb2 HNw.out.lt) HNE.out).mono ?_
                  rintro e w3 ⟨rfl, hb3⟩
                  have c3 := (p2.kept hb3 p2.lt).cells
                  have hB1c := hB1b.trans (hb3.mono hB1b.size)
                  clear c2
                  go_wp2
                  go_roundw
                  case rel => exact ⟨k + 1, by omega, by go_num, by rw [HLS.out], hB1c, by rw [Hid, HS.out, ht.out, HO.out]; rfl⟩
                  case measure => simp [intOf]; omega
          · obtain rfl : k = ss.length := by omega
            obtain ⟨D, hD, hown, hhas, hsize⟩ := HN.out.kept hB1 HN.out.lt
            have hR := okG_fresh HTA.out ht.out HL.out.1 HL.out.2
            have c1 := (HP.out.kept hB1 HP.out.lt).cells
            by_cases hcn : cntFresh xs xs.length = xs.length
            · have HR := Shh.mk (hR.trans (decide_eq_true hcn))
              have HSZ := Shh.mk (hsize.trans hcn)
              clear hR hcn hsize hhas hD ht
              go_wp2_with (at_len; refine wpList_len_own _ rfl _ 178 rfl 9 180 Try.underlying178 _ (W.heap.size + 1) xs.length D rfl hown ?_; rw [HSZ.out])
              go_ret
              exact ⟨ret_bool HR.out.symm, hBW⟩
            · have HR := Shh.mk (hR.trans (decide_eq_false hcn))
              have HSZ := Shh.mk hsize
              have hcb : ((cntFresh xs xs.length : Int) == (xs.length : Int)) = false := by rw [beq_eq_false_iff_ne]; omega
              clear hR hcn hsize hhas hD ht
              go_wp2_with (at_len; refine wpList_len_own _ rfl _ 178 rfl 9 180 Try.underlying178 _ (W.heap.size + 1) xs.length D rfl hown ?_; rw [HSZ.out])
              go_ret
              exact ⟨ret_bool HR.out.symm, hBW⟩
  · have HR := Shh.mk (okG_len hlen)
    by_cases hl1 : xs.length ≤ 12
    · have hi1 : ¬ (12 : Int) < (xs.length : Int) := by omega
      have hi2 : (30 : Int) < (ss.length : Int) := by omega
      clear hlen hl1
      go_enter Try.func74, Try.ntmps74
      go_wp2
      go_ret
      exact ⟨ret_bool HR.out.symm, HB0.out⟩
    · have hi1 : (12 : Int) < (xs.length : Int) := by omega
      clear hlen hl1
      go_enter Try.func74, Try.ntmps74
      go_wp2
      go_ret
      exact ⟨ret_bool HR.out.symm, HB0.out⟩
end Go.Proofs.Ytilagppmljpclaa
