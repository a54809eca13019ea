/-
  Grammars that are the same: the model's comparison; the laws' own of what is the same.
-/
import Derived.Test.YtpdphimlpeiifaaH8
namespace Go.Proofs.Ytpdphimlpeiifaa
open Go.RowKit

theorem l05Same_is {va vb : Value} {us vs : List ByteArray} {t : Bool} (h : sameStrs us vs = t) (w : World) (ha : Strs w va us) (hb : Strs w vb vs) :
    Calls Try.prog 76 #[va, vb] w fun e w' => e = .returned (.bool t) ∧ ∃ n, w' = w.drewN n := by rw [← h]; exact l05Same_any w ha hb
theorem Affs.drewN {W : World} {v : Value} {xs : List Aff} (h : Affs W v xs) (m : Nat) : Affs (W.drewN m) v xs := h.below (below_drewN (Below.refl _ _) m)
theorem sameG_lens {xs ys : List Aff} {ss ts : List Stm} (h : ¬ (xs.length = ys.length ∧ ss.length = ts.length)) : sameG xs ys ss ts = false := by
  unfold sameG
  by_cases h1 : xs.length = ys.length
  · rw [sameTs_len (fun e => h ⟨h1, e⟩), Bool.and_false]
  · rw [sameAs_len h1, Bool.false_and]

set_option maxRecDepth 100000 in
set_option maxHeartbeats 8000000 in
theorem specSameGrammar_any {va vb vs vt : Value} {xs ys : List Aff} {ss ts : List Stm} (W : World) (hx : Gram W va vs xs ss) (hy : Gram W vb vt ys ts) :
    Calls Try.prog 31 #[.agg #[va, vs], .agg #[vb, vt]] W fun e w' => e = .returned (.bool (sameG xs ys ss ts)) ∧ Below W.heap.size W w' := by
  have hxl := hx.affs.len
  have hyl := hy.affs.len
  have hsl := hx.stms.len
  have htl := hy.stms.len
  have hguard := Try.eqGuardType25
  have HX := Shh.mk ((hx.alloc (.cells #[va, vs] 46)).alloc (.cells #[vb, vt] 46))
  have HY := Shh.mk ((hy.alloc (.cells #[va, vs] 46)).alloc (.cells #[vb, vt] 46))
  have HB0 := Shh.mk (((Below.refl W.heap.size W).alloc (Nat.le_refl _) (.cells #[va, vs] 46)).alloc (by simp) (.cells #[vb, vt] 46))
  obtain ⟨⟨aa, ac, rfl, -⟩, ⟨sa, sc, rfl, -⟩⟩ := hx
  obtain ⟨⟨ba, bc, rfl, -⟩, ⟨ta, tc, rfl, -⟩⟩ := hy
  by_cases hne : xs.length = ys.length ∧ ss.length = ts.length
  · have hn1 : (xs.length : Int) = (ys.length : Int) := by omega
    have hn2 : (ss.length : Int) = (ts.length : Int) := by omega
    have hallA := sameAs_all hne.1
    have hallT := sameTs_all hne.2
    have HE := Shh.mk hne
    obtain ⟨p, hp⟩ : ∃ p : Nat → Bool, (fun j => sameA (affG xs j) (affG ys j)) = p := ⟨_, rfl⟩
    have hpk : ∀ k, sameA (affG xs k) (affG ys k) = p k := fun k => by rw [← hp]
    rw [hp] at hallA
    obtain ⟨q, hq⟩ : ∃ q : Nat → Bool, (fun j => sameT (stmG ss j) (stmG ts j)) = q := ⟨_, rfl⟩
    have hqk : ∀ k, sameT (stmG ss k) (stmG ts k) = q k := fun k => by rw [← hq]
    rw [hq] at hallT
    have HA := Shh.mk hallA
    have HT := Shh.mk hallT
    have HP := Shh.mk hpk
    have HQ := Shh.mk hqk
    have p0 : Blk ((W.alloc (.cells #[.slice aa xs.length ac, .slice sa ss.length sc] 46)).alloc (.cells #[.slice ba ys.length bc, .slice ta ts.length tc] 46)) W.heap.size 46 #[.slice aa xs.length ac, .slice sa ss.length sc] := (Blk.made W _ _).alloc _
    have p1 := Blk.made (W.alloc (.cells #[.slice aa xs.length ac, .slice sa ss.length sc] 46)) 46 #[.slice ba ys.length bc, .slice ta ts.length tc]
    rw [World.size_alloc] at p1
    clear hne hallA hallT hpk hqk hp hq
    go_enter Try.func31, Try.ntmps31
    go_wp2
    generalize (W.alloc (.cells #[.slice aa xs.length ac, .slice sa ss.length sc] 46)).alloc (.cells #[.slice ba ys.length bc, .slice ta ts.length tc] 46) = w0 at *
    have c0 := p0.cells
    have c1 := p1.cells
    have HB := Shh.mk (fun wr (h : ∃ n, wr = w0.drewN n) => show Below W.heap.size W wr by obtain ⟨n, rfl⟩ := h; exact below_drewN HB0.out n)
    clear p0 p1 hn1 hn2
    obtain ⟨aa', ac', ea, ela, ema, hca⟩ := HX.out.affs
    obtain ⟨ba', bc', eb, elb, emb, hcb⟩ := HY.out.affs
    cases ea
    cases eb
    have HCA := Shh.mk hca
    have HCB := Shh.mk hcb
    clear hca hcb
    go_loopw [5] (fun i w' => ∃ k n : Nat, k ≤ xs.length ∧ i = .int .i64 k ∧ w' = w0.drewN n ∧ Hid (allTo p k = true)) (fun i _ => xs.length - (intOf i).toNat)
    case atStart => exact ⟨0, 0, Nat.zero_le _, rfl, rfl, allTo_zero _⟩
    case round =>
      obtain ⟨k, m, hk, rfl, rfl, ht⟩ := hrel
      by_cases hlt : k < xs.length
      · have hltb : k < ys.length := by rw [← HE.out.1]; exact hlt
        obtain ⟨ba, oa, rfl, hba, hca'⟩ := HCA.out (by omega)
        obtain ⟨bb, ob, rfl, hbb, hcb'⟩ := HCB.out (by omega)
        have ca := hca' k hlt
        have cb := hcb' k hltb
        have hk1 := HP.out k
        have HS := Shh.mk (allTo_succ p k)
        have HNO := Shh.mk (fun h => sameG_no (ss := ss) (ts := ts) (HA.out.trans (allTo_not (p := p) (n := xs.length) hlt h)))
        obtain ⟨x, hx⟩ : ∃ x, affG xs k = x := ⟨_, rfl⟩
        obtain ⟨y, hy⟩ : ∃ y, affG ys k = y := ⟨_, rfl⟩
        rw [hx] at ca hk1
        rw [hy] at cb hk1
        obtain ⟨n, fr, ww, st, ad⟩ := x
        obtain ⟨n2, fr2, ww2, st2, ad2⟩ := y
        obtain ⟨k0, k1, k2, k3, k4⟩ := ca
        obtain ⟨l0, l1, l2, l3, l4⟩ := cb
        simp only at k0 k1 k2 k3 k4 l0 l1 l2 l3 l4
        clear hca' hcb' hx hy
        by_cases e0 : n = n2
        · subst e0
          by_cases e1 : fr = fr2
          · subst e1
            by_cases e2 : ww = ww2
            · subst e2
              by_cases e3 : st = st2
              · subst e3
                by_cases e4 : ad = ad2
                · subst e4
                  have HK : Shh (true = p k) := ⟨by rw [← hk1]; simp [sameA]⟩
                  clear hk1 HNO
                  go_wp2
                  go_quiet (fail)
                  go_wp2
                  go_roundw
                  case rel => exact ⟨k + 1, _, by omega, by go_num, by first | rfl | exact World.drewN_drewN _ _ _, by rw [Hid, HS.out, ht.out, ← HK.out]; rfl⟩
                  case measure => simp [intOf]; omega
                · have hs := strNe e4
                  have hs4 : (ad.toList == ad2.toList) = false := hs
                  have HN := Shh.mk (HNO.out (by rw [← hk1]; simp [sameA, hs]))
                  clear HNO hk1 e4 hs
                  go_wp2
                  go_quiet (fail)
                  go_wp2
                  go_ret
                  exact ⟨ret_bool HN.out.symm, HB.out _ (by first | exact ⟨_, rfl⟩ | exact ⟨_, World.drewN_drewN _ _ _⟩)⟩
              · have hs := strNe e3
                have hs3 : (st.toList == st2.toList) = false := hs
                have HN := Shh.mk (HNO.out (by rw [← hk1]; simp [sameA, hs]))
                clear HNO hk1 e3 hs
                go_wp2
                go_quiet (fail)
                go_wp2
                go_ret
                exact ⟨ret_bool HN.out.symm, HB.out _ (by first | exact ⟨_, rfl⟩ | exact ⟨_, World.drewN_drewN _ _ _⟩)⟩
            · have hs := strNe e2
              have hs2 : (ww.toList == ww2.toList) = false := hs
              have HN := Shh.mk (HNO.out (by rw [← hk1]; simp [sameA, hs]))
              clear HNO hk1 e2 hs
              go_wp2
              go_quiet (fail)
              go_wp2
              go_ret
              exact ⟨ret_bool HN.out.symm, HB.out _ (by first | exact ⟨_, rfl⟩ | exact ⟨_, World.drewN_drewN _ _ _⟩)⟩
          · have hs := beq_eq_false_iff_ne.2 e1
            have hs1 : (fr == fr2) = false := hs
            have HN := Shh.mk (HNO.out (by rw [← hk1]; simp [sameA, hs]))
            clear HNO hk1 e1 hs
            go_wp2
            go_quiet (fail)
            go_wp2
            go_ret
            exact ⟨ret_bool HN.out.symm, HB.out _ (by first | exact ⟨_, rfl⟩ | exact ⟨_, World.drewN_drewN _ _ _⟩)⟩
        · have hs := strNe e0
          have hs0 : (n.toList == n2.toList) = false := hs
          have HN := Shh.mk (HNO.out (by rw [← hk1]; simp [sameA, hs]))
          clear HNO hk1 e0 hs
          go_wp2
          go_quiet (fail)
          go_wp2
          go_ret
          exact ⟨ret_bool HN.out.symm, HB.out _ (by first | exact ⟨_, rfl⟩ | exact ⟨_, World.drewN_drewN _ _ _⟩)⟩
      · obtain rfl : k = xs.length := by omega
        have HD := Shh.mk (sameG_yes (ss := ss) (ts := ts) (HA.out.trans ht.out))
        clear HCA HCB
        obtain ⟨sa', sc', es, els, ems, hcs⟩ := HX.out.stms
        obtain ⟨ta', tc', et, elt, emt, hct⟩ := HY.out.stms
        cases es
        cases et
        have HCS := Shh.mk hcs
        have HCT := Shh.mk hct
        clear hcs hct
        go_wp2
        go_loopw [6] (fun i w' => ∃ k n : Nat, k ≤ ss.length ∧ i = .int .i64 k ∧ w' = w0.drewN n ∧ Hid (allTo q k = true)) (fun i _ => ss.length - (intOf i).toNat)
        case atStart => exact ⟨0, _, Nat.zero_le _, rfl, rfl, allTo_zero _⟩
        case round =>
          obtain ⟨k, m, hk, rfl, hw, ht⟩ := hrel
          have HW := Shh.mk hw
          have c0' : ∀ j, wr.cell? ⟨W.heap.size, j, none⟩ = _ := fun j => (show wr.cell? _ = w0.cell? _ by rw [hw]; rfl).trans (c0 j)
          have c1' : ∀ j, wr.cell? ⟨W.heap.size + 1, j, none⟩ = _ := fun j => (show wr.cell? _ = w0.cell? _ by rw [hw]; rfl).trans (c1 j)
          by_cases hlt : k < ss.length
          · have hltb : k < ts.length := by rw [← HE.out.2]; exact hlt
            obtain ⟨bs, os, rfl, hbs, hcs'⟩ := HCS.out (by omega)
            obtain ⟨bt, ot, rfl, hbt, hct'⟩ := HCT.out (by omega)
            have ca : StmIs wr bs (os + k * 2) (stmG ss k) := by rw [hw]; exact hcs' k hlt
            have cb : StmIs wr bt (ot + k * 2) (stmG ts k) := by rw [hw]; exact hct' k hltb
            clear hw
            have hk1 := HQ.out k
            have HS := Shh.mk (allTo_succ q k)
            have HNO := Shh.mk (fun h => HD.out.trans (HT.out.trans (allTo_not (p := q) (n := ss.length) hlt h)))
            obtain ⟨x, hx⟩ : ∃ x, stmG ss k = x := ⟨_, rfl⟩
            obtain ⟨y, hy⟩ : ∃ y, stmG ts k = y := ⟨_, rfl⟩
            rw [hx] at ca hk1
            rw [hy] at cb hk1
            obtain ⟨n, us⟩ := x
            obtain ⟨n2, vs⟩ := y
            obtain ⟨k0, u, k1, hu⟩ := ca
            obtain ⟨l0, v, l1, hv⟩ := cb
            simp only at k0 k1 l0 l1 hu hv
            have HU := Shh.mk hu
            have HV := Shh.mk hv
            obtain ⟨ua, uc, rfl, -⟩ := hu
            obtain ⟨va', vc, rfl, -⟩ := hv
            clear hcs' hct' hx hy
            by_cases e0 : n = n2
            · subst e0
              have hnn := strSame n
              have hk2 : sameStrs us vs = q k := by rw [← hk1]; exact (sameT_same (x := ⟨n, us⟩) (y := ⟨n, vs⟩) hnn).symm
              clear hk1
              cases hqk : q k
              · have HN := Shh.mk (HNO.out hqk)
                have HK2 := Shh.mk (hk2.trans hqk)
                clear hk2 hqk HNO
                go_wp2
                go_quiet ((go_at_call 76; exact Calls.quiet_of (l05Same_is HK2.out _ (HU.out.drewN _) (HV.out.drewN _))))
                go_wp2
                go_ret
                exact ⟨ret_bool HN.out.symm, HB.out _ ⟨_, by rw [HW.out]; exact World.drewN_drewN _ _ _⟩⟩
              · have HK2 := Shh.mk (hk2.trans hqk)
                have HK := Shh.mk hqk
                clear hk2 hqk HNO
                go_wp2
                go_quiet ((go_at_call 76; exact Calls.quiet_of (l05Same_is HK2.out _ (HU.out.drewN _) (HV.out.drewN _))))
                go_wp2
                go_roundw
                case rel => exact ⟨k + 1, _, by omega, by go_num, by rw [HW.out]; exact World.drewN_drewN _ _ _, by rw [Hid, HS.out, ht.out, HK.out]; rfl⟩
                case measure => simp [intOf]; omega
            · have hs := strNe e0
              have HN := Shh.mk (HNO.out (by rw [← hk1]; exact sameT_word (x := ⟨n, us⟩) (y := ⟨n2, vs⟩) hs))
              clear HNO hk1 e0
              go_wp2
              go_quiet (fail)
              go_wp2
              go_ret
              exact ⟨ret_bool HN.out.symm, HB.out _ ⟨_, by rw [HW.out]; exact World.drewN_drewN _ _ _⟩⟩
          · obtain rfl : k = ss.length := by omega
            clear hw
            have HR := Shh.mk (HD.out.trans (HT.out.trans ht.out))
            go_wp2
            go_ret
            exact ⟨ret_bool HR.out.symm, HB.out _ ⟨_, HW.out⟩⟩
  · have HD := Shh.mk (sameG_lens hne)
    by_cases h1 : xs.length = ys.length
    · have hn1 : (xs.length : Int) = (ys.length : Int) := by omega
      have hn2 : ¬ (ss.length : Int) = (ts.length : Int) := by omega
      clear hne h1
      go_enter Try.func31, Try.ntmps31
      go_wp2
      go_ret
      exact ⟨ret_bool HD.out.symm, HB0.out⟩
    · have hn1 : ¬ (xs.length : Int) = (ys.length : Int) := by omega
      clear hne h1
      go_enter Try.func31, Try.ntmps31
      go_wp2
      go_ret
      exact ⟨ret_bool HD.out.symm, HB0.out⟩
end Go.Proofs.Ytpdphimlpeiifaa
