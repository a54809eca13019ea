/-
  Grammars that are the same: stems; the program's comparison.
-/
import Derived.Test.YtpdphimlpeiifaaH7
namespace Go.Proofs.Ytpdphimlpeiifaa
open Go.RowKit

theorem sameT_word {x y : Stm} (h : (x.word.toList == y.word.toList) = false) : sameT x y = false := by simp [sameT, h]
theorem sameT_same {x y : Stm} (h : (x.word.toList == y.word.toList) = true) : sameT x y = sameStrs x.uses y.uses := by simp [sameT, h]
set_option maxHeartbeats 1000000 in
theorem sameStem_any {u v : Value} (n n2 : ByteArray) (us vs : List ByteArray) (W : World) (hu : Strs W u us) (hv : Strs W v vs) {t : Bool} (ht : sameT ⟨n, us⟩ ⟨n2, vs⟩ = t) :
    Calls Try.prog 79 #[.agg #[.string n, u], .agg #[.string n2, v]] W fun e w' => e = .returned (.bool t) ∧ Below W.heap.size W w' := by
  have HU := Shh.mk ((hu.alloc (.cells #[.string n, u] 97)).alloc (.cells #[.string n2, v] 97))
  have HV := Shh.mk ((hv.alloc (.cells #[.string n, u] 97)).alloc (.cells #[.string n2, v] 97))
  obtain ⟨ua, uc, rfl, -⟩ := hu
  obtain ⟨va, vc, rfl, -⟩ := hv
  cases hn : (n.toList == n2.toList)
  · have HT := Shh.mk (ht.symm.trans (sameT_word (x := ⟨n, us⟩) (y := ⟨n2, vs⟩) hn))
    clear ht
    go_enter Try.func79, Try.ntmps79
    go_wp2
    go_ret
    exact ⟨ret_bool HT.out.symm, ((Below.refl _ _).alloc (Nat.le_refl _) _).alloc (by simp) _⟩
  · have HT := Shh.mk (ht.symm.trans (sameT_same (x := ⟨n, us⟩) (y := ⟨n2, vs⟩) hn))
    clear ht
    go_enter Try.func79, Try.ntmps79
    go_wp2_with fail
    refine (equalStr_any _ HU.out HV.out).mono ?_
    rintro e w' ⟨rfl, m, rfl⟩
    go_wp2
    go_ret
    exact ⟨ret_bool HT.out.symm, below_drewN (((Below.refl _ _).alloc (Nat.le_refl _) _).alloc (by simp) _) _⟩

set_option maxRecDepth 100000 in
set_option maxHeartbeats 4000000 in
theorem equalStm_any {va vb : Value} {xs ys : List Stm} (w : World) (ha : Stms w va xs) (hb : Stms w vb ys) :
    Calls Try.prog 78 #[va, vb, .func (.func 79) #[] #[]] w fun e w' => e = .returned (.bool (sameTs xs ys)) ∧ Below w.heap.size w w' := by
  have hal := ha.len
  have hbl := hb.len
  obtain ⟨a, capa, rfl, hla, hma, hca⟩ := ha
  obtain ⟨b, capb, rfl, hlb, hmb, hcb⟩ := hb
  have HCA := Shh.mk hca
  have HCB := Shh.mk hcb
  clear hca hcb
  by_cases hne : xs.length = ys.length
  · have hn1 : ((xs.length : Int) == (ys.length : Int)) = true := beq_iff_eq.2 (by omega)
    have hall := sameTs_all hne
    have HE := hid hne
    obtain ⟨p, hp⟩ : ∃ p : Nat → Bool, (fun j => sameT (stmG xs j) (stmG ys j)) = p := ⟨_, rfl⟩
    have hpk : ∀ k, sameT (stmG xs k) (stmG ys k) = p k := fun k => by rw [← hp]
    rw [hp] at hall
    have HALL := Shh.mk hall
    have HP := Shh.mk hpk
    clear hne hall hpk hp
    go_enter Try.func78, Try.ntmps78
    go_wp2
    rw [show ((xs.length : Int) != (ys.length : Int)) = false by simp [HE.out]]
    clear hn1
    go_loopw [7, 8, 9, 17] (fun _ _ _ i w' => ∃ k : Nat, k ≤ xs.length ∧ i = .int .i64 k ∧ Below w.heap.size w w' ∧ Hid (allTo p k = true)) (fun _ _ _ i _ => xs.length - (intOf i).toNat)
    case atStart => exact ⟨0, Nat.zero_le _, rfl, Below.refl _ _, allTo_zero _⟩
    case round =>
      obtain ⟨k, hk, rfl, hB, ht⟩ := hrel
      by_cases hlt : k < xs.length
      · have hltb : k < ys.length := by rw [← HE.out]; exact hlt
        obtain ⟨ba, oa, rfl, hba, hca'⟩ := HCA.out (by omega)
        obtain ⟨bb, ob, rfl, hbb, hcb'⟩ := HCB.out (by omega)
        have ca := StmIs.below (hca' k hlt) hB hba
        have cb := StmIs.below (hcb' k hltb) hB hbb
        have hk1 := HP.out k
        have HS := Shh.mk (allTo_succ p k)
        have HNO := Shh.mk (fun h => HALL.out.trans (allTo_not (p := p) (n := xs.length) hlt h))
        obtain ⟨x, hx⟩ : ∃ x, stmG xs k = x := ⟨_, rfl⟩
        obtain ⟨y, hy⟩ : ∃ y, stmG ys k = y := ⟨_, rfl⟩
        rw [hx] at ca hk1
        rw [hy] at cb hk1
        obtain ⟨n, us⟩ := x
        obtain ⟨n2, vs⟩ := y
        obtain ⟨k0, u, k1, hu⟩ := ca
        obtain ⟨l0, v, l1, hv⟩ := cb
        simp only at k0 k1 l0 l1 hu hv
        have HU := Shh.mk hu
        have HV := Shh.mk hv
        obtain ⟨ua, uc, rfl, -⟩ := hu
        obtain ⟨va', vc, rfl, -⟩ := hv
        have HK1 := Shh.mk hk1
        have hltA : ba < wr.heap.size := Nat.lt_of_lt_of_le hba hB.size
        have hltB : bb < wr.heap.size := Nat.lt_of_lt_of_le hbb hB.size
        have hB1 := Shh.mk ((hB.alloc hB.size (.cells #[.string n, .slice ua us.length uc] 97)).alloc (Nat.le_trans hB.size (by simp)) (.cells #[.string n2, .slice va' vs.length vc] 97))
        clear hca' hcb' hx hy hk1
        go_wp2_with fail
        refine (sameStem_any n n2 us vs _ ((HU.out.alloc _).alloc _) ((HV.out.alloc _).alloc _) HK1.out).mono ?_
        rintro e w2 ⟨rfl, hb2⟩
        have hB2 := Shh.mk (hB1.out.trans (hb2.mono hB1.out.size))
        cases hpk : p k
        · have HN := Shh.mk (HNO.out hpk)
          clear hpk
          go_wp2
          go_ret
          exact ⟨ret_bool HN.out.symm, hB2.out⟩
        · have HK := Shh.mk hpk
          clear hpk
          go_wp2
          go_roundw
          case rel => exact ⟨k + 1, by omega, by go_num, hB2.out, by rw [Hid, HS.out, ht.out, HK.out]; rfl⟩
          case measure => simp [intOf]; omega
      · obtain rfl : k = xs.length := by omega
        have HD := Shh.mk (HALL.out.trans ht.out)
        go_wp2
        go_ret
        exact ⟨ret_bool HD.out.symm, hB⟩
  · have HD := Shh.mk (sameTs_len hne)
    have hn1 : ((xs.length : Int) == (ys.length : Int)) = false := beq_eq_false_iff_ne.2 (by omega)
    clear hne
    go_enter Try.func78, Try.ntmps78
    go_wp2
    go_ret
    exact ⟨ret_bool HD.out.symm, Below.refl _ _⟩

def sameG (xs ys : List Aff) (ss ts : List Stm) : Bool := sameAs xs ys && sameTs ss ts
theorem sameG_no {xs ys : List Aff} {ss ts : List Stm} (h : sameAs xs ys = false) : sameG xs ys ss ts = false := by simp [sameG, h]
theorem sameG_yes {xs ys : List Aff} {ss ts : List Stm} (h : sameAs xs ys = true) : sameG xs ys ss ts = sameTs ss ts := by simp [sameG, h]
theorem equalAff_is {va vb : Value} {xs ys : List Aff} {t : Bool} (h : sameAs xs ys = t) (w : World) (ha : Affs w va xs) (hb : Affs w vb ys) :
    Calls Try.prog 77 #[va, vb] w fun e w' => e = .returned (.bool t) ∧ ∃ n, w' = w.drewN n := by rw [← h]; exact equalAff_any w ha hb

set_option maxHeartbeats 1000000 in
theorem implSameGrammar_any {va vb vs vt : Value} {xs ys : List Aff} {ss ts : List Stm} (W : World) (hx : Gram W va vs xs ss) (hy : Gram W vb vt ys ts) :
    Calls Try.prog 32 #[.agg #[va, vs], .agg #[vb, vt]] W fun e w' => e = .returned (.bool (sameG xs ys ss ts)) ∧ Below W.heap.size W w' := by
  have HX := Shh.mk ((hx.alloc (.cells #[va, vs] 46)).alloc (.cells #[vb, vt] 46))
  have HY := Shh.mk ((hy.alloc (.cells #[va, vs] 46)).alloc (.cells #[vb, vt] 46))
  have hB := Shh.mk (((Below.refl W.heap.size W).alloc (Nat.le_refl _) (.cells #[va, vs] 46)).alloc (by simp) (.cells #[vb, vt] 46))
  obtain ⟨⟨aa, ac, rfl, -⟩, ⟨sa, sc, rfl, -⟩⟩ := hx
  obtain ⟨⟨ba, bc, rfl, -⟩, ⟨ta, tc, rfl, -⟩⟩ := hy
  cases h1 : sameAs xs ys
  · have HR := Shh.mk (sameG_no (ss := ss) (ts := ts) h1)
    have H1 := Shh.mk h1
    clear h1
    go_enter Try.func32, Try.ntmps32
    go_wp2_with fail
    refine (equalAff_is H1.out _ HX.out.affs HY.out.affs).mono ?_
    rintro e w1 ⟨rfl, m, rfl⟩
    go_wp2
    go_ret
    exact ⟨ret_bool HR.out.symm, below_drewN hB.out _⟩
  · have HR := Shh.mk (sameG_yes (ss := ss) (ts := ts) h1)
    have H1 := Shh.mk h1
    clear h1
    go_enter Try.func32, Try.ntmps32
    go_wp2_with fail
    refine (equalAff_is H1.out _ HX.out.affs HY.out.affs).mono ?_
    rintro e w1 ⟨rfl, m, hm⟩
    have hB1 : Shh (Below W.heap.size W w1) := ⟨by rw [hm]; exact below_drewN hB.out m⟩
    have hX1 : Shh (Stms w1 (.slice sa ss.length sc) ss) := ⟨by rw [hm]; exact HX.out.stms.below (below_drewN (Below.refl _ _) m)⟩
    have hY1 : Shh (Stms w1 (.slice ta ts.length tc) ts) := ⟨by rw [hm]; exact HY.out.stms.below (below_drewN (Below.refl _ _) m)⟩
    have p0 : Blk w1 W.heap.size 46 #[.slice aa xs.length ac, .slice sa ss.length sc] := by rw [hm]; exact (Blk.made W _ _).alloc _
    have p1 : Blk w1 (W.heap.size + 1) 46 #[.slice ba ys.length bc, .slice ta ts.length tc] := by
      rw [hm]
      have := Blk.made (W.alloc (.cells #[.slice aa xs.length ac, .slice sa ss.length sc] 46)) 46 #[.slice ba ys.length bc, .slice ta ts.length tc]
      rw [World.size_alloc] at this
      exact this
    have c0 := p0.cells
    have c1 := p1.cells
    clear hm p0 p1
    go_wp2_with fail
    refine (equalStm_any _ hX1.out hY1.out).mono ?_
    rintro e w2 ⟨rfl, hb2⟩
    go_wp2
    go_ret
    exact ⟨ret_bool HR.out.symm, hB1.out.trans (hb2.mono hB1.out.size)⟩
end Go.Proofs.Ytpdphimlpeiifaa
