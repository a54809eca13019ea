/-
  Grammars that are the same: plain facts, lists of strings, affixes.
-/
import Derived.Test.YtpdphimlpeiifaaH6
namespace Go.Proofs.Ytpdphimlpeiifaa
open Go.RowKit

def sameA (x y : Aff) : Bool := (x.n.toList == y.n.toList) && (x.f == y.f) && (x.w.toList == y.w.toList) && (x.s.toList == y.s.toList) && (x.a.toList == y.a.toList)
def sameAs (xs ys : List Aff) : Bool := decide (xs.length = ys.length) && allTo (fun j => sameA (affG xs j) (affG ys j)) xs.length
theorem sameAs_len {xs ys : List Aff} (h : ¬ xs.length = ys.length) : sameAs xs ys = false := by simp [sameAs, h]
theorem sameAs_all {xs ys : List Aff} (h : xs.length = ys.length) : sameAs xs ys = allTo (fun j => sameA (affG xs j) (affG ys j)) xs.length := by simp [sameAs, h]
def sameT (x y : Stm) : Bool := (x.word.toList == y.word.toList) && sameStrs x.uses y.uses
def sameTs (xs ys : List Stm) : Bool := decide (xs.length = ys.length) && allTo (fun j => sameT (stmG xs j) (stmG ys j)) xs.length
theorem sameTs_len {xs ys : List Stm} (h : ¬ xs.length = ys.length) : sameTs xs ys = false := by simp [sameTs, h]
theorem sameTs_all {xs ys : List Stm} (h : xs.length = ys.length) : sameTs xs ys = allTo (fun j => sameT (stmG xs j) (stmG ys j)) xs.length := by simp [sameTs, h]



set_option maxRecDepth 100000 in
set_option maxHeartbeats 4000000 in
theorem equalAff_any {va vb : Value} {xs ys : List Aff} (w : World) (ha : Affs w va xs) (hb : Affs w vb ys) :
    Calls Try.prog 77 #[va, vb] w fun e w' => e = .returned (.bool (sameAs xs ys)) ∧ ∃ n, w' = w.drewN n := by
  have hal := ha.len
  have hbl := hb.len
  have hguard := Try.eqGuardType25
  obtain ⟨a, capa, rfl, hla, hma, hca⟩ := ha
  obtain ⟨b, capb, rfl, hlb, hmb, hcb⟩ := hb
  have HCA := Shh.mk hca
  have HCB := Shh.mk hcb
  clear hca hcb
  by_cases hne : xs.length = ys.length
  · have hn1 : ((xs.length : Int) == (ys.length : Int)) = true := beq_iff_eq.2 (by omega)
    have hall := sameAs_all hne
    have HE := hid hne
    obtain ⟨p, hp⟩ : ∃ p : Nat → Bool, (fun j => sameA (affG xs j) (affG ys j)) = p := ⟨_, rfl⟩
    have hpk : ∀ k, sameA (affG xs k) (affG ys k) = p k := fun k => by rw [← hp]
    rw [hp] at hall
    have HALL := Shh.mk hall
    have HP := Shh.mk hpk
    clear hne hall hpk hp
    go_enter Try.func77, Try.ntmps77
    go_wp2
    go_loopw [5, 13] (fun _ i w' => ∃ k n : Nat, k ≤ xs.length ∧ i = .int .i64 k ∧ w' = w.drewN n ∧ Hid (allTo p k = true)) (fun _ i _ => xs.length - (intOf i).toNat)
    case atStart => exact ⟨0, 0, Nat.zero_le _, rfl, rfl, allTo_zero _⟩
    case round =>
      obtain ⟨k, m, hk, rfl, rfl, ht⟩ := hrel
      by_cases hlt : k < xs.length
      · have hltb : k < ys.length := by rw [← HE.out]; exact hlt
        obtain ⟨ba, oa, rfl, hba, hca'⟩ := HCA.out (by omega)
        obtain ⟨bb, ob, rfl, hbb, hcb'⟩ := HCB.out (by omega)
        have ca := hca' k hlt
        have cb := hcb' k hltb
        have hk1 := HP.out k
        have HS := Shh.mk (allTo_succ p k)
        have hno := allTo_not (p := p) (n := xs.length) hlt
        obtain ⟨x, hx⟩ : ∃ x, affG xs k = x := ⟨_, rfl⟩
        obtain ⟨y, hy⟩ : ∃ y, affG ys k = y := ⟨_, rfl⟩
        rw [hx] at ca hk1
        rw [hy] at cb hk1
        obtain ⟨n, fr, ww, st, ad⟩ := x
        obtain ⟨n2, fr2, ww2, st2, ad2⟩ := y
        obtain ⟨k0, k1, k2, k3, k4⟩ := ca
        obtain ⟨l0, l1, l2, l3, l4⟩ := cb
        simp only at k0 k1 k2 k3 k4 l0 l1 l2 l3 l4
        clear hca' hcb' hx hy
        by_cases e0 : n = n2
        · subst e0
          by_cases e1 : fr = fr2
          · subst e1
            by_cases e2 : ww = ww2
            · subst e2
              by_cases e3 : st = st2
              · subst e3
                by_cases e4 : ad = ad2
                · subst e4
                  have HK : Shh (true = p k) := ⟨by rw [← hk1]; simp [sameA]⟩
                  clear hk1 hno
                  go_wp2
                  go_quiet (fail)
                  go_wp2
                  go_roundw
                  case rel => exact ⟨k + 1, _, by omega, by go_num, by first | rfl | exact World.drewN_drewN _ _ _, by rw [Hid, HS.out, ht.out, ← HK.out]; rfl⟩
                  case measure => simp [intOf]; omega
                · have hs := strNe e4
                  have hs4 : (ad.toList == ad2.toList) = false := hs
                  have HN := Shh.mk (HALL.out.trans (hno (by rw [← hk1]; simp [sameA, hs])))
                  clear hno hk1 e4 hs
                  go_wp2
                  go_quiet (fail)
                  go_wp2
                  go_ret
                  exact ⟨ret_bool HN.out.symm, _, by first | rfl | exact World.drewN_drewN _ _ _⟩
              · have hs := strNe e3
                have hs3 : (st.toList == st2.toList) = false := hs
                have HN := Shh.mk (HALL.out.trans (hno (by rw [← hk1]; simp [sameA, hs])))
                clear hno hk1 e3 hs
                go_wp2
                go_quiet (fail)
                go_wp2
                go_ret
                exact ⟨ret_bool HN.out.symm, _, by first | rfl | exact World.drewN_drewN _ _ _⟩
            · have hs := strNe e2
              have hs2 : (ww.toList == ww2.toList) = false := hs
              have HN := Shh.mk (HALL.out.trans (hno (by rw [← hk1]; simp [sameA, hs])))
              clear hno hk1 e2 hs
              go_wp2
              go_quiet (fail)
              go_wp2
              go_ret
              exact ⟨ret_bool HN.out.symm, _, by first | rfl | exact World.drewN_drewN _ _ _⟩
          · have hs := beq_eq_false_iff_ne.2 e1
            have hs1 : (fr == fr2) = false := hs
            have HN := Shh.mk (HALL.out.trans (hno (by rw [← hk1]; simp [sameA, hs])))
            clear hno hk1 e1 hs
            go_wp2
            go_quiet (fail)
            go_wp2
            go_ret
            exact ⟨ret_bool HN.out.symm, _, by first | rfl | exact World.drewN_drewN _ _ _⟩
        · have hs := strNe e0
          have hs0 : (n.toList == n2.toList) = false := hs
          have HN := Shh.mk (HALL.out.trans (hno (by rw [← hk1]; simp [sameA, hs])))
          clear hno hk1 e0 hs
          go_wp2
          go_quiet (fail)
          go_wp2
          go_ret
          exact ⟨ret_bool HN.out.symm, _, by first | rfl | exact World.drewN_drewN _ _ _⟩
      · obtain rfl : k = xs.length := by omega
        have HD := Shh.mk (HALL.out.trans ht.out)
        go_wp2
        go_ret
        exact ⟨ret_bool HD.out.symm, _, rfl⟩
  · have HD := Shh.mk (sameAs_len hne)
    have hn1 : ((xs.length : Int) == (ys.length : Int)) = false := beq_eq_false_iff_ne.2 (by omega)
    clear hne
    go_enter Try.func77, Try.ntmps77
    go_wp2
    go_ret
    exact ⟨ret_bool HD.out.symm, 0, rfl⟩
end Go.Proofs.Ytpdphimlpeiifaa
