/-
  What makes a grammar valid: the model's answer.
-/
import Derived.Test.YtilagppmljpclaaHC
namespace Go.Proofs.Ytilagppmljpclaa
open Go.RowKit

theorem okA_yes {xs : List Aff} {i : Nat} (h : affsB xs i = true) : okA xs i = freshB xs i := by
  unfold affsB at h
  unfold okA
  rw [h, Bool.true_and]
theorem find_fresh {xs : List Aff} {i : Nat} (h : freshB xs i = true) (hi : i < xs.length) : findTo xs (affG xs i).n xs.length = (i : Int) := by
  unfold freshB at h
  rw [Bool.not_eq_true'] at h
  exact find_at h (strSame _) hi
theorem find_stale {xs : List Aff} {i : Nat} (h : freshB xs i = false) (hi : i < xs.length) : ¬ findTo xs (affG xs i).n xs.length = (i : Int) := by
  unfold freshB at h
  rw [Bool.not_eq_false'] at h
  have := find_old h (k := xs.length) (by omega)
  omega
theorem okSt_no {xs : List Aff} {ss : List Stm} {j : Nat} (h : stemB xs (stmG ss j) = false) : okSt xs ss j = false := by simp [okSt, h]
theorem okSt_first {xs : List Aff} {ss : List Stm} (h : stemB xs (stmG ss 0) = true) : okSt xs ss 0 = true := by simp [okSt, h]
theorem okSt_next {xs : List Aff} {ss : List Stm} {j : Nat} (h : stemB xs (stmG ss (j + 1)) = true) : okSt xs ss (j + 1) = upS (stmG ss j).word (stmG ss (j + 1)).word := by simp [okSt, h]
theorem stem_is {g b o : Nat} {va vs : Value} {xs : List Aff} {ss : List Stm} {x : Stm} {t : Bool} (h : stemB xs x = t) (W : World) (hg : GramAt W g va vs xs ss) (hx : StmIs W b o x) (hw : x.word.size ≤ maxLen) :
    Calls Try.prog 124 #[.pointer (some ⟨g, 0, none⟩), .pointer (some ⟨b, o, none⟩)] W fun e w' => e = .returned (.bool t) ∧ ∃ k, w' = W.drewN k := by rw [← h]; exact l04Stem_any W hg x hx hw
theorem StmIs.drewN {W : World} {b o : Nat} {x : Stm} (h : StmIs W b o x) (m : Nat) : StmIs (W.drewN m) b o x := h

set_option maxRecDepth 100000 in
set_option maxHeartbeats 2000000 in
theorem l04Ok_any {g : Nat} {va vs : Value} {xs : List Aff} {ss : List Stm} (W : World) (hg : GramAt W g va vs xs ss) (hx : ∀ x ∈ xs, AffFine x) (hs : ∀ x ∈ ss, StmFine x) :
    Calls Try.prog 67 #[.pointer (some ⟨g, 0, none⟩)] W fun e w' => e = .returned (.bool (okG xs ss)) ∧ ∃ k, w' = W.drewN k := by
  have hxl := hg.gram.affs.len
  have hsl := hg.gram.stms.len
  have HGA := Shh.mk hg
  have hc0 := hg.blk.cells
  obtain ⟨aa, ac, rfl, hal, ham, hac⟩ := hg.gram.affs
  obtain ⟨sa, sc, rfl, hsl1, hsm, hsc⟩ := hg.gram.stms
  have HCA := Shh.mk hac
  have HCS := Shh.mk hsc
  have HC0 := Shh.mk hc0
  clear hac hsc hg hc0
  go_enter Try.func67, Try.ntmps67
  go_wp2
  go_loopw [3] (fun i wr => ∃ k m : Nat, k ≤ xs.length ∧ i = .int .i64 k ∧ wr = W.drewN m ∧ Hid (allTo (okA xs) k = true)) (fun i _ => xs.length - (intOf i).toNat)
  case atStart => exact ⟨0, 0, Nat.zero_le _, rfl, rfl, allTo_zero _⟩
  case round =>
    obtain ⟨k, m, hk, rfl, hw', ht⟩ := hrel
    have HW := Shh.mk hw'
    have hgr := Shh.mk (show GramAt wr g _ _ xs ss by rw [hw']; exact HGA.out.drewN m)
    have c0 := hgr.out.blk.cells
    by_cases hlt : k < xs.length
    · obtain ⟨ba, oa, rfl, hba, hcc⟩ := HCA.out (by omega)
      have ha : AffIs wr ba (oa + k * 5) (affG xs k) := by rw [hw']; exact AffAt.drewN (hcc k hlt) m
      have hfine := hx _ (affG_mem hlt)
      have HS := Shh.mk (allTo_succ (okA xs) k)
      have HN0 := Shh.mk (fun h => okG_affs (ss := ss) (allTo_not (p := okA xs) (n := xs.length) hlt h))
      have HFF := Shh.mk (fun h => find_fresh (xs := xs) (i := k) h hlt)
      have HFS := Shh.mk (fun h => find_stale (xs := xs) (i := k) h hlt)
      have hv : affB (affG xs k).n (affG xs k).w (affG xs k).s (affG xs k).a = affsB xs k := rfl
      have HA := Shh.mk ha
      have n0 := ha.c0
      obtain ⟨y, hy⟩ : ∃ y, affG xs k = y := ⟨_, rfl⟩
      rw [hy] at HA hfine hv HFF HFS n0
      obtain ⟨z0, z1, z2, z3⟩ := hfine
      clear hcc hy ha hw'
      cases hva : affsB xs k
      · have HV := Shh.mk (hv.trans hva)
        have HN := Shh.mk (HN0.out (okA_not hva))
        clear hv hva HN0 HFF HFS
        go_wp2_with fail
        refine (affix_is HV.out _ HA.out z0 z1 z2 z3).mono ?_
        rintro e w2 ⟨rfl, q, rfl⟩
        go_wp2
        go_ret
        exact ⟨ret_bool HN.out.symm, _, by rw [HW.out]; exact World.drewN_drewN _ _ _⟩
      · have HV := Shh.mk (hv.trans hva)
        have HE := Shh.mk (okA_yes hva)
        clear hv hva
        cases hfr : freshB xs k
        · have hne := HFS.out hfr
          obtain ⟨r, hr⟩ : ∃ r, findTo xs y.n xs.length = r := ⟨_, rfl⟩
          rw [hr] at hne
          have HF := Shh.mk hr
          have hne2 : (r != (k : Int)) = true := by simpa using hne
          have HN := Shh.mk (HN0.out (HE.out.trans hfr))
          clear hr hfr HFF HFS HN0
          go_wp2_with fail
          refine (affix_is HV.out _ HA.out z0 z1 z2 z3).mono ?_
          rintro e w2 ⟨rfl, q, hq⟩
          have HQ := Shh.mk hq
          have hg2 := Shh.mk (show GramAt w2 g _ _ xs ss by rw [hq]; exact hgr.out.drewN q)
          have d0 := hg2.out.blk.cells
          have n2 : w2.cell? ⟨ba, oa + k * 5, none⟩ = some (.string y.n) := by rw [hq]; exact n0
          clear hq
          go_wp2_with fail
          refine (find_is HF.out _ hg2.out).mono ?_
          rintro e w3 ⟨rfl, rfl⟩
          go_wp2
          go_ret
          exact ⟨ret_bool HN.out.symm, _, by rw [HQ.out, HW.out]; exact World.drewN_drewN _ _ _⟩
        · have HF := Shh.mk (HFF.out hfr)
          have HU := Shh.mk (HE.out.trans hfr)
          clear hfr HFF HFS HN0
          go_wp2_with fail
          refine (affix_is HV.out _ HA.out z0 z1 z2 z3).mono ?_
          rintro e w2 ⟨rfl, q, hq⟩
          have HQ := Shh.mk hq
          have hg2 := Shh.mk (show GramAt w2 g _ _ xs ss by rw [hq]; exact hgr.out.drewN q)
          have d0 := hg2.out.blk.cells
          have n2 : w2.cell? ⟨ba, oa + k * 5, none⟩ = some (.string y.n) := by rw [hq]; exact n0
          clear hq
          go_wp2_with fail
          refine (find_is HF.out _ hg2.out).mono ?_
          rintro e w3 ⟨rfl, rfl⟩
          go_wp2
          go_roundw
          case rel => exact ⟨k + 1, _, by omega, by go_num, by rw [HQ.out, HW.out]; exact World.drewN_drewN _ _ _, by rw [Hid, HS.out, ht.out, HU.out]; rfl⟩
          case measure => simp [intOf]; omega
    · obtain rfl : k = xs.length := by omega
      have HTA := Shh.mk ht.out
      have HW0 := Shh.mk HW.out
      clear ht hw'
      go_wp2
      clear c0 hgr HW HCA
      go_loopw [4] (fun i wr => ∃ k m : Nat, k ≤ ss.length ∧ i = .int .i64 k ∧ wr = W.drewN m ∧ Hid (allTo (okSt xs ss) k = true)) (fun i _ => ss.length - (intOf i).toNat)
      case atStart => exact ⟨0, m, Nat.zero_le _, rfl, HW0.out, allTo_zero _⟩
      case round =>
        obtain ⟨k, m, hk, rfl, hw', ht⟩ := hrel
        have HW := Shh.mk hw'
        have hgr := Shh.mk (show GramAt wr g _ _ xs ss by rw [hw']; exact HGA.out.drewN m)
        have c0 := hgr.out.blk.cells
        by_cases hlt : k < ss.length
        · obtain ⟨bs, os, rfl, hbs, hcc⟩ := HCS.out (by omega)
          have ha : StmIs wr bs (os + k * 2) (stmG ss k) := by rw [hw']; exact hcc k hlt
          have hfine := (hs _ (stmG_mem hlt)).word
          have HS := Shh.mk (allTo_succ (okSt xs ss) k)
          have HN0 := Shh.mk (fun h => okG_stms (xs := xs) (allTo_not (p := okSt xs ss) (n := ss.length) hlt h))
          have HA := Shh.mk ha
          have n0 := ha.1
          cases hst : stemB xs (stmG ss k)
          · have HN := Shh.mk (HN0.out (okSt_no hst))
            obtain ⟨y, hy⟩ : ∃ y, stmG ss k = y := ⟨_, rfl⟩
            rw [hy] at HA hfine hst n0
            have HV := Shh.mk hst
            clear hst HN0 hcc hy ha hw'
            go_wp2
            go_quiet ((go_at_call 124; exact Calls.quiet_of (stem_is HV.out _ (hgr.out.drewN _) (HA.out.drewN _) hfine)))
            go_wp2
            go_ret
            exact ⟨ret_bool HN.out.symm, _, by rw [HW.out]; exact World.drewN_drewN _ _ _⟩
          · rcases Nat.eq_zero_or_pos k with hk0 | hk0
            · have HU : Shh (okSt xs ss k = true) := ⟨by subst hk0; exact okSt_first hst⟩
              have hkz : decide (0 < k) = false := decide_eq_false (by omega)
              obtain ⟨y, hy⟩ : ∃ y, stmG ss k = y := ⟨_, rfl⟩
              rw [hy] at HA hfine hst n0
              have HV := Shh.mk hst
              clear hst HN0 hcc hy ha hw' hk0
              go_wp2
              go_quiet ((go_at_call 124; exact Calls.quiet_of (stem_is HV.out _ (hgr.out.drewN _) (HA.out.drewN _) hfine)))
              go_wp2
              go_roundw
              case rel => exact ⟨k + 1, _, by omega, by go_num, by rw [HW.out]; exact World.drewN_drewN _ _ _, by rw [Hid, HS.out, ht.out, HU.out]; rfl⟩
              case measure => simp [intOf]; omega
            · obtain ⟨j, hj⟩ : ∃ j, k = j + 1 := ⟨k - 1, by omega⟩
              have hU : okSt xs ss k = upS (stmG ss j).word (stmG ss k).word := by subst hj; exact okSt_next hst
              have j0 : wr.cell? ⟨bs, os + j * 2, none⟩ = some (.string (stmG ss j).word) := by rw [hw']; exact (hcc j (by omega)).1
              obtain ⟨y, hy⟩ : ∃ y, stmG ss k = y := ⟨_, rfl⟩
              rw [hy] at HA hfine hst n0 hU
              obtain ⟨x, hxx⟩ : ∃ x, (stmG ss j).word = x := ⟨_, rfl⟩
              rw [hxx] at j0 hU
              obtain ⟨z, hz⟩ : ∃ z, y.word = z := ⟨_, rfl⟩
              rw [hz] at n0 hU
              have HV := Shh.mk hst
              have hjl : j < ss.length := by omega
              have hp1 : (k : Int) - 1 = (j : Int) := by omega
              have hp3 : IntKind.i64.wrap (j : Int) = (j : Int) := IntWalk.i64_in _ (by omega)
              have hpos : decide (0 < k) = true := decide_eq_true (by omega)
              clear hst hcc hy hxx hz ha hw' hj
              cases hup : Op.bytesLess x.toList z.toList
              · have HN := Shh.mk (HN0.out (hU.trans hup))
                clear hU HN0
                go_wp2
                go_quiet ((go_at_call 124; exact Calls.quiet_of (stem_is HV.out _ (hgr.out.drewN _) (HA.out.drewN _) hfine)))
                go_wp2
                go_ret
                exact ⟨ret_bool HN.out.symm, _, by rw [HW.out]; exact World.drewN_drewN _ _ _⟩
              · have HU := Shh.mk (hU.trans hup)
                clear hU HN0
                go_wp2
                go_quiet ((go_at_call 124; exact Calls.quiet_of (stem_is HV.out _ (hgr.out.drewN _) (HA.out.drewN _) hfine)))
                go_wp2
                go_roundw
                case rel => exact ⟨k + 1, _, by omega, by go_num, by rw [HW.out]; exact World.drewN_drewN _ _ _, by rw [Hid, HS.out, ht.out, HU.out]; rfl⟩
                case measure => simp [intOf]; omega
        · obtain rfl : k = ss.length := by omega
          have HR := Shh.mk (okG_rest HTA.out ht.out)
          clear hw' ht HCS
          by_cases hl1 : xs.length ≤ 12
          · have hi1 : (xs.length : Int) ≤ 12 := by omega
            by_cases hl2 : ss.length ≤ 30
            · have hi2 : (ss.length : Int) ≤ 30 := by omega
              have HR2 := Shh.mk (HR.out.trans (show _ = true by simp [hl1, hl2]))
              clear hl1 hl2 HR
              go_wp2
              go_ret
              exact ⟨ret_bool HR2.out.symm, _, HW.out⟩
            · have hi2 : ¬ (ss.length : Int) ≤ 30 := by omega
              have HR2 := Shh.mk (HR.out.trans (show _ = false by simp [hl2]))
              clear hl1 hl2 HR
              go_wp2
              go_ret
              exact ⟨ret_bool HR2.out.symm, _, HW.out⟩
          · have hi1 : ¬ (xs.length : Int) ≤ 12 := by omega
            have HR2 := Shh.mk (HR.out.trans (show _ = false by simp [hl1]))
            clear hl1 HR
            go_wp2
            go_ret
            exact ⟨ret_bool HR2.out.symm, _, HW.out⟩

end Go.Proofs.Ytilagppmljpclaa
