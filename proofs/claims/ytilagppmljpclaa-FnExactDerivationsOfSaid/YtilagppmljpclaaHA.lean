/-
  The laws' helpers on grammars: comparisons of what is the same, whole; calls in whatever later world.
-/
import Derived.Test.YtilagppmljpclaaH9
namespace Go.Proofs.Ytilagppmljpclaa
open Go.RowKit

set_option maxRecDepth 100000 in
set_option maxHeartbeats 2000000 in
theorem eqStemS_same {va vb : Value} {ss : List Stm} (w : World) (ha : Stms w va ss) (hb : Stms w vb ss) :
    Calls Try.prog 79 #[va, vb] w fun e w' => e = .returned (.bool true) ∧ Below w.heap.size w w' := by
  have hal := ha.len
  obtain ⟨a, capa, rfl, hla, hma, hca⟩ := ha
  obtain ⟨b, capb, rfl, hlb, hmb, hcb⟩ := hb
  have HCA := Shh.mk hca
  have HCB := Shh.mk hcb
  clear hca hcb
  go_enter Try.func79, Try.ntmps79
  go_wp2
  go_loopw [5] (fun i w' => ∃ k : Nat, k ≤ ss.length ∧ i = .int .i64 k ∧ Below w.heap.size w w') (fun i _ => ss.length - (intOf i).toNat)
  case atStart => exact ⟨0, Nat.zero_le _, rfl, Below.refl _ _⟩
  case round =>
    obtain ⟨k, hk, rfl, hB⟩ := hrel
    by_cases hlt : k < ss.length
    · obtain ⟨ba, oa, rfl, hba, hca'⟩ := HCA.out (by omega)
      obtain ⟨bb, ob, rfl, hbb, hcb'⟩ := HCB.out (by omega)
      have hA := StmIs.below (hca' k hlt) hB hba
      have hC := StmIs.below (hcb' k hlt) hB hbb
      obtain ⟨x, hx⟩ : ∃ x, stmG ss k = x := ⟨_, rfl⟩
      rw [hx] at hA hC
      obtain ⟨n, us⟩ := x
      obtain ⟨k0, u, k1, hu⟩ := hA
      obtain ⟨l0, v, l1, hv⟩ := hC
      simp only at k0 k1 l0 l1 hu hv
      have HU := Shh.mk hu
      have HV := Shh.mk hv
      obtain ⟨ua, uc, rfl, -⟩ := hu
      obtain ⟨va, vc, rfl, -⟩ := hv
      clear hca' hcb' hx
      go_wp2
      go_region_with (go_at_call 136; refine (eqStem_same n us _ (HU.out.drewN 1) (HV.out.drewN 1)).mono ?_; rintro e w2 ⟨rfl, hb2⟩; have hB2 := Below.trans (Below.drew hB) (Below.mono hb2 hB.size))
      all_goals
        go_wp2
        go_roundw
        case rel => exact ⟨k + 1, by omega, by go_num, by first | exact hB2 | exact hB2.drew⟩
        case measure => simp [intOf]; omega
    · go_wp2
      go_ret
      exact ⟨rfl, hB⟩

set_option maxHeartbeats 1000000 in
theorem eqGrammar_same {va vb vs vt : Value} {xs : List Aff} {ss : List Stm} (W : World) (hx : Gram W va vs xs ss) (hy : Gram W vb vt xs ss) :
    Calls Try.prog 26 #[.agg #[va, vs], .agg #[vb, vt]] W fun e w' => e = .returned (.bool true) ∧ Below W.heap.size W w' := by
  have HX := Shh.mk ((hx.alloc (.cells #[va, vs] 48)).alloc (.cells #[vb, vt] 48))
  have HY := Shh.mk ((hy.alloc (.cells #[va, vs] 48)).alloc (.cells #[vb, vt] 48))
  have hB := Shh.mk (((Below.refl W.heap.size W).alloc (Nat.le_refl _) (.cells #[va, vs] 48)).alloc (by simp) (.cells #[vb, vt] 48))
  have p0 := (Blk.made W 48 #[va, vs]).alloc (.cells #[vb, vt] 48)
  have p1 := Blk.made (W.alloc (.cells #[va, vs] 48)) 48 #[vb, vt]
  obtain ⟨⟨aa, ac, rfl, -⟩, ⟨sa, sc, rfl, -⟩⟩ := hx
  obtain ⟨⟨ba, bc, rfl, -⟩, ⟨ta, tc, rfl, -⟩⟩ := hy
  have P0 := Shh.mk p0
  have P1 := Shh.mk p1
  clear p0 p1
  go_enter Try.func26, Try.ntmps26
  go_wp2_with fail
  refine (eqAffixS_same _ HX.out.affs HY.out.affs).mono ?_
  rintro e w1 ⟨rfl, hb1⟩
  have hB1 := Shh.mk (hB.out.trans (hb1.mono hB.out.size))
  have hX1 := Shh.mk (HX.out.stms.below hb1)
  have hY1 := Shh.mk (HY.out.stms.below hb1)
  have c0 := (P0.out.kept hb1 P0.out.lt).cells
  have q1 := P1.out.kept hb1 P1.out.lt
  rw [World.size_alloc] at q1
  have c1 := q1.cells
  clear q1 hb1
  go_wp2_with fail
  refine (eqStemS_same _ hX1.out hY1.out).mono ?_
  rintro e w2 ⟨rfl, hb2⟩
  go_wp2
  go_ret
  exact ⟨rfl, hB1.out.trans (hb2.mono hB1.out.size)⟩
theorem Gram.drewN {W : World} {va vs : Value} {xs : List Aff} {ss : List Stm} (h : Gram W va vs xs ss) (m : Nat) : Gram (W.drewN m) va vs xs ss := h.below (below_drewN (Below.refl _ _) m)
theorem Gram.drew {W : World} {va vs : Value} {xs : List Aff} {ss : List Stm} (h : Gram W va vs xs ss) : Gram W.drew va vs xs ss := h.below (Below.refl _ _).drew
end Go.Proofs.Ytilagppmljpclaa
