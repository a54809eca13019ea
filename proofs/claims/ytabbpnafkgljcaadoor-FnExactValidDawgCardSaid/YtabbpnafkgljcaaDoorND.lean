/-
  The laws' helpers on automata: comparisons of what is the same.
-/
import Derived.Test.YtabbpnafkgljcaaDoorNC
import Derived.Deep.RegionWith
namespace Go.Proofs.YtabbpnafkgljcaaDoor
open Go.RowKit

set_option maxHeartbeats 1000000 in
theorem eqNode_same {u v : Value} (f : Bool) (n : ByteArray) (us : List Int) (W : World) (hu : Ints .i64 W u us) (hv : Ints .i64 W v us) :
    Calls Tryd.prog 140 #[.agg #[.bool f, .string n, u], .agg #[.bool f, .string n, v]] W fun e w' => e = .returned (.bool true) ∧ Below W.heap.size W w' := by
  have HU := Shh.mk ((hu.alloc (.cells #[.bool f, .string n, u] 50)).alloc (.cells #[.bool f, .string n, v] 50))
  have HV := Shh.mk ((hv.alloc (.cells #[.bool f, .string n, u] 50)).alloc (.cells #[.bool f, .string n, v] 50))
  obtain ⟨ua, uc, rfl, -⟩ := hu
  obtain ⟨va, vc, rfl, -⟩ := hv
  go_enter Tryd.func140, Tryd.ntmps140
  go_wp2_with fail
  refine (eqInt64S_same _ HU.out HV.out).mono ?_
  rintro e w' ⟨rfl, m, rfl⟩
  go_wp2
  go_ret
  exact ⟨rfl, below_drewN (((Below.refl _ _).alloc (Nat.le_refl _) _).alloc (by simp) _) _⟩

set_option maxRecDepth 100000 in
set_option maxHeartbeats 2000000 in
theorem eqNodeS_same {va vb : Value} {ss : List Nod} (w : World) (ha : Nds w va ss) (hb : Nds w vb ss) :
    Calls Tryd.prog 103 #[va, vb] w fun e w' => e = .returned (.bool true) ∧ Below w.heap.size w w' := by
  have hal := ha.len
  obtain ⟨a, capa, rfl, hla, hma, hca⟩ := ha
  obtain ⟨b, capb, rfl, hlb, hmb, hcb⟩ := hb
  have HCA := Shh.mk hca
  have HCB := Shh.mk hcb
  clear hca hcb
  go_enter Tryd.func103, Tryd.ntmps103
  go_wp2
  go_loopw [5] (fun i w' => ∃ k : Nat, k ≤ ss.length ∧ i = .int .i64 k ∧ Below w.heap.size w w') (fun i _ => ss.length - (intOf i).toNat)
  case atStart => exact ⟨0, Nat.zero_le _, rfl, Below.refl _ _⟩
  case round =>
    obtain ⟨k, hk, rfl, hB⟩ := hrel
    by_cases hlt : k < ss.length
    · obtain ⟨ba, oa, rfl, hba, hca'⟩ := HCA.out (by omega)
      obtain ⟨bb, ob, rfl, hbb, hcb'⟩ := HCB.out (by omega)
      have hA := NodIs.below (hca' k hlt) hB hba
      have hC := NodIs.below (hcb' k hlt) hB hbb
      obtain ⟨x, hx⟩ : ∃ x, nodG ss k = x := ⟨_, rfl⟩
      rw [hx] at hA hC
      obtain ⟨f, n, us⟩ := x
      obtain ⟨k0, k1, u, k2, hu⟩ := hA
      obtain ⟨l0, l1, v, l2, hv⟩ := hC
      simp only at k0 k1 k2 l0 l1 l2 hu hv
      have HU := Shh.mk hu
      have HV := Shh.mk hv
      obtain ⟨ua, uc, rfl, -⟩ := hu
      obtain ⟨va, vc, rfl, -⟩ := hv
      clear hca' hcb' hx
      go_wp2
      go_region_with (go_at_call 140; refine (eqNode_same f n us _ (HU.out.drewN 1) (HV.out.drewN 1)).mono ?_; rintro e w2 ⟨rfl, hb2⟩; have hB2 := Below.trans (Below.drew hB) (Below.mono hb2 hB.size))
      all_goals
        go_wp2
        go_roundw
        case rel => exact ⟨k + 1, by omega, by go_num, by first | exact hB2 | exact hB2.drew⟩
        case measure => simp [intOf]; omega
    · go_wp2
      go_ret
      exact ⟨rfl, hB⟩

set_option maxHeartbeats 1000000 in
theorem eqDawg_same {va vb : Value} {xs : List Nod} (W : World) (hx : Nds W va xs) (hy : Nds W vb xs) :
    Calls Tryd.prog 44 #[.agg #[va], .agg #[vb]] W fun e w' => e = .returned (.bool true) ∧ Below W.heap.size W w' := by
  have HX := Shh.mk ((hx.alloc (.cells #[va] 26)).alloc (.cells #[vb] 26))
  have HY := Shh.mk ((hy.alloc (.cells #[va] 26)).alloc (.cells #[vb] 26))
  have hB := Shh.mk (((Below.refl W.heap.size W).alloc (Nat.le_refl _) (.cells #[va] 26)).alloc (by simp) (.cells #[vb] 26))
  obtain ⟨aa, ac, rfl, -⟩ := hx
  obtain ⟨ba, bc, rfl, -⟩ := hy
  go_enter Tryd.func44, Tryd.ntmps44
  go_wp2_with fail
  refine (eqNodeS_same _ HX.out HY.out).mono ?_
  rintro e w1 ⟨rfl, hb1⟩
  go_wp2
  go_ret
  exact ⟨rfl, hB.out.trans (hb1.mono hB.out.size)⟩
end Go.Proofs.YtabbpnafkgljcaaDoor
