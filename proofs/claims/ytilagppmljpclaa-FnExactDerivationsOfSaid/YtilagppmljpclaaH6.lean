/-
  The laws' helpers on grammars: comparisons of what is the same.
-/
import Derived.Test.YtilagppmljpclaaH5
import Derived.Deep.RegionWith
namespace Go.Proofs.Ytilagppmljpclaa
open Go.RowKit

theorem same_strH (s : ByteArray) : (s.toList != s.toList) = false := by simp
set_option maxHeartbeats 1000000 in
theorem eqAffix_same (f : Bool) (n w s a : ByteArray) (W : World) :
    Calls Try.prog 135 #[.agg #[.string n, .bool f, .string w, .string s, .string a], .agg #[.string n, .bool f, .string w, .string s, .string a]] W fun e w' => e = .returned (.bool true) ∧ Below W.heap.size W w' := by
  go_enter Try.func135, Try.ntmps135
  go_wp2
  go_ret
  exact ⟨rfl, ((Below.refl _ _).alloc (Nat.le_refl _) _).alloc (by simp) _⟩

set_option maxHeartbeats 2000000 in
theorem eqStringS_sameH {va vb : Value} {ss : List ByteArray} (w : World) (ha : Strs w va ss) (hb : Strs w vb ss) :
    Calls Try.prog 15 #[va, vb] w fun e w' => e = .returned (.bool true) ∧ ∃ n, w' = w.drewN n := by
  have hal := ha.len
  obtain ⟨a, capa, rfl, hla, hma, hca⟩ := ha
  obtain ⟨b, capb, rfl, hlb, hmb, hcb⟩ := hb
  go_enter Try.func15, Try.ntmps15
  go_wp2
  go_loopw [5] (fun i w' => ∃ k n : Nat, k ≤ ss.length ∧ i = .int .i64 k ∧ w' = w.drewN n) (fun i _ => ss.length - (intOf i).toNat)
  case atStart => exact ⟨0, 0, Nat.zero_le _, rfl, rfl⟩
  case round =>
    obtain ⟨k, n, hk, rfl, rfl⟩ := hrel
    by_cases hlt : k < ss.length
    · obtain ⟨ba, oa, rfl, hba, hca'⟩ := hca (by omega)
      obtain ⟨bb, ob, rfl, hbb, hcb'⟩ := hcb (by omega)
      have ca := hca' k hlt
      have cb := hcb' k hlt
      have hss := same_strH (strAt ss k)
      obtain ⟨m, hm⟩ : ∃ m, strAt ss k = m := ⟨_, rfl⟩
      rw [hm] at ca cb hss
      clear hca' hcb' hca hcb hm
      go_wp2
      go_quiet (fail)
      go_wp2
      go_roundw
      case rel => exact ⟨k + 1, _, by omega, by go_num, rfl⟩
      case measure => simp [intOf]; omega
    · clear hca hcb
      go_wp2
      go_ret
      exact ⟨rfl, _, rfl⟩

set_option maxHeartbeats 1000000 in
theorem eqStem_same {u v : Value} (n : ByteArray) (us : List ByteArray) (W : World) (hu : Strs W u us) (hv : Strs W v us) :
    Calls Try.prog 136 #[.agg #[.string n, u], .agg #[.string n, v]] W fun e w' => e = .returned (.bool true) ∧ Below W.heap.size W w' := by
  have HU := Shh.mk ((hu.alloc (.cells #[.string n, u] 111)).alloc (.cells #[.string n, v] 111))
  have HV := Shh.mk ((hv.alloc (.cells #[.string n, u] 111)).alloc (.cells #[.string n, v] 111))
  obtain ⟨ua, uc, rfl, -⟩ := hu
  obtain ⟨va, vc, rfl, -⟩ := hv
  go_enter Try.func136, Try.ntmps136
  go_wp2_with fail
  refine (eqStringS_sameH _ HU.out HV.out).mono ?_
  rintro e w' ⟨rfl, m, rfl⟩
  go_wp2
  go_ret
  exact ⟨rfl, below_drewN (((Below.refl _ _).alloc (Nat.le_refl _) _).alloc (by simp) _) _⟩

set_option maxRecDepth 100000 in
set_option maxHeartbeats 2000000 in
theorem eqAffixS_same {va vb : Value} {xs : List Aff} (w : World) (ha : Affs w va xs) (hb : Affs w vb xs) :
    Calls Try.prog 78 #[va, vb] w fun e w' => e = .returned (.bool true) ∧ Below w.heap.size w w' := by
  have hal := ha.len
  obtain ⟨a, capa, rfl, hla, hma, hca⟩ := ha
  obtain ⟨b, capb, rfl, hlb, hmb, hcb⟩ := hb
  have HCA := Shh.mk hca
  have HCB := Shh.mk hcb
  clear hca hcb
  go_enter Try.func78, Try.ntmps78
  go_wp2
  go_loopw [5] (fun i w' => ∃ k : Nat, k ≤ xs.length ∧ i = .int .i64 k ∧ Below w.heap.size w w') (fun i _ => xs.length - (intOf i).toNat)
  case atStart => exact ⟨0, Nat.zero_le _, rfl, Below.refl _ _⟩
  case round =>
    obtain ⟨k, hk, rfl, hB⟩ := hrel
    by_cases hlt : k < xs.length
    · obtain ⟨ba, oa, rfl, hba, hca'⟩ := HCA.out (by omega)
      obtain ⟨bb, ob, rfl, hbb, hcb'⟩ := HCB.out (by omega)
      have hA := AffAt.below (hca' k hlt) hB hba
      have hC := AffAt.below (hcb' k hlt) hB hbb
      obtain ⟨x, hx⟩ : ∃ x, affG xs k = x := ⟨_, rfl⟩
      rw [hx] at hA hC
      obtain ⟨n, fr, ww, st, ad⟩ := x
      obtain ⟨k0, k1, k2, k3, k4⟩ := hA
      obtain ⟨l0, l1, l2, l3, l4⟩ := hC
      simp only at k0 k1 k2 k3 k4 l0 l1 l2 l3 l4
      clear hca' hcb' hx
      go_wp2
      go_region_with (go_at_call 135; refine (eqAffix_same fr n ww st ad _).mono ?_; rintro e w2 ⟨rfl, hb2⟩; have hB2 := Below.trans (Below.drew hB) (Below.mono hb2 hB.size))
      all_goals
        go_wp2
        go_roundw
        case rel => exact ⟨k + 1, by omega, by go_num, by first | exact hB2 | exact hB2.drew⟩
        case measure => simp [intOf]; omega
    · go_wp2
      go_ret
      exact ⟨rfl, hB⟩
end Go.Proofs.Ytilagppmljpclaa
