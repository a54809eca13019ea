/-
  Lexicons that are the same: the model's answer and the program's.
-/
import Derived.Test.YtomofgebobabnaaL6
namespace Go.Proofs.Ytomofgebobabnaa
open Go.RowKit

set_option maxHeartbeats 1000000 in
theorem specSameLexicon_any {u v : Value} {us vs : List ByteArray} (W : World) (hu : Strs W u us) (hv : Strs W v vs) {t : Bool} (ht : sameStrs us vs = t) :
    Calls Try.prog 20 #[.agg #[u], .agg #[v]] W fun e w' => e = .returned (.bool t) ∧ Below W.heap.size W w' := by
  have HU := Shh.mk ((hu.alloc (.cells #[u] 27)).alloc (.cells #[v] 27))
  have HV := Shh.mk ((hv.alloc (.cells #[u] 27)).alloc (.cells #[v] 27))
  have HT := Shh.mk ht
  obtain ⟨ua, uc, rfl, -⟩ := hu
  obtain ⟨va, vc, rfl, -⟩ := hv
  clear ht
  go_enter Try.func20, Try.ntmps20
  go_wp2_with fail
  refine (l05Same_any _ HU.out HV.out).mono ?_
  rw [HT.out]
  rintro e w' ⟨rfl, m, rfl⟩
  go_wp2
  go_ret
  exact ⟨rfl, below_drewN (((Below.refl _ _).alloc (Nat.le_refl _) _).alloc (by simp) _) _⟩
set_option maxHeartbeats 1000000 in
theorem implSameLexicon_any {u v : Value} {us vs : List ByteArray} (W : World) (hu : Strs W u us) (hv : Strs W v vs) {t : Bool} (ht : sameStrs us vs = t) :
    Calls Try.prog 21 #[.agg #[u], .agg #[v]] W fun e w' => e = .returned (.bool t) ∧ Below W.heap.size W w' := by
  have HU := Shh.mk ((hu.alloc (.cells #[u] 27)).alloc (.cells #[v] 27))
  have HV := Shh.mk ((hv.alloc (.cells #[u] 27)).alloc (.cells #[v] 27))
  have HT := Shh.mk ht
  obtain ⟨ua, uc, rfl, -⟩ := hu
  obtain ⟨va, vc, rfl, -⟩ := hv
  clear ht
  go_enter Try.func21, Try.ntmps21
  go_wp2_with fail
  refine (equalStr_any _ HU.out HV.out).mono ?_
  rw [HT.out]
  rintro e w' ⟨rfl, m, rfl⟩
  go_wp2
  go_ret
  exact ⟨rfl, below_drewN (((Below.refl _ _).alloc (Nat.le_refl _) _).alloc (by simp) _) _⟩
end Go.Proofs.Ytomofgebobabnaa
