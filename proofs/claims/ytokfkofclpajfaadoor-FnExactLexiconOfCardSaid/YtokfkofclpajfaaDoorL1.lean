/-
  The laws' helpers on lexicons: sizes, copies, comparisons, marks.
-/
import Derived.Test.YtokfkofclpajfaaDoorL0
import Derived.Test.YtokfkofclpajfaaDoorS1
namespace Go.Proofs.YtokfkofclpajfaaDoor
open Go.ChangeShapes Go.WideShapes Go.ChangeAt Go.RowKit Go.Joins Go.Deep

theorem OwnS.grown {B : Nat} {w w' : World} {v : Value} {ss : List ByteArray} {r : Option Nat} (h : OwnS B w v ss) (hg : w.grownBy w' r) (hr : ∀ k, r = some k → k < B) : OwnS B w' v ss := by
  refine ⟨h.1, ?_⟩
  rcases h.2 with h | ⟨g', cap, cur, h, hg1, hgg, rest⟩
  · exact .inl h
  · exact .inr ⟨g', cap, cur, h, hg1, (hg.block g' (Array.getElem?_eq_some_iff.1 hgg).1 (fun e => by have := hr g' e.symm; omega)).trans hgg, rest⟩
theorem OwnS.block {B : Nat} {w : World} {v : Value} {ss : List ByteArray} (h : OwnS B w v ss) : ∀ k, v.ownBlock = some k → B ≤ k := fun k hk => (World.ownsRow.lt h k hk).1
theorem OwnS.under {B : Nat} {w : World} {v : Value} {ss : List ByteArray} (h : OwnS B w v ss) : ∀ k, v.ownBlock = some k → k < w.heap.size := fun k hk => (World.ownsRow.lt h k hk).2
theorem Strs.grown {B : Nat} {w w' : World} {v : Value} {ss : List ByteArray} {r : Option Nat} (h : Strs w v ss) (hg : w.grownBy w' r) (hr : ∀ k, r = some k → B ≤ k) (hb : ∀ k, v.ownBlock = some k → k < B) : Strs w' v ss := by
  obtain ⟨a, cap, hv, h1, h2, h3⟩ := h
  refine ⟨a, cap, hv, h1, h2, fun hp => ?_⟩
  obtain ⟨b, off, ha, hlt, hc⟩ := h3 hp
  have hbB : b < B := hb b (by rw [hv, ha]; rfl)
  refine ⟨b, off, ha, Nat.lt_of_lt_of_le hlt hg.size, fun j hj => ?_⟩
  rw [← hc j hj]
  have hk := hg.block b hlt (fun e => by have := hr b e.symm; omega)
  simp only [World.cell?, hk]
theorem grown_alloc {w w' : World} {o : Obj} {r : Option Nat} (h : (w.alloc o).grownBy w' r) : w.grownBy w' r :=
  ⟨h.os, h.tape, h.output, Nat.le_trans (by simp) h.size, fun i hi hn => (h.block i (by simp; omega) hn).trans (Below.heap_alloc w o i hi)⟩



set_option maxHeartbeats 1000000 in
theorem eqLexicon_same {u v : Value} (us : List ByteArray) (W : World) (hu : Strs W u us) (hv : Strs W v us) :
    Calls Tryd.prog 38 #[.agg #[u], .agg #[v]] W fun e w' => e = .returned (.bool true) ∧ Below W.heap.size W w' := by
  have HU := Shh.mk ((hu.alloc (.cells #[u] 45)).alloc (.cells #[v] 45))
  have HV := Shh.mk ((hv.alloc (.cells #[u] 45)).alloc (.cells #[v] 45))
  obtain ⟨ua, uc, rfl, -⟩ := hu
  obtain ⟨va, vc, rfl, -⟩ := hv
  go_enter Tryd.func38, Tryd.ntmps38
  go_wp2_with fail
  refine (eqStringS_same _ HU.out HV.out).mono ?_
  rintro e w' ⟨rfl, m, rfl⟩
  go_wp2
  go_ret
  exact ⟨rfl, below_drewN (((Below.refl _ _).alloc (Nat.le_refl _) _).alloc (by simp) _) _⟩

set_option maxHeartbeats 1000000 in
theorem markLexicon_any {B : Nat} {v : Value} {ss : List ByteArray} (k : Nat) (w : World) (h : OwnS B w v ss) (hk : 0 < k) (hkn : k + ss.length ≤ 4000000000) :
    Calls Tryd.prog 39 #[.agg #[v], .int .i64 k] w fun e w' => e = .returned (.int .i64 ((k + ss.length : Nat) : Int)) ∧ OwnS B w' v (marks k ss.length) ∧ w.grownBy w' v.ownBlock := by
  have HU := Shh.mk (OwnS.kept h ((Below.refl _ _).alloc (Nat.le_refl _) (.cells #[v] 45)))
  obtain ⟨a, cap, hv, h1, h2, h3⟩ := own_form h
  subst hv
  go_enter Tryd.func39, Tryd.ntmps39
  go_wp2_with fail
  refine (markStringS_any k _ HU.out hk hkn).mono ?_
  rintro e w' ⟨rfl, ho, hg⟩
  go_wp2
  go_ret
  exact ⟨rfl, ho, grown_alloc hg⟩

set_option maxHeartbeats 1000000 in
theorem heldLexicon_any {v : Value} (k n : Nat) (w : World) (h : Strs w v (marks k n)) (hk : 0 < k) (hkn : k + n ≤ 4000000000) :
    Calls Tryd.prog 40 #[.agg #[v], .int .i64 k] w fun e w' => e = .returned (.int .i64 ((k + n : Nat) : Int)) ∧ Below w.heap.size w w' := by
  have HU := Shh.mk (h.alloc (.cells #[v] 45))
  have hB0 := (Below.refl w.heap.size w).alloc (Nat.le_refl _) (.cells #[v] 45)
  obtain ⟨a, cap, rfl, -⟩ := h
  have hnn : ¬ (((k + n : Nat) : Int) < 0) := by omega
  go_enter Tryd.func40, Tryd.ntmps40
  go_wp2_with fail
  refine (heldStringS_any k n _ HU.out hk hkn).mono ?_
  rintro e w' ⟨rfl, hb⟩
  go_wp2
  go_ret
  exact ⟨rfl, hB0.trans (hb.mono (by simp))⟩
end Go.Proofs.YtokfkofclpajfaaDoor
