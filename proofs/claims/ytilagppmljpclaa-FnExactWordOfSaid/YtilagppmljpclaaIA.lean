/-
  The laws' helpers on derivations: size, copy, equality.
-/
import Derived.Test.YtilagppmljpclaaI9
import Derived.Test.YtilagppmljpclaaHA
import Derived.Deep.RegionWith
namespace Go.Proofs.Ytilagppmljpclaa
open Go.ChangeShapes Go.WideShapes Go.ChangeAt Go.RowKit Go.Joins Go.Deep

set_option maxHeartbeats 1000000 in
theorem szDer_any {u : Value} (n : ByteArray) (us : List ByteArray) (left : Int) (w : World) (hu : Strs w u us) (hn : n.size ≤ maxLen) (hz : ∀ s ∈ us, s.size ≤ maxLen) (h0 : 0 ≤ left) (h1 : left ≤ 1048576) :
    Calls Try.prog 21 #[.agg #[.string n, u], .int .i64 left] w fun e w' => e = .returned (.int .i64 (szN left (stmW ⟨n, us⟩))) ∧ Below w.heap.size w w' := by
  have hU := Shh.mk (hu.alloc (.cells #[.string n, u] 41))
  have hB0 := (Below.refl w.heap.size w).alloc (Nat.le_refl _) (.cells #[.string n, u] 41)
  have hW : stmW ⟨n, us⟩ = n.size + strsW us := rfl
  have HW := Shh.mk hW
  clear hW
  obtain ⟨ua, uc, rfl, -⟩ := hu
  unfold maxLen at hn
  by_cases hA : left - (n.size : Int) < 0
  · have HR := Shh.mk (szN_no (left := left) (n := stmW ⟨n, us⟩) (by rw [HW.out]; omega))
    go_enter Try.func21, Try.ntmps21
    go_wp2
    go_ret
    exact ⟨ret_i64 HR.out.symm, hB0⟩
  · by_cases hC : left - (n.size : Int) < ((strsW us : Nat) : Int)
    · have HR := Shh.mk (szN_no (left := left) (n := stmW ⟨n, us⟩) (by rw [HW.out]; omega))
      have HZ := Shh.mk (szN_no hC)
      clear hC
      go_enter Try.func21, Try.ntmps21
      go_wp2_with fail
      refine (szStringS_any (left - (n.size : Int)) _ hU.out hz (by omega) (by omega)).mono ?_
      rw [HZ.out]
      rintro e w' ⟨rfl, rfl⟩
      go_wp2
      go_ret
      exact ⟨ret_i64 HR.out.symm, hB0⟩
    · have HR := Shh.mk ((szN_yes (left := left) (n := stmW ⟨n, us⟩) (by rw [HW.out]; omega)).trans (show _ = left - (n.size : Int) - (strsW us : Nat) by rw [HW.out]; omega))
      have HZ := Shh.mk (szN_yes hC)
      have hnn : ¬ (left - (n.size : Int) - (strsW us : Nat) < 0) := by omega
      clear hC
      go_enter Try.func21, Try.ntmps21
      go_wp2_with fail
      refine (szStringS_any (left - (n.size : Int)) _ hU.out hz (by omega) (by omega)).mono ?_
      rw [HZ.out]
      rintro e w' ⟨rfl, rfl⟩
      go_wp2
      go_ret
      exact ⟨ret_i64 HR.out.symm, hB0⟩

set_option maxHeartbeats 2000000 in
theorem toDer_any {u : Value} (n : ByteArray) (us : List ByteArray) (w : World) (hu : Strs w u us) (hn : us.length ≤ 1048576) :
    Calls Try.prog 24 #[.agg #[.string n, u]] w fun e w' => ∃ a cap, e = .returned (.agg #[.string n, .slice a us.length cap]) ∧ OwnS w.heap.size w' (.slice a us.length cap) us ∧ Below w.heap.size w w' := by
  have HU := Shh.mk (((hu.alloc (.cells #[.string n, u] 41)).alloc (.cells #[.string ⟨#[]⟩, .slice none 0 0] 50)).alloc (.cells #[.string n, .slice none 0 0] 50))
  obtain ⟨ua, uc, rfl, -⟩ := hu
  go_enter Try.func24, Try.ntmps24
  go_wp2_with fail
  refine (toStringS_any _ HU.out hn).mono ?_
  rintro e w1 ⟨u1, rfl, ho, hb1⟩
  obtain ⟨a, cap, rfl, hc1, hc2, -⟩ := own_form ho
  have hz1 : w.heap.size + 2 < w1.heap.size := by have := hb1.size; simp at this; omega
  have q1 := ((Blk.made (w.alloc (.cells #[.string n, .slice ua us.length uc] 41)) 50 #[.string ⟨#[]⟩, .slice none 0 0]).alloc (.cells #[.string n, .slice none 0 0] 50)).kept hb1 (by simp)
  have q2 := (Blk.made ((w.alloc (.cells #[.string n, .slice ua us.length uc] 41)).alloc (.cells #[.string ⟨#[]⟩, .slice none 0 0] 50)) 50 #[.string n, .slice none 0 0]).kept hb1 (by simp)
  simp only [World.size_alloc] at q1 q2 ho
  have HO := Shh.mk ho
  have c1 := q1.cells
  have c2 := q2.cells
  have m1 := q1.marks
  have m2 := q2.marks
  have hB1 := Shh.mk ((((((Below.refl w.heap.size w).alloc (Nat.le_refl _) (.cells #[.string n, .slice ua us.length uc] 41)).alloc (by simp) (.cells #[.string ⟨#[]⟩, .slice none 0 0] 50)).alloc (by simp; omega) (.cells #[.string n, .slice none 0 0] 50))).trans (hb1.mono (by simp; omega)))
  clear ho hb1 q1 q2
  go_wp2
  refine bodyPost_ret (v := .agg #[.string n, .slice a us.length cap]) (by simp [results, Try.results24, go_sem, c1]) rfl ?_
  refine ⟨a, cap, rfl, ?_, ?_⟩
  · exact (((HO.out.off (by omega) _ _).off (by omega) _ _).off (by omega) _ _).lower (by omega)
  · exact ((hB1.out.setCell (by simp; omega) _).setCell (by simp) _).setCell (by simp) _

set_option maxHeartbeats 1000000 in
theorem eqDer_same {u v : Value} (n : ByteArray) (us : List ByteArray) (W : World) (hu : Strs W u us) (hv : Strs W v us) :
    Calls Try.prog 27 #[.agg #[.string n, u], .agg #[.string n, v]] W fun e w' => e = .returned (.bool true) ∧ Below W.heap.size W w' := by
  have HU := Shh.mk ((hu.alloc (.cells #[.string n, u] 50)).alloc (.cells #[.string n, v] 50))
  have HV := Shh.mk ((hv.alloc (.cells #[.string n, u] 50)).alloc (.cells #[.string n, v] 50))
  obtain ⟨ua, uc, rfl, -⟩ := hu
  obtain ⟨va, vc, rfl, -⟩ := hv
  go_enter Try.func27, Try.ntmps27
  go_wp2_with fail
  refine (eqStringS_sameH _ HU.out HV.out).mono ?_
  rintro e w' ⟨rfl, m, rfl⟩
  go_wp2
  go_ret
  exact ⟨rfl, below_drewN (((Below.refl _ _).alloc (Nat.le_refl _) _).alloc (by simp) _) _⟩

end Go.Proofs.Ytilagppmljpclaa
