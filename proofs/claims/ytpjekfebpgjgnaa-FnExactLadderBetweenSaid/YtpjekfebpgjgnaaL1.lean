/-
  The laws' helpers on lexicons: sizes, copies, comparisons, marks.
-/
import Derived.Test.YtpjekfebpgjgnaaL0
import Derived.Test.YtpjekfebpgjgnaaS1
namespace Go.Proofs.Ytpjekfebpgjgnaa
open Go.ChangeShapes Go.WideShapes Go.ChangeAt Go.RowKit Go.Joins Go.Deep

theorem OwnS.grown {B : Nat} {w w' : World} {v : Value} {ss : List ByteArray} {r : Option Nat} (h : OwnS B w v ss) (hg : w.grownBy w' r) (hr : ∀ k, r = some k → k < B) : OwnS B w' v ss := by
  refine ⟨h.1, ?_⟩
  rcases h.2 with h | ⟨g', cap, cur, h, hg1, hgg, rest⟩
  · exact .inl h
  · exact .inr ⟨g', cap, cur, h, hg1, (hg.block g' (Array.getElem?_eq_some_iff.1 hgg).1 (fun e => by have := hr g' e.symm; omega)).trans hgg, rest⟩
theorem OwnS.block {B : Nat} {w : World} {v : Value} {ss : List ByteArray} (h : OwnS B w v ss) : ∀ k, v.ownBlock = some k → B ≤ k := fun k hk => (World.ownsRow.lt h k hk).1
theorem OwnS.under {B : Nat} {w : World} {v : Value} {ss : List ByteArray} (h : OwnS B w v ss) : ∀ k, v.ownBlock = some k → k < w.heap.size := fun k hk => (World.ownsRow.lt h k hk).2
theorem Strs.grown {B : Nat} {w w' : World} {v : Value} {ss : List ByteArray} {r : Option Nat} (h : Strs w v ss) (hg : w.grownBy w' r) (hr : ∀ k, r = some k → B ≤ k) (hb : ∀ k, v.ownBlock = some k → k < B) : Strs w' v ss := by
  obtain ⟨a, cap, hv, h1, h2, h3⟩ := h
  refine ⟨a, cap, hv, h1, h2, fun hp => ?_⟩
  obtain ⟨b, off, ha, hlt, hc⟩ := h3 hp
  have hbB : b < B := hb b (by rw [hv, ha]; rfl)
  refine ⟨b, off, ha, Nat.lt_of_lt_of_le hlt hg.size, fun j hj => ?_⟩
  rw [← hc j hj]
  have hk := hg.block b hlt (fun e => by have := hr b e.symm; omega)
  simp only [World.cell?, hk]
theorem grown_alloc {w w' : World} {o : Obj} {r : Option Nat} (h : (w.alloc o).grownBy w' r) : w.grownBy w' r :=
  ⟨h.os, h.tape, h.output, Nat.le_trans (by simp) h.size, fun i hi hn => (h.block i (by simp; omega) hn).trans (Below.heap_alloc w o i hi)⟩

set_option maxHeartbeats 1000000 in
theorem szLexicon_any {u : Value} (us : List ByteArray) (left : Int) (w : World) (hu : Strs w u us) (hz : ∀ s ∈ us, s.size ≤ maxLen) (h0 : 0 ≤ left) (h1 : left ≤ 1048576) :
    Calls Try.prog 48 #[.agg #[u], .int .i64 left] w fun e w' => e = .returned (.int .i64 (szN left (strsW us))) ∧ Below w.heap.size w w' := by
  have hU := Shh.mk (hu.alloc (.cells #[u] 43))
  have hB0 := (Below.refl w.heap.size w).alloc (Nat.le_refl _) (.cells #[u] 43)
  obtain ⟨ua, uc, rfl, -⟩ := hu
  by_cases hC : left < ((strsW us : Nat) : Int)
  · have HZ := Shh.mk (szN_no hC)
    clear hC
    go_enter Try.func48, Try.ntmps48
    go_wp2_with fail
    refine (szStringS_any left _ hU.out hz h0 h1).mono ?_
    rw [HZ.out]
    rintro e w' ⟨rfl, rfl⟩
    go_wp2
    go_ret
    exact ⟨ret_i64 HZ.out.symm, hB0⟩
  · have HZ := Shh.mk (szN_yes hC)
    have hnn : ¬ (left - (strsW us : Nat) < 0) := by omega
    clear hC
    go_enter Try.func48, Try.ntmps48
    go_wp2_with fail
    refine (szStringS_any left _ hU.out hz h0 h1).mono ?_
    rw [HZ.out]
    rintro e w' ⟨rfl, rfl⟩
    go_wp2
    go_ret
    exact ⟨ret_i64 HZ.out.symm, hB0⟩

set_option maxHeartbeats 2000000 in
theorem toLexicon_any {u : Value} (us : List ByteArray) (w : World) (hu : Strs w u us) (hn : us.length ≤ 1048576) :
    Calls Try.prog 50 #[.agg #[u]] w fun e w' => ∃ a cap, e = .returned (.agg #[.slice a us.length cap]) ∧ OwnS w.heap.size w' (.slice a us.length cap) us ∧ Below w.heap.size w w' := by
  have HU := Shh.mk (((hu.alloc (.cells #[u] 43)).alloc (.cells #[.slice none 0 0] 26)).alloc (.cells #[.slice none 0 0] 26))
  obtain ⟨ua, uc, rfl, -⟩ := hu
  go_enter Try.func50, Try.ntmps50
  go_wp2_with fail
  refine (toStringS_any _ HU.out hn).mono ?_
  rintro e w1 ⟨u1, rfl, ho, hb1⟩
  obtain ⟨a, cap, rfl, hc1, hc2, -⟩ := own_form ho
  have hz1 : w.heap.size + 2 < w1.heap.size := by have := hb1.size; simp at this; omega
  have q1 := ((Blk.made (w.alloc (.cells #[.slice ua us.length uc] 43)) 26 #[.slice none 0 0]).alloc (.cells #[.slice none 0 0] 26)).kept hb1 (by simp)
  have q2 := (Blk.made ((w.alloc (.cells #[.slice ua us.length uc] 43)).alloc (.cells #[.slice none 0 0] 26)) 26 #[.slice none 0 0]).kept hb1 (by simp)
  simp only [World.size_alloc] at q1 q2 ho
  have HO := Shh.mk ho
  have c1 := q1.cells
  have c2 := q2.cells
  have m1 := q1.marks
  have m2 := q2.marks
  have hB1 := Shh.mk ((((((Below.refl w.heap.size w).alloc (Nat.le_refl _) (.cells #[.slice ua us.length uc] 43)).alloc (by simp) (.cells #[.slice none 0 0] 26)).alloc (by simp; omega) (.cells #[.slice none 0 0] 26))).trans (hb1.mono (by simp; omega)))
  clear ho hb1 q1 q2
  go_wp2
  refine bodyPost_ret (v := .agg #[.slice a us.length cap]) (by simp [results, Try.results50, go_sem, c1]) rfl ?_
  refine ⟨a, cap, rfl, ?_, ?_⟩
  · exact ((HO.out.off (by omega) _ _).off (by omega) _ _).lower (by omega)
  · exact (hB1.out.setCell (by simp; omega) _).setCell (by simp) _

set_option maxHeartbeats 1000000 in
theorem eqLexicon_same {u v : Value} (us : List ByteArray) (W : World) (hu : Strs W u us) (hv : Strs W v us) :
    Calls Try.prog 53 #[.agg #[u], .agg #[v]] W fun e w' => e = .returned (.bool true) ∧ Below W.heap.size W w' := by
  have HU := Shh.mk ((hu.alloc (.cells #[u] 26)).alloc (.cells #[v] 26))
  have HV := Shh.mk ((hv.alloc (.cells #[u] 26)).alloc (.cells #[v] 26))
  obtain ⟨ua, uc, rfl, -⟩ := hu
  obtain ⟨va, vc, rfl, -⟩ := hv
  go_enter Try.func53, Try.ntmps53
  go_wp2_with fail
  refine (eqStringS_same _ HU.out HV.out).mono ?_
  rintro e w' ⟨rfl, m, rfl⟩
  go_wp2
  go_ret
  exact ⟨rfl, below_drewN (((Below.refl _ _).alloc (Nat.le_refl _) _).alloc (by simp) _) _⟩

set_option maxHeartbeats 1000000 in
theorem markLexicon_any {B : Nat} {v : Value} {ss : List ByteArray} (k : Nat) (w : World) (h : OwnS B w v ss) (hk : 0 < k) (hkn : k + ss.length ≤ 4000000000) :
    Calls Try.prog 54 #[.agg #[v], .int .i64 k] w fun e w' => e = .returned (.int .i64 ((k + ss.length : Nat) : Int)) ∧ OwnS B w' v (marks k ss.length) ∧ w.grownBy w' v.ownBlock := by
  have HU := Shh.mk (OwnS.kept h ((Below.refl _ _).alloc (Nat.le_refl _) (.cells #[v] 26)))
  obtain ⟨a, cap, hv, h1, h2, h3⟩ := own_form h
  subst hv
  go_enter Try.func54, Try.ntmps54
  go_wp2_with fail
  refine (markStringS_any k _ HU.out hk hkn).mono ?_
  rintro e w' ⟨rfl, ho, hg⟩
  go_wp2
  go_ret
  exact ⟨rfl, ho, grown_alloc hg⟩

end Go.Proofs.Ytpjekfebpgjgnaa
