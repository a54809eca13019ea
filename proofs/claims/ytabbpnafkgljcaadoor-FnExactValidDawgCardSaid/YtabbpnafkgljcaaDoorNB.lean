/-
  The laws' helpers on automata: sizes.
-/
import Derived.Test.YtabbpnafkgljcaaDoorNA
import Derived.Test.YtabbpnafkgljcaaDoorT1
import Derived.Test.YtabbpnafkgljcaaDoorL0
namespace Go.Proofs.YtabbpnafkgljcaaDoor
open Go.RowKit

def nodW (x : Nod) : Nat := x.ls.size + x.ns.length
def nodsW (xs : List Nod) : Nat := xs.length + sumTo (fun j => nodW (nodG xs j)) xs.length
set_option maxHeartbeats 1000000 in
theorem szNode_any {u : Value} (f : Bool) (n : ByteArray) (us : List Int) (left : Int) (w : World) (hu : Ints .i64 w u us) (hn : n.size ≤ maxLen) (h0 : 0 ≤ left) (h1 : left ≤ 1048576) :
    Calls Tryd.prog 141 #[.agg #[.bool f, .string n, u], .int .i64 left] w fun e w' => e = .returned (.int .i64 (szN left (nodW ⟨f, n, us⟩))) ∧ Below w.heap.size w w' := by
  have hU := Shh.mk (hu.alloc (.cells #[.bool f, .string n, u] 174))
  have hB0 := (Below.refl w.heap.size w).alloc (Nat.le_refl _) (.cells #[.bool f, .string n, u] 174)
  have hW : nodW ⟨f, n, us⟩ = n.size + us.length := rfl
  have HW := Shh.mk hW
  clear hW
  obtain ⟨ua, uc, rfl, -⟩ := hu
  unfold maxLen at hn
  by_cases hA : left - (n.size : Int) < 0
  · have HR := Shh.mk (szN_no (left := left) (n := nodW ⟨f, n, us⟩) (by rw [HW.out]; omega))
    go_enter Tryd.func141, Tryd.ntmps141
    go_wp2
    go_ret
    exact ⟨ret_i64 HR.out.symm, hB0⟩
  · by_cases hC : left - (n.size : Int) < ((us.length : Nat) : Int)
    · have HR := Shh.mk (szN_no (left := left) (n := nodW ⟨f, n, us⟩) (by rw [HW.out]; omega))
      have HZ := Shh.mk (szN_no hC)
      clear hC
      go_enter Tryd.func141, Tryd.ntmps141
      go_wp2_with fail
      refine (szInt64S_any (left - (n.size : Int)) _ hU.out (by omega) (by omega)).mono ?_
      rw [HZ.out]
      rintro e w' ⟨rfl, rfl⟩
      go_wp2
      go_ret
      exact ⟨ret_i64 HR.out.symm, hB0⟩
    · have HR := Shh.mk ((szN_yes (left := left) (n := nodW ⟨f, n, us⟩) (by rw [HW.out]; omega)).trans (show _ = left - (n.size : Int) - (us.length : Nat) by rw [HW.out]; omega))
      have HZ := Shh.mk (szN_yes hC)
      have hnn : ¬ (left - (n.size : Int) - (us.length : Nat) < 0) := by omega
      clear hC
      go_enter Tryd.func141, Tryd.ntmps141
      go_wp2_with fail
      refine (szInt64S_any (left - (n.size : Int)) _ hU.out (by omega) (by omega)).mono ?_
      rw [HZ.out]
      rintro e w' ⟨rfl, rfl⟩
      go_wp2
      go_ret
      exact ⟨ret_i64 HR.out.symm, hB0⟩

set_option maxHeartbeats 1000000 in
theorem szNodeS_any {v : Value} {xs : List Nod} (left : Int) (w : World) (h : Nds w v xs) (hz : ∀ x ∈ xs, x.ls.size ≤ maxLen) (h0 : 0 ≤ left) (h1 : left ≤ 1048576) :
    Calls Tryd.prog 106 #[v, .int .i64 left] w fun e w' => e = .returned (.int .i64 (szN left (nodsW xs))) ∧ Below w.heap.size w w' := by
  obtain ⟨a, cap, rfl, hl, hm, hc⟩ := h
  unfold maxLen at hm
  by_cases hA : left - (xs.length : Int) < 0
  · have HR := hid (szN_no (left := left) (n := nodsW xs) (by unfold nodsW; omega))
    go_enter Tryd.func106, Tryd.ntmps106
    go_wp2
    go_ret
    exact ⟨ret_i64 HR.out.symm, Below.refl _ _⟩
  · obtain ⟨f, hf⟩ : ∃ f : Nat → Nat, (fun j => nodW (nodG xs j)) = f := ⟨_, rfl⟩
    have hW : nodsW xs = xs.length + sumTo f xs.length := by rw [← hf]; rfl
    have hfk : ∀ k, nodW (nodG xs k) = f k := fun k => by rw [← hf]
    have HW := Shh.mk hW
    have HF := Shh.mk hfk
    have HM := Shh.mk (fun k (hk : k ≤ xs.length) => sumTo_mono f hk)
    have HC := Shh.mk hc
    clear hf hW hfk hc
    go_enter Tryd.func106, Tryd.ntmps106
    go_wp2
    go_loopw [1, 5] (fun x i wr => ∃ k : Nat, k ≤ xs.length ∧ i = .int .i64 k ∧ x = .int .i64 (left - (xs.length : Int) - (sumTo f k : Nat)) ∧ 0 ≤ left - (xs.length : Int) - (sumTo f k : Nat) ∧ Below w.heap.size w wr) (fun _ i _ => xs.length - (intOf i).toNat)
    case atStart => exact ⟨0, Nat.zero_le _, rfl, by simp [sumTo], by simp [sumTo]; omega, Below.refl _ _⟩
    case round =>
      obtain ⟨k, hk, rfl, rfl, hp, hB⟩ := hrel
      by_cases hlt : k < xs.length
      · obtain ⟨b, off, rfl, hb, hcc⟩ := HC.out (by omega)
        have hA := NodIs.below (hcc k hlt) hB hb
        have hfine := hz _ (nodG_mem hlt)
        have hfz := HF.out k
        have hmm := HM.out (k + 1) (by omega)
        have hs1 : sumTo f (k + 1) = sumTo f k + f k := rfl
        obtain ⟨s, hs⟩ : ∃ s, nodG xs k = s := ⟨_, rfl⟩
        rw [hs] at hA hfine hfz
        obtain ⟨f', n, us⟩ := s
        obtain ⟨k0, k1, u, k2, hu⟩ := hA
        have z0 := hfine
        simp only at k0 k1 k2 hu z0
        have hfz' : nodW ⟨f', n, us⟩ = f k := hfz
        have HU := Shh.mk hu
        obtain ⟨ua, uc, rfl, -⟩ := hu
        have HS1 := Shh.mk hs1
        have HFZ := Shh.mk hfz'
        obtain ⟨R, hR⟩ : ∃ R, left - (xs.length : Int) - (sumTo f k : Nat) = R := ⟨_, rfl⟩
        rw [hR] at hp
        by_cases hneg : R < ((nodW ⟨f', n, us⟩ : Nat) : Int)
        · have HR := Shh.mk (szN_no (left := left) (n := nodsW xs) (by rw [HW.out]; omega))
          have HZ := Shh.mk (szN_no hneg)
          clear hcc hs hfz hfz' hs1 hmm hfine
          rw [hR]
          go_wp2_with fail
          refine (szNode_any f' n us R _ HU.out z0 (by omega) (by omega)).mono ?_
          rw [HZ.out]
          rintro e w2 ⟨rfl, hb2⟩
          have hB2 := hB.trans (hb2.mono hB.size)
          go_wp2
          go_ret
          exact ⟨ret_i64 HR.out.symm, hB2⟩
        · have HZ := Shh.mk ((szN_yes hneg).trans (show _ = left - (xs.length : Int) - (sumTo f (k + 1) : Nat) by rw [hs1, ← hfz', ← hR]; omega))
          have hnn : ¬ (left - (xs.length : Int) - (sumTo f (k + 1) : Nat) < 0) := by rw [hs1, ← hfz']; omega
          clear hcc hs hfz hfz' hs1 hmm hfine
          rw [hR]
          go_wp2_with fail
          refine (szNode_any f' n us R _ HU.out z0 (by omega) (by omega)).mono ?_
          rw [HZ.out]
          rintro e w2 ⟨rfl, hb2⟩
          have hB2 := hB.trans (hb2.mono hB.size)
          go_wp2
          go_roundw
          case rel => exact ⟨k + 1, by omega, by go_num, rfl, by omega, hB2⟩
          case measure => simp [intOf]; omega
      · obtain rfl : k = xs.length := by omega
        have HR := Shh.mk ((szN_yes (left := left) (n := nodsW xs) (by rw [HW.out]; omega)).trans (show _ = left - (xs.length : Int) - (sumTo f xs.length : Nat) by rw [HW.out]; omega))
        go_wp2
        go_ret
        exact ⟨ret_i64 HR.out.symm, hB⟩

set_option maxHeartbeats 1000000 in
theorem szDawg_any {v : Value} {xs : List Nod} (left : Int) (w : World) (h : Nds w v xs) (hz : ∀ x ∈ xs, x.ls.size ≤ maxLen) (h0 : 0 ≤ left) (h1 : left ≤ 1048576) :
    Calls Tryd.prog 49 #[.agg #[v], .int .i64 left] w fun e w' => e = .returned (.int .i64 (szN left (nodsW xs))) ∧ Below w.heap.size w w' := by
  have HA := Shh.mk (h.alloc (.cells #[v] 66))
  have hB0 := (Below.refl w.heap.size w).alloc (Nat.le_refl _) (.cells #[v] 66)
  obtain ⟨aa, ac, rfl, -⟩ := h
  by_cases hA : left < ((nodsW xs : Nat) : Int)
  · have HZ := Shh.mk (szN_no hA)
    clear hA
    go_enter Tryd.func49, Tryd.ntmps49
    go_wp2_with fail
    refine (szNodeS_any left _ HA.out hz h0 h1).mono ?_
    rw [HZ.out]
    rintro e w1 ⟨rfl, hb1⟩
    go_wp2
    go_ret
    exact ⟨ret_i64 HZ.out.symm, hB0.trans (hb1.mono hB0.size)⟩
  · have HZ := Shh.mk (szN_yes hA)
    have hnn : ¬ (left - ((nodsW xs : Nat) : Int) < 0) := by omega
    clear hA
    go_enter Tryd.func49, Tryd.ntmps49
    go_wp2_with fail
    refine (szNodeS_any left _ HA.out hz h0 h1).mono ?_
    rw [HZ.out]
    rintro e w1 ⟨rfl, hb1⟩
    go_wp2
    go_ret
    exact ⟨ret_i64 HZ.out.symm, hB0.trans (hb1.mono hB0.size)⟩
end Go.Proofs.YtabbpnafkgljcaaDoor
