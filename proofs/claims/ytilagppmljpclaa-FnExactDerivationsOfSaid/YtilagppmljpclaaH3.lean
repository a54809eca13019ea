/-
  The laws' helpers on grammars: sizes of stems and of grammars.
-/
import Derived.Test.YtilagppmljpclaaH2
namespace Go.Proofs.Ytilagppmljpclaa
open Go.RowKit

set_option maxHeartbeats 1000000 in
theorem szStem_any {u : Value} (n : ByteArray) (us : List ByteArray) (left : Int) (w : World) (hu : Strs w u us) (hn : n.size ≤ maxLen) (hz : ∀ s ∈ us, s.size ≤ maxLen) (h0 : 0 ≤ left) (h1 : left ≤ 1048576) :
    Calls Try.prog 121 #[.agg #[.string n, u], .int .i64 left] w fun e w' => e = .returned (.int .i64 (szN left (stmW ⟨n, us⟩))) ∧ Below w.heap.size w w' := by
  have hU := Shh.mk (hu.alloc (.cells #[.string n, u] 168))
  have hB0 := (Below.refl w.heap.size w).alloc (Nat.le_refl _) (.cells #[.string n, u] 168)
  have hW : stmW ⟨n, us⟩ = n.size + strsW us := rfl
  have HW := Shh.mk hW
  clear hW
  obtain ⟨ua, uc, rfl, -⟩ := hu
  unfold maxLen at hn
  by_cases hA : left - (n.size : Int) < 0
  · have HR := Shh.mk (szN_no (left := left) (n := stmW ⟨n, us⟩) (by rw [HW.out]; omega))
    go_enter Try.func121, Try.ntmps121
    go_wp2
    go_ret
    exact ⟨ret_i64 HR.out.symm, hB0⟩
  · by_cases hC : left - (n.size : Int) < ((strsW us : Nat) : Int)
    · have HR := Shh.mk (szN_no (left := left) (n := stmW ⟨n, us⟩) (by rw [HW.out]; omega))
      have HZ := Shh.mk (szN_no hC)
      clear hC
      go_enter Try.func121, Try.ntmps121
      go_wp2_with fail
      refine (szStringS_any (left - (n.size : Int)) _ hU.out hz (by omega) (by omega)).mono ?_
      rw [HZ.out]
      rintro e w' ⟨rfl, rfl⟩
      go_wp2
      go_ret
      exact ⟨ret_i64 HR.out.symm, hB0⟩
    · have HR := Shh.mk ((szN_yes (left := left) (n := stmW ⟨n, us⟩) (by rw [HW.out]; omega)).trans (show _ = left - (n.size : Int) - (strsW us : Nat) by rw [HW.out]; omega))
      have HZ := Shh.mk (szN_yes hC)
      have hnn : ¬ (left - (n.size : Int) - (strsW us : Nat) < 0) := by omega
      clear hC
      go_enter Try.func121, Try.ntmps121
      go_wp2_with fail
      refine (szStringS_any (left - (n.size : Int)) _ hU.out hz (by omega) (by omega)).mono ?_
      rw [HZ.out]
      rintro e w' ⟨rfl, rfl⟩
      go_wp2
      go_ret
      exact ⟨ret_i64 HR.out.symm, hB0⟩

set_option maxHeartbeats 1000000 in
theorem szStemS_any {v : Value} {xs : List Stm} (left : Int) (w : World) (h : Stms w v xs) (hz : ∀ x ∈ xs, StmFine x) (h0 : 0 ≤ left) (h1 : left ≤ 1048576) :
    Calls Try.prog 65 #[v, .int .i64 left] w fun e w' => e = .returned (.int .i64 (szN left (stmsW xs))) ∧ Below w.heap.size w w' := by
  obtain ⟨a, cap, rfl, hl, hm, hc⟩ := h
  unfold maxLen at hm
  by_cases hA : left - (xs.length : Int) < 0
  · have HR := hid (szN_no (left := left) (n := stmsW xs) (by unfold stmsW; omega))
    go_enter Try.func65, Try.ntmps65
    go_wp2
    go_ret
    exact ⟨ret_i64 HR.out.symm, Below.refl _ _⟩
  · obtain ⟨f, hf⟩ : ∃ f : Nat → Nat, (fun j => stmW (stmG xs j)) = f := ⟨_, rfl⟩
    have hW : stmsW xs = xs.length + sumTo f xs.length := by rw [← hf]; rfl
    have hfk : ∀ k, stmW (stmG xs k) = f k := fun k => by rw [← hf]
    have HW := Shh.mk hW
    have HF := Shh.mk hfk
    have HM := Shh.mk (fun k (hk : k ≤ xs.length) => sumTo_mono f hk)
    have HC := Shh.mk hc
    clear hf hW hfk hc
    go_enter Try.func65, Try.ntmps65
    go_wp2
    go_loopw [1, 5] (fun x i wr => ∃ k : Nat, k ≤ xs.length ∧ i = .int .i64 k ∧ x = .int .i64 (left - (xs.length : Int) - (sumTo f k : Nat)) ∧ 0 ≤ left - (xs.length : Int) - (sumTo f k : Nat) ∧ Below w.heap.size w wr) (fun _ i _ => xs.length - (intOf i).toNat)
    case atStart => exact ⟨0, Nat.zero_le _, rfl, by simp [sumTo], by simp [sumTo]; omega, Below.refl _ _⟩
    case round =>
      obtain ⟨k, hk, rfl, rfl, hp, hB⟩ := hrel
      by_cases hlt : k < xs.length
      · obtain ⟨b, off, rfl, hb, hcc⟩ := HC.out (by omega)
        have hA := StmIs.below (hcc k hlt) hB hb
        have hfine := hz _ (stmG_mem hlt)
        have hfz := HF.out k
        have hmm := HM.out (k + 1) (by omega)
        have hs1 : sumTo f (k + 1) = sumTo f k + f k := rfl
        obtain ⟨s, hs⟩ : ∃ s, stmG xs k = s := ⟨_, rfl⟩
        rw [hs] at hA hfine hfz
        obtain ⟨n, us⟩ := s
        obtain ⟨k0, u, k1, hu⟩ := hA
        obtain ⟨z0, z1⟩ := hfine
        simp only at k0 k1 hu z0 z1
        have hfz' : stmW ⟨n, us⟩ = f k := hfz
        have HU := Shh.mk hu
        obtain ⟨ua, uc, rfl, -⟩ := hu
        have HS1 := Shh.mk hs1
        have HFZ := Shh.mk hfz'
        obtain ⟨R, hR⟩ : ∃ R, left - (xs.length : Int) - (sumTo f k : Nat) = R := ⟨_, rfl⟩
        rw [hR] at hp
        by_cases hneg : R < ((stmW ⟨n, us⟩ : Nat) : Int)
        · have HR := Shh.mk (szN_no (left := left) (n := stmsW xs) (by rw [HW.out]; omega))
          have HZ := Shh.mk (szN_no hneg)
          clear hcc hs hfz hfz' hs1 hmm
          rw [hR]
          go_wp2_with fail
          refine (szStem_any n us R _ HU.out z0 z1 (by omega) (by omega)).mono ?_
          rw [HZ.out]
          rintro e w2 ⟨rfl, hb2⟩
          have hB2 := hB.trans (hb2.mono hB.size)
          go_wp2
          go_ret
          exact ⟨ret_i64 HR.out.symm, hB2⟩
        · have HZ := Shh.mk ((szN_yes hneg).trans (show _ = left - (xs.length : Int) - (sumTo f (k + 1) : Nat) by rw [hs1, ← hfz', ← hR]; omega))
          have hnn : ¬ (left - (xs.length : Int) - (sumTo f (k + 1) : Nat) < 0) := by rw [hs1, ← hfz']; omega
          clear hcc hs hfz hfz' hs1 hmm
          rw [hR]
          go_wp2_with fail
          refine (szStem_any n us R _ HU.out z0 z1 (by omega) (by omega)).mono ?_
          rw [HZ.out]
          rintro e w2 ⟨rfl, hb2⟩
          have hB2 := hB.trans (hb2.mono hB.size)
          go_wp2
          go_roundw
          case rel => exact ⟨k + 1, by omega, by go_num, rfl, by omega, hB2⟩
          case measure => simp [intOf]; omega
      · obtain rfl : k = xs.length := by omega
        have HR := Shh.mk ((szN_yes (left := left) (n := stmsW xs) (by rw [HW.out]; omega)).trans (show _ = left - (xs.length : Int) - (sumTo f xs.length : Nat) by rw [HW.out]; omega))
        go_wp2
        go_ret
        exact ⟨ret_i64 HR.out.symm, hB⟩

/-- The size of a grammar. -/
def gramW (xs : List Aff) (ss : List Stm) : Nat := affsW xs + stmsW ss
theorem szN_bound {left : Int} {n : Nat} (h : ¬ left < n) (h0 : left ≤ 1048576) : (n : Int) ≤ 1048576 := by omega
set_option maxHeartbeats 1000000 in
theorem szGrammar_any {va vs : Value} (xs : List Aff) (ss : List Stm) (left : Int) (w : World) (ha : Affs w va xs) (hs : Stms w vs ss) (hx : ∀ x ∈ xs, AffFine x) (hy : ∀ x ∈ ss, StmFine x) (h0 : 0 ≤ left) (h1 : left ≤ 1048576) :
    Calls Try.prog 20 #[.agg #[va, vs], .int .i64 left] w fun e w' => e = .returned (.int .i64 (szN left (gramW xs ss))) ∧ Below w.heap.size w w' := by
  have HA := Shh.mk (ha.alloc (.cells #[va, vs] 39))
  have HS := Shh.mk (hs.alloc (.cells #[va, vs] 39))
  have hB0 := (Below.refl w.heap.size w).alloc (Nat.le_refl _) (.cells #[va, vs] 39)
  have P0 := Shh.mk (Blk.made w 39 #[va, vs])
  have hW : gramW xs ss = affsW xs + stmsW ss := rfl
  have HW := Shh.mk hW
  clear hW
  obtain ⟨aa, ac, rfl, -⟩ := ha
  obtain ⟨sa, sc, rfl, -⟩ := hs
  by_cases hA : left < ((affsW xs : Nat) : Int)
  · have HR := Shh.mk (szN_no (left := left) (n := gramW xs ss) (by rw [HW.out]; omega))
    have HZ := Shh.mk (szN_no hA)
    clear hA
    go_enter Try.func20, Try.ntmps20
    go_wp2_with fail
    refine (szAffixS_any left _ HA.out hx h0 h1).mono ?_
    rw [HZ.out]
    rintro e w1 ⟨rfl, hb1⟩
    go_wp2
    go_ret
    exact ⟨ret_i64 HR.out.symm, hB0.trans (hb1.mono hB0.size)⟩
  · have HZ := Shh.mk (szN_yes hA)
    have hnn : ¬ (left - ((affsW xs : Nat) : Int) < 0) := by omega
    by_cases hC : left - ((affsW xs : Nat) : Int) < ((stmsW ss : Nat) : Int)
    · have HR := Shh.mk (szN_no (left := left) (n := gramW xs ss) (by rw [HW.out]; omega))
      have HY := Shh.mk (szN_no hC)
      clear hC
      go_enter Try.func20, Try.ntmps20
      go_wp2_with fail
      refine (szAffixS_any left _ HA.out hx h0 h1).mono ?_
      rw [HZ.out]
      rintro e w1 ⟨rfl, hb1⟩
      have hB1 := hB0.trans (hb1.mono hB0.size)
      have c1 := (P0.out.kept hb1 P0.out.lt).cells
      go_wp2_with fail
      refine (szStemS_any _ _ (HS.out.below hb1) hy (by omega) (by omega)).mono ?_
      rw [HY.out]
      rintro e w2 ⟨rfl, hb2⟩
      go_wp2
      go_ret
      exact ⟨ret_i64 HR.out.symm, hB1.trans (hb2.mono hB1.size)⟩
    · have HR := Shh.mk ((szN_yes (left := left) (n := gramW xs ss) (by rw [HW.out]; omega)).trans (show _ = left - ((affsW xs : Nat) : Int) - ((stmsW ss : Nat) : Int) by rw [HW.out]; omega))
      have HY := Shh.mk (szN_yes hC)
      have hn2 : ¬ (left - ((affsW xs : Nat) : Int) - ((stmsW ss : Nat) : Int) < 0) := by omega
      clear hC
      go_enter Try.func20, Try.ntmps20
      go_wp2_with fail
      refine (szAffixS_any left _ HA.out hx h0 h1).mono ?_
      rw [HZ.out]
      rintro e w1 ⟨rfl, hb1⟩
      have hB1 := hB0.trans (hb1.mono hB0.size)
      have c1 := (P0.out.kept hb1 P0.out.lt).cells
      go_wp2_with fail
      refine (szStemS_any _ _ (HS.out.below hb1) hy (by omega) (by omega)).mono ?_
      rw [HY.out]
      rintro e w2 ⟨rfl, hb2⟩
      go_wp2
      go_ret
      exact ⟨ret_i64 HR.out.symm, hB1.trans (hb2.mono hB1.size)⟩
end Go.Proofs.Ytilagppmljpclaa
