/-
  The laws' helpers on grammars: sizes.
-/
import Derived.Test.YtilagppmljpclaaH1
import Derived.Test.YtilagppmljpclaaF2
namespace Go.Proofs.Ytilagppmljpclaa
open Go.RowKit

def affW (x : Aff) : Nat := x.n.size + x.w.size + x.s.size + x.a.size
def affsW (xs : List Aff) : Nat := xs.length + sumTo (fun j => affW (affG xs j)) xs.length
def stmW (x : Stm) : Nat := x.word.size + strsW x.uses
def stmsW (ss : List Stm) : Nat := ss.length + sumTo (fun j => stmW (stmG ss j)) ss.length
theorem affG_mem {ss : List Aff} {k : Nat} (h : k < ss.length) : affG ss k ∈ ss := by
  unfold affG
  rw [List.getD_eq_getElem?_getD, List.getElem?_eq_getElem h]
  exact List.getElem_mem _
theorem stmG_mem {ss : List Stm} {k : Nat} (h : k < ss.length) : stmG ss k ∈ ss := by
  unfold stmG
  rw [List.getD_eq_getElem?_getD, List.getElem?_eq_getElem h]
  exact List.getElem_mem _


set_option maxHeartbeats 1000000 in
theorem szAffixS_any {v : Value} {xs : List Aff} (left : Int) (w : World) (h : Affs w v xs) (hz : ∀ x ∈ xs, AffFine x) (h0 : 0 ≤ left) (h1 : left ≤ 1048576) :
    Calls Try.prog 64 #[v, .int .i64 left] w fun e w' => e = .returned (.int .i64 (szN left (affsW xs))) ∧ Below w.heap.size w w' := by
  obtain ⟨a, cap, rfl, hl, hm, hc⟩ := h
  unfold maxLen at hm
  by_cases hA : left - (xs.length : Int) < 0
  · have HR := hid (szN_no (left := left) (n := affsW xs) (by unfold affsW; omega))
    go_enter Try.func64, Try.ntmps64
    go_wp2
    go_ret
    exact ⟨ret_i64 HR.out.symm, Below.refl _ _⟩
  · obtain ⟨f, hf⟩ : ∃ f : Nat → Nat, (fun j => affW (affG xs j)) = f := ⟨_, rfl⟩
    have hW : affsW xs = xs.length + sumTo f xs.length := by rw [← hf]; rfl
    have hfk : ∀ k, affW (affG xs k) = f k := fun k => by rw [← hf]
    have HW := Shh.mk hW
    have HF := Shh.mk hfk
    have HM := Shh.mk (fun k (hk : k ≤ xs.length) => sumTo_mono f hk)
    have HC := Shh.mk hc
    clear hf hW hfk hc
    go_enter Try.func64, Try.ntmps64
    go_wp2
    go_loopw [1, 5] (fun x i wr => ∃ k : Nat, k ≤ xs.length ∧ i = .int .i64 k ∧ x = .int .i64 (left - (xs.length : Int) - (sumTo f k : Nat)) ∧ 0 ≤ left - (xs.length : Int) - (sumTo f k : Nat) ∧ Below w.heap.size w wr) (fun _ i _ => xs.length - (intOf i).toNat)
    case atStart => exact ⟨0, Nat.zero_le _, rfl, by simp [sumTo], by simp [sumTo]; omega, Below.refl _ _⟩
    case round =>
      obtain ⟨k, hk, rfl, rfl, hp, hB⟩ := hrel
      by_cases hlt : k < xs.length
      · obtain ⟨b, off, rfl, hb, hcc⟩ := HC.out (by omega)
        have hA := AffAt.below (hcc k hlt) hB hb
        have hfine := hz _ (affG_mem hlt)
        have hfz := HF.out k
        have hmm := HM.out (k + 1) (by omega)
        have hs1 : sumTo f (k + 1) = sumTo f k + f k := rfl
        obtain ⟨s, hs⟩ : ∃ s, affG xs k = s := ⟨_, rfl⟩
        rw [hs] at hA hfine hfz
        obtain ⟨n, fr, ww, st, ad⟩ := s
        obtain ⟨k0, k1, k2, k3, k4⟩ := hA
        obtain ⟨z0, z1, z2, z3⟩ := hfine
        simp only at k0 k1 k2 k3 k4 z0 z1 z2 z3
        have hfz' : n.size + ww.size + st.size + ad.size = f k := hfz
        have HS1 := Shh.mk hs1
        have HFZ := Shh.mk hfz'
        obtain ⟨R, hR⟩ : ∃ R, left - (xs.length : Int) - (sumTo f k : Nat) = R := ⟨_, rfl⟩
        rw [hR] at hp
        by_cases hneg : R < ((n.size + ww.size + st.size + ad.size : Nat) : Int)
        · have HR := Shh.mk (szN_no (left := left) (n := affsW xs) (by rw [HW.out]; omega))
          have HZ := Shh.mk (szN_no hneg)
          clear hcc hs hfz hfz' hs1 hmm
          rw [hR]
          go_wp2_with fail
          refine (szAffix_any fr n ww st ad R _ z0 z1 z2 z3 (by omega) (by omega)).mono ?_
          rw [HZ.out]
          rintro e w2 ⟨rfl, hb2⟩
          have hB2 := hB.trans (hb2.mono hB.size)
          go_wp2
          go_ret
          exact ⟨ret_i64 HR.out.symm, hB2⟩
        · have HZ := Shh.mk ((szN_yes hneg).trans (show _ = left - (xs.length : Int) - (sumTo f (k + 1) : Nat) by rw [hs1, ← hfz', ← hR]; omega))
          have hnn : ¬ (left - (xs.length : Int) - (sumTo f (k + 1) : Nat) < 0) := by rw [hs1, ← hfz']; omega
          clear hcc hs hfz hfz' hs1 hmm
          rw [hR]
          go_wp2_with fail
          refine (szAffix_any fr n ww st ad R _ z0 z1 z2 z3 (by omega) (by omega)).mono ?_
          rw [HZ.out]
          rintro e w2 ⟨rfl, hb2⟩
          have hB2 := hB.trans (hb2.mono hB.size)
          go_wp2
          go_roundw
          case rel => exact ⟨k + 1, by omega, by go_num, rfl, by omega, hB2⟩
          case measure => simp [intOf]; omega
      · obtain rfl : k = xs.length := by omega
        have HR := Shh.mk ((szN_yes (left := left) (n := affsW xs) (by rw [HW.out]; omega)).trans (show _ = left - (xs.length : Int) - (sumTo f xs.length : Nat) by rw [HW.out]; omega))
        go_wp2
        go_ret
        exact ⟨ret_i64 HR.out.symm, hB⟩
end Go.Proofs.Ytilagppmljpclaa
