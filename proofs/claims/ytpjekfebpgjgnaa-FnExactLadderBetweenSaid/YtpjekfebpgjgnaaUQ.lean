/-
  A list of strings turned round in its place.
-/
import Derived.Test.YtpjekfebpgjgnaaUP
import Derived.Shelf.RegionOpenPlain
import Derived.Deep.LoopGhost
import Derived.Lib.Walk
import Derived.Sort.WalkB12
import Derived.Sort.EncStr
import Derived.Lib.SlicesMore
import Derived.Sort.OwnSorted
import Derived.Lib.OwnBridge
namespace Go.Proofs.Ytpjekfebpgjgnaa
open Go.RowKit Go.Lib Go.Sort

set_option maxHeartbeats 1600000 in
set_option maxRecDepth 1000000 in
theorem reverseT_any (blk cap : Nat) (d : Array (List UInt8)) (w : World) (hH : Holds encStr w blk 0 d) (hsz : d.size ≤ 9223372036854775807) :
    Calls Try.prog 93 #[.slice (some ⟨blk, 0, none⟩) d.size cap] w fun e w' => e = .returned (.tuple #[]) ∧ ∃ n, w' = putRow encStr (Sort.ahead w n) blk 0 d.reverse := by
  have mixed : Try.prog.follows .mixedOrders = true := by kernel_rfl
  go_enter Try.func93, Try.ntmps93
  go_wp2
  go_loopg [2, 3] d.size (fun k s2 s3 wr => ∃ (i jn : Nat) (jz : Int) (dk : Array (List UInt8)) (n : Nat), s2 = .int .i64 i ∧ s3 = .int .i64 jz ∧ ((i : Int) < jz → jz = jn ∧ jn < d.size) ∧ (¬ (i : Int) < jz → ¬ i < jn) ∧ jn - i ≤ k ∧
    dk.size = d.size ∧ wr = putRow encStr (Sort.ahead w n) blk 0 dk ∧ reverseLoop i jn dk = reverseLoop 0 (d.size - 1) d)
  case atStart => exact ⟨0, d.size - 1, (d.size : Int) - 1, d, 0, rfl, rfl, fun h => ⟨by omega, by omega⟩, fun h => by omega, by omega, rfl, (putRow_self encStr w blk 0 d hH).symm, rfl⟩
  case round =>
    obtain ⟨i, jn, jz, dk, n, rfl, rfl, h1, h2, hk, hds, hwr, heq⟩ := hrel
    by_cases hlt : (i : Int) < jz
    · obtain ⟨rfl, hjn⟩ := h1 hlt
      have hij : i < jn := by omega
      have hid : i < d.size := by omega
      have hHk : Holds encStr wr blk 0 dk := by rw [hwr]; exact holds_putRow encStr _ blk 0 d dk (holds_ahead encStr w n blk 0 d hH) hds
      obtain ⟨ci, fi⟩ := hHk i (by omega)
      obtain ⟨cj, fj⟩ := hHk jn (by omega)
      rw [Nat.zero_add] at ci fi cj fj
      have A : ShE (wr = putRow encStr (Sort.ahead w n) blk 0 dk) := ⟨hwr⟩
      have HEQ := ShE.mk heq
      clear hwr hHk hH h1 h2 heq
      go_wp2_with fail
      go_region_o
      go_wp2
      go_roundg (jn - 1 - (i + 1))
      case measure => omega
      case rel =>
        have heq := HEQ.out
        rw [reverseLoop, if_pos hij] at heq
        exact ⟨i + 1, jn - 1, (jn : Int) - 1, swp dk i jn, n + 1, by simp, rfl, fun h => ⟨by omega, by omega⟩, fun h => by omega, Nat.le_refl _, by rw [size_swp]; exact hds,
          (by
            rw [show (⟨blk, i, none⟩ : Addr) = ⟨blk, 0 + i, none⟩ by rw [Nat.zero_add], show (⟨blk, jn, none⟩ : Addr) = ⟨blk, 0 + jn, none⟩ by rw [Nat.zero_add]]
            exact swap_world encStr (by omega) (by omega) A.out (by first | rfl | simp [encStr, getElem!_pos, show jn < dk.size by omega]) (by first | rfl | simp [encStr, getElem!_pos, show i < dk.size by omega])), heq⟩
    · have hnot := h2 hlt
      go_wp2
      go_end0
      refine ⟨rfl, n, ?_⟩
      rw [reverseLoop, if_neg hnot] at heq
      rw [← Lib.reverseLoop_reverse, ← heq]

theorem encM (ss : List ByteArray) : (ss.map bytesOf).map encStr = ss.map Value.string := Lib.map_encStr ss
/-- slices.Reverse on a row of the call's own. -/
theorem backOwn_any {B : Nat} {w : World} {v : Value} {ss : List ByteArray} (h : OwnS B w v ss) (hp : 0 < ss.length) (hn : ss.length ≤ 1048577) :
    Calls Try.prog 93 #[v] w fun e w' => e = .returned (.tuple #[]) ∧ OwnS B w' v ss.reverse ∧ w.grownBy w' v.ownBlock := by
  have he : w.ownsRow B 9 1 v ss.length ((ss.map bytesOf).map encStr) := by rw [encM]; exact h
  have hv : v ≠ .slice none 0 0 := fun e => by
    obtain ⟨a, cap, e2, -⟩ := own_form h
    rw [e] at e2
    injection e2 with _ e2 _
    omega
  obtain ⟨g, cap, rfl, hbg, hgl, hnc, hcm, hlen, hH⟩ := Lib.holds_of_ownsRow he hv
  rcases h.2 with ⟨e0, _⟩ | ⟨g', cap', cur, e0, hb, hg, h1, h2, h3, h4⟩
  · exact absurd e0 hv
  · cases e0
    have hs := reverseT_any g cap (ss.map bytesOf).toArray w hH (by simp; omega)
    rw [show (ss.map bytesOf).toArray.size = ss.length by simp] at hs
    refine hs.mono ?_
    rintro e w' ⟨he, n, rfl⟩
    have e2 : ∀ W : World, grow W #[] = W := fun W => by simp [grow]
    have ho := ownsRow_sorted (n := n) (os := #[]) (ss := ss.map bytesOf) (ts := (ss.map bytesOf).reverse) (by simp) hb hg (by rw [hlen]; exact h1) h2 h3
    have hgr := grownBy_sorted (w := w) (g := g) (n := n) (os := #[]) (ss.map bytesOf).reverse.toArray
    rw [e2, hlen] at ho
    rw [e2] at hgr
    rw [List.reverse_toArray]
    refine ⟨he, ?_, hgr⟩
    unfold OwnS
    rw [List.length_reverse, ← encM, List.map_reverse]
    exact ho
end Go.Proofs.Ytpjekfebpgjgnaa
