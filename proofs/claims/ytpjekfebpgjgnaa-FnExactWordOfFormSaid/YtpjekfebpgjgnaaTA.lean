/-
  Strings turned round: the model's l08Back and the program's reversed.
-/
import Derived.Test.YtpjekfebpgjgnaaS1
import Derived.Test.YtpjekfebpgjgnaaQ1
import Derived.Shelf.RegionOpenPlain
import Derived.Deep.LoopGhost
import Derived.Lib.Walk
import Derived.Sort.WalkB12
import Derived.Lib.SlicesMore
import Derived.Laws.IdiomStrings
import Derived.Laws.AppendOwn
namespace Go.Proofs.Ytpjekfebpgjgnaa
open Go.RowKit Go.Lib Go.Sort

structure ShR (p : Prop) : Prop where
  out : p
/-- A string turned round. -/
def backS (s : ByteArray) : ByteArray := ⟨s.data.reverse⟩
theorem backS_list (s : ByteArray) : (backS s).data.toList = s.data.toList.reverse := by simp [backS]
theorem backS_size (s : ByteArray) : (backS s).size = s.size := by
  show s.data.reverse.size = s.data.size
  exact Array.size_reverse
theorem backS_back (s : ByteArray) : backS (backS s) = s := by simp [backS]
def encU (c : UInt8) : Value := .int .u8 (c.toNat : Int)

set_option maxHeartbeats 1600000 in
set_option maxRecDepth 1000000 in
theorem reverseB_any (blk cap : Nat) (d : Array UInt8) (w : World) (hH : Holds encU w blk 0 d) (hsz : d.size ≤ 9223372036854775807) :
    Calls Try.prog 165 #[.slice (some ⟨blk, 0, none⟩) d.size cap] w fun e w' => e = .returned (.tuple #[]) ∧ ∃ n, w' = putRow encU (Sort.ahead w n) blk 0 d.reverse := by
  have mixed : Try.prog.follows .mixedOrders = true := by kernel_rfl
  go_enter Try.func165, Try.ntmps165
  go_wp2
  go_loopg [2, 3] d.size (fun k s2 s3 wr => ∃ (i jn : Nat) (jz : Int) (dk : Array UInt8) (n : Nat), s2 = .int .i64 i ∧ s3 = .int .i64 jz ∧ ((i : Int) < jz → jz = jn ∧ jn < d.size) ∧ (¬ (i : Int) < jz → ¬ i < jn) ∧ jn - i ≤ k ∧
    dk.size = d.size ∧ wr = putRow encU (Sort.ahead w n) blk 0 dk ∧ reverseLoop i jn dk = reverseLoop 0 (d.size - 1) d)
  case atStart => exact ⟨0, d.size - 1, (d.size : Int) - 1, d, 0, rfl, rfl, fun h => ⟨by omega, by omega⟩, fun h => by omega, by omega, rfl, (putRow_self encU w blk 0 d hH).symm, rfl⟩
  case round =>
    obtain ⟨i, jn, jz, dk, n, rfl, rfl, h1, h2, hk, hds, hwr, heq⟩ := hrel
    by_cases hlt : (i : Int) < jz
    · obtain ⟨rfl, hjn⟩ := h1 hlt
      have hij : i < jn := by omega
      have hid : i < d.size := by omega
      have hHk : Holds encU wr blk 0 dk := by rw [hwr]; exact holds_putRow encU _ blk 0 d dk (holds_ahead encU w n blk 0 d hH) hds
      obtain ⟨ci, fi⟩ := hHk i (by omega)
      obtain ⟨cj, fj⟩ := hHk jn (by omega)
      rw [Nat.zero_add] at ci fi cj fj
      have A : ShR (wr = putRow encU (Sort.ahead w n) blk 0 dk) := ⟨hwr⟩
      have HEQ := ShR.mk heq
      clear hwr hHk hH h1 h2 heq
      unfold encU at ci cj
      go_wp2_with fail
      go_region_o
      go_wp2
      go_roundg (jn - 1 - (i + 1))
      case measure => omega
      case rel =>
        have heq := HEQ.out
        rw [reverseLoop, if_pos hij] at heq
        exact ⟨i + 1, jn - 1, (jn : Int) - 1, swp dk i jn, n + 1, by simp, rfl, fun h => ⟨by omega, by omega⟩, fun h => by omega, Nat.le_refl _, by rw [size_swp]; exact hds,
          (by
            rw [show (⟨blk, i, none⟩ : Addr) = ⟨blk, 0 + i, none⟩ by rw [Nat.zero_add], show (⟨blk, jn, none⟩ : Addr) = ⟨blk, 0 + jn, none⟩ by rw [Nat.zero_add]]
            exact swap_world encU (by omega) (by omega) A.out (by first | rfl | simp [encU, getElem!_pos, show jn < dk.size by omega]) (by first | rfl | simp [encU, getElem!_pos, show i < dk.size by omega])), heq⟩
    · have hnot := h2 hlt
      go_wp2
      go_end0
      refine ⟨rfl, n, ?_⟩
      rw [reverseLoop, if_neg hnot] at heq
      rw [← Lib.reverseLoop_reverse, ← heq]

theorem holds_conv (w : World) (s : ByteArray) (cap : Nat) : Holds encU (w.drew.alloc (.cells (bytesRow s cap) 5 ((bytesRow s cap).size, (bytesRow s cap).size + 1))) w.heap.size 0 s.data := by
  intro j hj
  have hb : (w.drew.alloc (.cells (bytesRow s cap) 5 ((bytesRow s cap).size, (bytesRow s cap).size + 1))).heap[w.heap.size]? = some (.cells (bytesRow s cap) 5 ((bytesRow s cap).size, (bytesRow s cap).size + 1)) := heap_alloc_new w.drew _
  have hsz : s.data.size ≤ (bytesRow s cap).size := by
    unfold bytesRow
    rw [Array.size_append, Array.size_map]
    omega
  obtain ⟨W, hW⟩ : ∃ W, (w.drew.alloc (.cells (bytesRow s cap) 5 ((bytesRow s cap).size, (bytesRow s cap).size + 1))) = W := ⟨_, rfl⟩
  rw [hW] at hb ⊢
  constructor
  · rw [Nat.zero_add, cell_of_row _ _ _ _ _ _ hb]
    unfold bytesRow
    rw [Array.getElem?_append_left (by simpa using hj), Array.getElem?_map, Array.getElem?_eq_getElem hj, getElem!_pos s.data j hj]
    rfl
  · simp [World.frozen?, hb]
    omega
theorem conv_holds {w : World} {g cap : Nat} {d : Array UInt8} (h : Holds encU w g 0 d) : (convert 22 9 (.slice (some ⟨g, 0, none⟩) d.size cap)).run Try.prog w = .ok (.string ⟨d⟩) w := by
  have h2 := run_convert_bytes_back w 22 9 5 ⟨g, 0, none⟩ cap d.toList Try.underlying22 Try.underlying5 Try.underlying9 (fun j hj => by
    have hj' : j < d.size := by simpa using hj
    have e : (⟨g, 0, none⟩ : Addr).add j = ⟨g, j, none⟩ := by unfold Addr.add; split <;> simp_all
    rw [e]
    have := (h j hj').1
    rw [Nat.zero_add] at this
    rw [this, getElem!_pos d j hj']
    rfl)
  rw [show d.toList.length = d.size by simp] at h2
  exact h2
theorem below_put {B : Nat} {a w : World} {g n : Nat} {d : Array UInt8} (h : Below B a w) (hg : B ≤ g) : Below B a (putRow encU (Sort.ahead w n) g 0 d) :=
  ⟨h.os, h.tape, h.output, by rw [size_putRow]; exact h.size, fun k hk => by
    rw [← h.block k hk]
    have : g ≠ k := by omega
    simp [putRow, mapBlock, Sort.ahead, Array.getElem?_modify, this]⟩
set_option maxRecDepth 100000 in
set_option maxHeartbeats 1000000 in
theorem reversed_any (s : ByteArray) (w : World) (hs : s.size ≤ 1048576) : Calls Try.prog 124 #[.string s] w fun e w' => e = .returned (.string (backS s)) ∧ Below w.heap.size w w' := by
  have hcv := run_bytes_of_string (P := Try.prog) w 9 22 5 s Try.underlying9 Try.underlying22 Try.underlying5
  have hH := holds_conv w s (grownCap w s.size 0 5)
  have hB := ((Below.refl w.heap.size w).drew).alloc (Nat.le_refl _) (.cells (bytesRow s (grownCap w s.size 0 5)) 5 ((bytesRow s (grownCap w s.size 0 5)).size, (bytesRow s (grownCap w s.size 0 5)).size + 1))
  obtain ⟨W, hW⟩ : ∃ W, w.drew.alloc (.cells (bytesRow s (grownCap w s.size 0 5)) 5 ((bytesRow s (grownCap w s.size 0 5)).size, (bytesRow s (grownCap w s.size 0 5)).size + 1)) = W := ⟨_, rfl⟩
  rw [hW] at hcv hH hB
  obtain ⟨cap, hcap⟩ : ∃ cap, grownCap w s.size 0 5 = cap := ⟨_, rfl⟩
  rw [hcap] at hcv
  have HH := ShR.mk hH
  have HB := ShR.mk hB
  have hds : s.data.size = s.size := rfl
  have HRV := ShR.mk (fun W' h => reverseB_any w.heap.size cap s.data W' h (by omega))
  clear hW hH hB hcap
  go_enter Try.func124, Try.ntmps124
  go_wp2_with fail
  refine (HRV.out _ HH.out).mono ?_
  rintro e w2 ⟨rfl, n, rfl⟩
  have hcv2 := conv_holds (cap := cap) (holds_putRow encU (Sort.ahead W n) w.heap.size 0 s.data s.data.reverse (holds_ahead encU W n w.heap.size 0 s.data HH.out) (by simp))
  rw [show s.data.reverse.size = s.size from Array.size_reverse] at hcv2
  have HB2 := ShR.mk (below_put (n := n) (d := s.data.reverse) HB.out (Nat.le_refl _))
  obtain ⟨W2, hW2⟩ : ∃ W2, putRow encU (Sort.ahead W n) w.heap.size 0 s.data.reverse = W2 := ⟨_, rfl⟩
  rw [hW2] at hcv2 HB2 ⊢
  clear hcv hW2
  go_wp2
  go_ret
  exact ⟨rfl, HB2.out⟩

theorem turn_step (s : ByteArray) (k : Nat) (h : k < s.size) : s.data.toList.reverse.take (k + 1) = s.data.toList.reverse.take k ++ [s[s.size - 1 - k]'(by omega)] := by
  have hl : k < s.data.toList.reverse.length := by simpa using h
  rw [List.take_succ_eq_append_getElem hl, List.getElem_reverse]
  congr 2
set_option maxHeartbeats 1000000 in
theorem l08Back_any (s : ByteArray) (w : World) (hs : s.size ≤ 1048576) : Calls Try.prog 159 #[.string s] w fun e w' => e = .returned (.string (backS s)) ∧ Below w.heap.size w w' := by
  obtain ⟨i0, hi, hz0, hz1, hz2⟩ := info_parts info8Q
  have HI := ShR.mk hi
  clear hi
  go_enter Try.func159, Try.ntmps159
  go_wp2
  go_loopw [3, 4] (fun v i wr => ∃ k : Nat, k ≤ s.size ∧ i = .int .i64 ((s.size : Int) - 1 - (k : Int)) ∧ ShR (OwnB w.heap.size wr v (s.data.toList.reverse.take k)) ∧ ShR (Below w.heap.size w wr)) (fun _ i _ => (RowKit.intOf i + 1).toNat)
  case atStart => exact ⟨0, Nat.zero_le _, by simp, ⟨World.ownsRow_lit w _ 0 (Nat.le_refl _) (by unfold maxLen; omega) rfl⟩, ⟨(Below.refl _ _).alloc (Nat.le_refl _) _⟩⟩
  case round =>
    obtain ⟨k, hk, rfl, ho, hb⟩ := hrel
    by_cases hlt : k < s.size
    · have hix : ∃ j : Nat, j < s.size ∧ (s.size : Int) - 1 - (k : Int) = (j : Int) ∧ j = s.size - 1 - k := ⟨s.size - 1 - k, by omega, by omega, rfl⟩
      obtain ⟨j, hj, hje, hjj⟩ := hix
      have HST := ShR.mk (show s.data.toList.reverse.take (k + 1) = s.data.toList.reverse.take k ++ [s[j]'hj] by rw [turn_step s k hlt]; subst hjj; rfl)
      have hll : (s.data.toList.reverse.take k).length = k := by simp; omega
      have HLN := ShR.mk hll
      have HJE := ShR.mk hje
      have HJJ := ShR.mk hjj
      rw [hje]
      obtain ⟨L, hL⟩ : ∃ L, s.data.toList.reverse.take k = L := ⟨_, rfl⟩
      rw [hL] at ho HST HLN
      have hj0 : (0 : Int) ≤ (j : Int) := by omega
      clear hje hjj hll hL
      go_wp2_with (at_builtin; refine wpList_append_own _ rfl _ _ 22 rfl w.heap.size 5 i0 (.int .u8 0) 1 1 Try.underlying22 HI.out hz0 hz1 hz2 rfl (by decide) _ _ _ rfl (World.ownsRow.alloc ho.out _) ⟨wr.heap.size, 0, none⟩ 1 1 [.int .u8 ((s[j]'hj).toNat : Int)] rfl rfl ?c1 ?c2 ?c3 ?c4 ?c5 ?_)
      case c1 => exact cell_one_new _ _ _
      case c2 => intro u hu; simp at hu; subst hu; rfl
      case c3 => have h1 := HLN.out; have h2 := Lib.byteCells_length L; unfold maxLen; omega
      case c4 => have h1 := HLN.out; have h2 := Lib.byteCells_length L; omega
      case c5 => have := hb.out.size; simp; omega
      intro v' w2 hown' hgrow _
      have HO := ShR.mk (show OwnB w.heap.size w2 v' (s.data.toList.reverse.take (k + 1)) by
        rw [HST.out]
        unfold OwnB
        rw [← byte_cells_snoc, List.length_append]
        exact hown')
      have HB := ShR.mk ((hb.out.alloc hb.out.size (.cells #[.int .u8 ((s[j]'hj).toNat : Int)] 5)).grown hgrow (by have := hb.out.size; simp; omega) (own_blockQ ho.out))
      clear hown' hgrow
      go_wp2
      go_roundw
      case rel => exact ⟨k + 1, by omega, by have := HJE.out; exact congrArg (Value.int IntKind.i64) (by omega), HO, HB⟩
      case measure => have := HJE.out; simp [RowKit.intOf] <;> omega
    · obtain rfl : k = s.size := by omega
      have hng : ¬ (0 : Int) ≤ (s.size : Int) - 1 - (s.size : Int) := by omega
      have hcv := conv_rowQ ho.out
      have HL := ShR.mk (show (⟨(s.data.toList.reverse.take s.size).toArray⟩ : ByteArray) = backS s by
        rw [List.take_of_length_le (by simp)]
        apply Go.WideShapes.bytes_inj
        rw [backS_list])
      rw [HL.out] at hcv
      obtain ⟨Z, hZ⟩ : ∃ Z : Int, (s.size : Int) - 1 - (s.size : Int) = Z := ⟨_, rfl⟩
      rw [hZ] at hng ⊢
      go_wp2
      go_ret
      exact ⟨rfl, hb.out⟩
end Go.Proofs.Ytpjekfebpgjgnaa
