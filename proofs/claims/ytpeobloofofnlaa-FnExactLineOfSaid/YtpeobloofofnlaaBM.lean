/-
  A field of squares in memory: fieldOf.
-/
import Derived.Test.YtpeobloofofnlaaBE
import Derived.Lib.BufferWrite
import Derived.Deep.RegionLaw
namespace Go.Proofs.Ytpeobloofofnlaa
open Go.RowKit

/-- The cells of a field. -/
def fieldL (N : Nat) (f : Nat → Nat → UInt8) : List Value := .int .i64 (N : Int) :: (List.range 225).map fun k => .int .u8 ((f (k / 15) (k % 15)).toNat : Int)
def fieldA (N : Nat) (f : Nat → Nat → UInt8) : Array Value := (fieldL N f).toArray
theorem fieldL_len (N : Nat) (f : Nat → Nat → UInt8) : (fieldL N f).length = 226 := by simp [fieldL]
theorem fieldA_size (N : Nat) (f : Nat → Nat → UInt8) : (fieldA N f).size = 226 := by unfold fieldA; rw [List.size_toArray, fieldL_len]
theorem fieldL_succ (N : Nat) (f : Nat → Nat → UInt8) (k : Nat) : (fieldL N f)[k + 1]? = if k < 225 then some (.int .u8 ((f (k / 15) (k % 15)).toNat : Int)) else none := by
  unfold fieldL
  rw [List.getElem?_cons_succ, List.getElem?_map]
  by_cases h : k < 225
  · rw [List.getElem?_range h, if_pos h]; rfl
  · rw [List.getElem?_eq_none (by simp; omega), if_neg h]; rfl
theorem fieldA_at (N : Nat) (f : Nat → Nat → UInt8) {r c o : Nat} (hr : r < 15) (hc : c < 15) (ho : o = 1 + (r * 15 + c)) : (fieldA N f)[o]? = some (.int .u8 ((f r c).toNat : Int)) := by
  subst ho
  unfold fieldA
  rw [List.getElem?_toArray, Nat.add_comm, fieldL_succ, if_pos (by omega), div_row hc, mod_row hc]
theorem fieldA_zero (N : Nat) (f : Nat → Nat → UInt8) : (fieldA N f)[0]? = some (.int .i64 (N : Int)) := by unfold fieldA fieldL; rfl
theorem fieldL_congr {N : Nat} {f g : Nat → Nat → UInt8} (h : ∀ r c, r < 15 → c < 15 → f r c = g r c) : fieldL N f = fieldL N g := by
  unfold fieldL
  congr 1
  refine List.map_congr_left fun k hk => ?_
  have := List.mem_range.1 hk
  rw [h (k / 15) (k % 15) (by omega) (by omega)]
theorem fieldA_one (N : Nat) (f : Nat → Nat → UInt8) : (fieldA N f).all (·.oneCell') = true := by
  rw [Array.all_eq_true_iff_forall_mem]
  intro v hv
  unfold fieldA fieldL at hv
  rw [List.mem_toArray, List.mem_cons, List.mem_map] at hv
  rcases hv with rfl | ⟨k, -, rfl⟩ <;> rfl
theorem field_info (N : Nat) (f : Nat → Nat → UInt8) : (Try.prog.info? 133).map (·.size) = some (fieldA N f).size := by
  rw [fieldA_size]
  kernel_rfl
theorem zero133 : Try.zeroCells133 = fieldA 0 fun _ _ => 0 := by kernel_rfl
theorem zero133_size : Try.zeroCells133.size = 226 := by rw [zero133, fieldA_size]
/-- The first m rows of squares. -/
def partF (s : ByteArray) (N m : Nat) : Nat → Nat → UInt8 := fun r c => if r < m ∧ c < N then atB s (r * N + c) else 0
theorem field_start (s : ByteArray) (N : Nat) : Try.zeroCells133.setIfInBounds 0 (.int .i64 (N : Int)) = fieldA N (partF s N 0) := by
  rw [zero133]
  have : fieldL N (partF s N 0) = fieldL N fun _ _ => 0 := fieldL_congr fun r c _ _ => by unfold partF; rw [if_neg]; omega
  unfold fieldA
  rw [this, List.setIfInBounds_toArray]
  unfold fieldL
  rw [List.set_cons_zero]
theorem splice_get {α : Type} (L B : List α) (o : Nat) (h : o + B.length ≤ L.length) (i : Nat) :
    (L.take o ++ B ++ L.drop (o + B.length))[i]? = if i < o then L[i]? else if i < o + B.length then B[i - o]? else L[i]? := by
  have h0 : (L.take o).length = o := by rw [List.length_take]; omega
  by_cases h1 : i < o
  · rw [if_pos h1, List.append_assoc, List.getElem?_append_left (by omega), List.getElem?_take_of_lt h1]
  · rw [if_neg h1]
    by_cases h2 : i < o + B.length
    · rw [if_pos h2, List.append_assoc, List.getElem?_append_right (by omega), h0, List.getElem?_append_left (by omega)]
    · rw [if_neg h2, List.getElem?_append_right (by rw [List.length_append]; omega), List.length_append, h0, List.getElem?_drop]
      congr 1
      omega
/-- The bytes of row m, as cells. -/
def rowV (s : ByteArray) (N m : Nat) : List Value := Lib.byteCells ((s.extract (m * N) s.size).data.toList.take N)
theorem rowV_get {s : ByteArray} {N m : Nat} (hs : s.size = N * N) (hm : m < N) {c : Nat} (hc : c < N) : (rowV s N m)[c]? = some (.int .u8 ((atB s (m * N + c)).toNat : Int)) := by
  have hlt := row_lt hm hc
  unfold rowV Lib.byteCells
  rw [List.getElem?_map, List.getElem?_take_of_lt hc, Lib.extract_data, List.getElem?_take_of_lt (by omega), List.getElem?_drop]
  rw [List.getElem?_eq_getElem (by rw [Array.length_toList]; show _ < s.size; omega)]
  rw [atB_get (by omega)]
  rfl
theorem rowV_len {s : ByteArray} {N m : Nat} (hs : s.size = N * N) (hm : m < N) : (rowV s N m).length = N := by
  have h1 : (m + 1) * N ≤ N * N := Nat.mul_le_mul_right N hm
  rw [Nat.succ_mul] at h1
  have hl : s.data.toList.length = s.size := by rw [Array.length_toList]; rfl
  unfold rowV
  rw [Lib.byteCells_length, List.length_take, Lib.extract_data, List.length_take, List.length_drop, hl]
  omega
theorem field_row {s : ByteArray} {N m : Nat} (hs : s.size = N * N) (hm : m < N) (h15 : N ≤ 15) :
    (fieldL N (partF s N m)).take (1 + m * 15) ++ rowV s N m ++ (fieldL N (partF s N m)).drop (1 + m * 15 + (rowV s N m).length) = fieldL N (partF s N (m + 1)) := by
  have hlen := rowV_len hs hm
  apply List.ext_getElem?
  intro i
  rw [splice_get _ _ _ (by rw [hlen, fieldL_len]; omega), hlen]
  rcases i with _ | k
  · rw [if_pos (by omega)]; rfl
  · rw [fieldL_succ, fieldL_succ]
    by_cases h1 : k + 1 < 1 + m * 15
    · rw [if_pos h1]
      have : partF s N m (k / 15) (k % 15) = partF s N (m + 1) (k / 15) (k % 15) := by
        unfold partF
        have h3 : k / 15 < m := by omega
        by_cases h4 : k % 15 < N
        · rw [if_pos ⟨h3, h4⟩, if_pos ⟨by omega, h4⟩]
        · rw [if_neg (fun h => h4 h.2), if_neg (fun h => h4 h.2)]
      rw [this]
    · rw [if_neg h1]
      by_cases h2 : k + 1 < 1 + m * 15 + N
      · rw [if_pos h2, if_pos (by omega)]
        have e1 : k / 15 = m := by omega
        have e2 : k % 15 = k + 1 - (1 + m * 15) := by omega
        rw [e1, ← e2, rowV_get hs hm (by omega)]
        unfold partF
        rw [if_pos ⟨by omega, by omega⟩]
      · rw [if_neg h2]
        have : partF s N m (k / 15) (k % 15) = partF s N (m + 1) (k / 15) (k % 15) := by
          unfold partF
          rw [if_neg (by omega), if_neg (by omega)]
        rw [this]
theorem run_copy_row_take {P : Program} (w : World) (dT sT ty elem : TypeId) (g o dLen dCap : Nat) (s : ByteArray) (cur : Array Value) (t : TypeId)
    (hu : P.underlying dT = some (.slice elem)) (hs : (P.info? elem).map (·.size) = some 1) (hg : w.heap[g]? = some (.cells cur t (0, 0))) (hle : dLen ≤ s.size) (hfit : o + dLen ≤ cur.size) :
    (Builtin.copy_ #[dT, sT] ty #[.slice (some ⟨g, o, none⟩) dLen dCap, .string s]).run P w =
      .ok (goInt dLen) (w.setRow g (cur.toList.take o ++ Lib.byteCells (s.data.toList.take dLen) ++ cur.toList.drop (o + (Lib.byteCells (s.data.toList.take dLen)).length)).toArray) := by
  have hl : s.data.toList.length = s.size := by rw [Array.length_toList]; rfl
  have hlen : (Lib.byteCells (s.data.toList.take dLen)).length = dLen := by rw [Lib.byteCells_length, List.length_take]; omega
  have hst := run_storeCells_at P g o t (Lib.byteCells (s.data.toList.take dLen)) 0 cur w hg (by rw [hlen]; simpa using hfit) (Lib.byteCells_one _)
  have hmin : Nat.min s.size dLen = dLen := Nat.min_eq_right hle
  have htk : List.take dLen (List.map (fun b : UInt8 => Value.int IntKind.u8 (b.toNat : Int)) s.data.toList) = Lib.byteCells (s.data.toList.take dLen) := by
    unfold Lib.byteCells
    rw [List.map_take]
  simp only [Nat.add_zero] at hst
  cases hq : P.info? elem with
  | none => simp [hq] at hs
  | some i =>
    simp [Builtin.copy_, run_underlying hu, Builtin.lenOf, Builtin.firstCells, sizeOf, typeInfo, hq, hmin]
    rw [htk, hst]
    simp [Result.andThen]
theorem u8_size : (Try.prog.info? 5).map (·.size) = some 1 := by kernel_rfl
theorem run_copyF {w : World} (ty : TypeId) (src : ByteArray) (N m g A dCap : Nat) (FA FB : Array Value)
    (hx : ShO (src.size = N * N ∧ m < N ∧ N ≤ 15 ∧ A = m * N ∧ FA = fieldA N (partF src N m) ∧ FB = fieldA N (partF src N (m + 1)))) (hb : Blk w g 133 FA) :
    (Builtin.copy_ #[22, 9] ty #[.slice (some ⟨g, 1 + m * 15, none⟩) N dCap, .string (src.extract A src.size)]).run Try.prog w = .ok (goInt N) (w.setRow g FB) := by
  obtain ⟨hs, hm, h15, rfl, rfl, rfl⟩ := hx.out
  have h1 : (m + 1) * N ≤ N * N := Nat.mul_le_mul_right N hm
  rw [Nat.succ_mul] at h1
  have hsz : (src.extract (m * N) src.size).size = src.size - m * N := by rw [ByteArray.size_extract]; omega
  have hrun := run_copy_row_take (P := Try.prog) w 22 9 ty 5 g (1 + m * 15) N dCap (src.extract (m * N) src.size) (fieldA N (partF src N m)) 133 Try.underlying22 u8_size hb (by omega) (by rw [fieldA_size]; omega)
  have hrow : ((fieldA N (partF src N m)).toList.take (1 + m * 15) ++ rowV src N m ++ (fieldA N (partF src N m)).toList.drop (1 + m * 15 + (rowV src N m).length)) = fieldL N (partF src N (m + 1)) := field_row hs hm h15
  unfold rowV at hrow
  rw [hrow] at hrun
  exact hrun

/-- The squares of a field, by row and column. -/
def sqF (s : ByteArray) (N : Nat) : Nat → Nat → UInt8 := partF s N N
theorem made2B (w : World) (t t' : TypeId) (cs cs' : Array Value) : Blk ((w.alloc (.cells cs t)).alloc (.cells cs' t')) (w.heap.size + 1) t' cs' := by
  have := Blk.made (w.alloc (.cells cs t)) t' cs'
  simpa only [World.size_alloc] using this
theorem Blk.rowB {w : World} {g : Nat} {t : TypeId} {cs : Array Value} (h : Blk w g t cs) (cs' : Array Value) : Blk (w.setRow g cs') g t cs' := setRow_heap w g cs cs' t (0, 0) h
theorem Blk.row_otherB {w : World} {g g' : Nat} {t : TypeId} {cs : Array Value} (h : Blk w g t cs) (hg : g ≠ g') (cs' : Array Value) : Blk (w.setRow g' cs') g t cs := (setRow_other w g' g cs' hg).trans h
theorem below_rowB {B : Nat} {w w' : World} {g : Nat} (h : Below B w w') (hg : B ≤ g) (cs : Array Value) : Below B w (w'.setRow g cs) :=
  h.trans ⟨rfl, rfl, rfl, by simp, fun k hk => setRow_other _ _ _ _ (by omega)⟩
/-- A field that a call hands back through a variable. -/
theorem ret_field {fn : Func} {p : Tmp} {a : Act} {w : World} {g N : Nat} {f : Nat → Nat → UInt8} {R : Ending → World → Prop} (hf : fn.results = #[.cell p 133])
    (hp : a.tmps.getD p undef = .pointer (some ⟨g, 0, none⟩)) (hb : Blk w g 133 (fieldA N f)) (hd : a.defers = []) (hR : R (.returned (.agg (fieldA N f))) w) :
    bodyPost Try.prog fn R .ret a w :=
  bodyPost_ret (results_cell_row hf a.tmps w g 133 (fieldA N f) (0, 0) _ hp hb Try.underlying133 rfl (field_info N f)) hd hR
set_option maxRecDepth 100000 in
set_option maxHeartbeats 4000000 in
theorem fieldOf_any (N : Nat) (s : ByteArray) (W : World) (h15 : N ≤ 15) (hs : s.size = N * N) :
    Calls Try.prog 153 #[.int .i64 (N : Int), .string s] W fun e w' => e = .returned (.agg (fieldA N (sqF s N))) ∧ Below W.heap.size W w' := by
  have hm := made2B W 133 133 Try.zeroCells133 Try.zeroCells133
  have hm0 := (Blk.made W 133 Try.zeroCells133).alloc (.cells Try.zeroCells133 133)
  have hb0 : Below W.heap.size W ((W.alloc (.cells Try.zeroCells133 133)).alloc (.cells Try.zeroCells133 133)) := ((Below.refl _ _).alloc (Nat.le_refl _) _).alloc (by simp) _
  have hst := field_start s N
  have HS := ShO.mk hs
  obtain ⟨Z, hZ⟩ : ∃ Z, Try.zeroCells133 = Z := ⟨_, rfl⟩
  have HZ := ShO.mk (show Z.size = 226 by rw [← hZ]; exact zero133_size)
  have hne : ¬ Z = #[] := by intro e; have h1 := HZ.out; rw [e] at h1; cases h1
  have hi0 := field_info N (partF s N 0)
  have ho0 := fieldA_one N (partF s N 0)
  have hsz0 := fieldA_size N (partF s N 0)
  have HI := ShO.mk hi0
  have HO := ShO.mk ho0
  have HSZ := ShO.mk hsz0
  rw [hZ] at hm hm0 hb0 hst
  have M0 := ShO.mk hm0
  have M1 := ShO.mk hm
  have B0 := ShO.mk hb0
  clear hs hm hm0 hb0 hi0 ho0 hsz0
  go_enter Try.func153, Try.ntmps153
  go_wp2_with (refine wpList_store_row rfl 133 _ _ rfl (W.heap.size + 1) (fieldA N (partF s N 0)) (by rfl) (by rfl) 133 _ M1.out HI.out (by rw [HZ.out, HSZ.out]) HO.out ?_)
  obtain ⟨w2, hw2⟩ : ∃ w2, ((W.alloc (.cells Z 133)).alloc (.cells Z 133)).setRow (W.heap.size + 1) (fieldA N (partF s N 0)) = w2 := ⟨_, rfl⟩
  have N1 := ShO.mk (show Blk w2 (W.heap.size + 1) 133 (fieldA N (partF s N 0)) by rw [← hw2]; exact M1.out.rowB _)
  have N0 := ShO.mk (show Blk w2 W.heap.size 133 Z by rw [← hw2]; exact M0.out.row_otherB (by omega) _)
  have NB := ShO.mk (show Below W.heap.size W w2 by rw [← hw2]; exact below_rowB B0.out (by omega) _)
  rw [hw2]
  clear hw2
  go_loopw [6, 10] (fun _ i wr => ∃ k : Nat, k ≤ N ∧ i = .int .i64 k ∧ ShO (Blk wr (W.heap.size + 1) 133 (fieldA N (partF s N k))) ∧ ShO (Blk wr W.heap.size 133 Z) ∧ ShO (Below W.heap.size W wr)) (fun _ i _ => N - (intOf i).toNat)
  case atStart => exact ⟨0, Nat.zero_le _, rfl, N1, N0, NB⟩
  case round =>
    obtain ⟨k, hk, rfl, ho, hz, hB⟩ := hrel
    by_cases hlt : k < N
    · have hA : k * N ≤ N * N := Nat.mul_le_mul_right N hk
      have hN2 : N * N ≤ 15 * 15 := Nat.mul_le_mul h15 h15
      have hsz := HS.out
      have hw1 : IntKind.i64.wrap ((k : Int) * (N : Int)) = ((k * N : Nat) : Int) := by rw [← Int.natCast_mul]; exact IntWalk.i64_in _ (by omega)
      have hcs : k * N ≤ s.size := by omega
      have hi1 : (0 : Int) ≤ (k : Int) := by omega
      have hi2 : (k : Int) < 15 := by omega
      have hi3 : (N : Int) ≤ 15 := by omega
      obtain ⟨A, hAe⟩ : ∃ A, k * N = A := ⟨_, rfl⟩
      rw [hAe] at hw1 hcs
      obtain ⟨FA, hFA⟩ : ∃ FA, FA = fieldA N (partF s N k) := ⟨_, rfl⟩
      obtain ⟨FB, hFB⟩ : ∃ FB, FB = fieldA N (partF s N (k + 1)) := ⟨_, rfl⟩
      have HX := ShO.mk (⟨HS.out, hlt, h15, hAe.symm, hFA, hFB⟩ : s.size = N * N ∧ k < N ∧ N ≤ 15 ∧ A = k * N ∧ FA = fieldA N (partF s N k) ∧ FB = fieldA N (partF s N (k + 1)))
      rw [← hFA] at ho
      have hcp := run_copyF 3 s N k (W.heap.size + 1) A 15 FA FB HX ho.out.drew
      have HFB := ShO.mk hFB
      clear hA hN2 hsz hAe hFA hFB
      go_wp2
      go_region
      go_wp2
      go_roundw
      case rel => exact ⟨k + 1, by omega, by go_num, ⟨by rw [← HFB.out]; exact ho.out.drew.rowB FB⟩, ⟨hz.out.drew.row_otherB (by omega) FB⟩, ⟨below_rowB hB.out.drew (by omega) FB⟩⟩
      case measure => simp [intOf]; omega
    · obtain rfl : k = N := by omega
      have HI2 := ShO.mk (field_info k (partF s k k))
      have HO2 := ShO.mk (fieldA_one k (partF s k k))
      have HZ2 := ShO.mk (fieldA_size k (partF s k k))
      have HQ := ShO.mk (show fieldA k (sqF s k) = fieldA k (partF s k k) from rfl)
      obtain ⟨FA, hFA⟩ : ∃ FA, fieldA k (partF s k k) = FA := ⟨_, rfl⟩
      have HFA := ShO.mk hFA
      rw [hFA] at ho HI2 HO2 HZ2 HQ
      clear hFA
      go_wp2_with (first
        | (refine wpList_load_row rfl 133 _ rfl (W.heap.size + 1) (by rfl) 133 FA (0, 0) _ ho.out Try.underlying133 rfl HI2.out ?_)
        | (refine wpList_store_row rfl 133 _ _ rfl W.heap.size FA (by rfl) (by rfl) 133 Z hz.out HI2.out (by rw [HZ.out, HZ2.out]) HO2.out ?_))
      refine ret_field (N := k) (f := partF s k k) rfl (by rfl) (by rw [HFA.out]; exact hz.out.rowB _) rfl ?_
      rw [HFA.out, HQ.out]
      exact ⟨rfl, below_rowB hB.out (Nat.le_refl _) _⟩
end Go.Proofs.Ytpeobloofofnlaa
