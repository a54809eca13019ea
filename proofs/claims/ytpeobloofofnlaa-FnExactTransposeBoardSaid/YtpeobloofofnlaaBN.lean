/-
  Rows and columns of a field: the program's.
-/
import Derived.Test.YtpeobloofofnlaaBM
import Derived.Test.YtpeobloofofnlaaBG
import Derived.Test.YtpeobloofofnlaaK1
import Derived.Test.YtpeobloofofnlaaLJ
import Derived.Laws.IdiomStrings
namespace Go.Proofs.Ytpeobloofofnlaa
open Go.RowKit

theorem sqF_at {s : ByteArray} {N r c : Nat} (hr : r < N) (hc : c < N) : sqF s N r c = atB s (r * N + c) := by unfold sqF partF; rw [if_pos ⟨hr, hc⟩]
theorem field_cell {w : World} {g N : Nat} {s : ByteArray} {FA : Array Value} (hFA : FA = fieldA N (sqF s N)) (h : Blk w g 133 FA) (h15 : N ≤ 15) {r c : Nat} (hr : r < N) (hc : c < N) :
    w.cell? ⟨g, 1 + r * 15 + c, none⟩ = some (.int .u8 ((atB s (r * N + c)).toNat : Int)) := by
  rw [h.cells, hFA, fieldA_at N _ (by omega) (by omega) (Nat.add_assoc 1 (r * 15) c), sqF_at hr hc]
theorem field_cell0 {w : World} {g N : Nat} {f : Nat → Nat → UInt8} {FA : Array Value} (hFA : FA = fieldA N f) (h : Blk w g 133 FA) : w.cell? ⟨g, 0, none⟩ = some (.int .i64 (N : Int)) := by
  rw [h.cells, hFA, fieldA_zero]
theorem field_ne {N : Nat} {f : Nat → Nat → UInt8} {FA : Array Value} (hFA : FA = fieldA N f) : FA.size = 226 ∧ ¬ FA = #[] := by
  have h1 : FA.size = 226 := by rw [hFA, fieldA_size]
  exact ⟨h1, by intro e; rw [e] at h1; cases h1⟩
set_option maxRecDepth 100000 in
set_option maxHeartbeats 2000000 in
theorem row_any {N k : Nat} {s : ByteArray} {FA : Array Value} (W : World) (hFA : ShO (FA = fieldA N (sqF s N))) (h15 : N ≤ 15) (hk : k < N) :
    Calls Try.prog 159 #[.agg FA, .int .i64 (k : Int)] W fun e w' => e = .returned (.string ⟨(rowL N s k).toArray⟩) ∧ Below W.heap.size W w' := by
  have hg := Blk.made W 133 FA
  have hB0 : Below W.heap.size W (W.alloc (.cells FA 133)) := (Below.refl _ _).alloc (Nat.le_refl _) _
  obtain ⟨hsz, hne⟩ := field_ne hFA.out
  have hl : (rowL N s k).length = N := rowL_len N s k
  have hcv : ∀ w, Blk w W.heap.size 133 FA → (convert 22 9 (.slice (some ⟨W.heap.size, 1 + k * 15, none⟩) N 15)).run Try.prog w = .ok (.string ⟨(rowL N s k).toArray⟩) w := by
    intro w hw
    have := run_convert_bytes_back w 22 9 5 ⟨W.heap.size, 1 + k * 15, none⟩ 15 (rowL N s k) Try.underlying22 Try.underlying5 Try.underlying9 (fun j hj => by
      have e : (⟨W.heap.size, 1 + k * 15, none⟩ : Addr).add j = ⟨W.heap.size, 1 + k * 15 + j, none⟩ := by unfold Addr.add; split <;> simp_all
      rw [e, field_cell hFA.out hw h15 hk (by omega)]
      simp [rowL])
    rw [hl] at this
    exact this
  have c0 := field_cell0 hFA.out hg
  have hcv1 := hcv _ hg.drew
  have hi1 : (0 : Int) ≤ (k : Int) := by omega
  have hi2 : (k : Int) < 15 := by omega
  have hi3 : (N : Int) ≤ 15 := by omega
  have HB0 := ShO.mk hB0
  obtain ⟨R, hR⟩ : ∃ R : ByteArray, (⟨(rowL N s k).toArray⟩ : ByteArray) = R := ⟨_, rfl⟩
  rw [hR] at hcv1
  rw [hR]
  clear hcv hl hR hB0 hg
  go_enter Try.func159, Try.ntmps159
  go_wp2
  go_region
  go_wp2
  go_ret
  exact ⟨rfl, HB0.out.drew⟩
set_option maxRecDepth 100000 in
set_option maxHeartbeats 4000000 in
theorem column_any {N k : Nat} {s : ByteArray} {FA : Array Value} (W : World) (hFA : ShO (FA = fieldA N (sqF s N))) (h15 : N ≤ 15) (hk : k < N) :
    Calls Try.prog 155 #[.agg FA, .int .i64 (k : Int)] W fun e w' => e = .returned (.string ⟨(colL N s k).toArray⟩) ∧ Below W.heap.size W w' := by
  have hg := Blk.made W 133 FA
  have hB0 : Below W.heap.size W (W.alloc (.cells FA 133)) := (Below.refl _ _).alloc (Nat.le_refl _) _
  obtain ⟨hsz, hne⟩ := field_ne hFA.out
  have hfr := fresh_builder (W.alloc (.cells FA 133))
  rw [World.size_alloc] at hfr
  have HFR := ShO.mk hfr
  have HWB := ShO.mk (show Below (W.heap.size + 1) (W.alloc (.cells FA 133)) ((W.alloc (.cells FA 133)).alloc (.cells #[.pointer none, .slice none 0 0] 87)) from (Below.refl _ _).alloc (by simp) _)
  have c0 : ((W.alloc (.cells FA 133)).alloc (.cells #[.pointer none, .slice none 0 0] 87)).cell? ⟨W.heap.size, 0, none⟩ = some (.int .i64 (N : Int)) := field_cell0 hFA.out (hg.alloc _)
  have HG := ShO.mk hg
  have HB0 := ShO.mk hB0
  have hi1 : (0 : Int) ≤ (k : Int) := by omega
  have hi2 : (k : Int) < 15 := by omega
  clear hB0 hg hfr
  go_enter Try.func155, Try.ntmps155
  go_wp2
  go_loopw [6, 9] (fun _ i wr => ∃ r : Nat, r ≤ N ∧ i = .int .i64 r ∧ ShO (IsB (W.heap.size + 1) (W.heap.size + 1) (colTo N s k r) wr) ∧ ShO (Below (W.heap.size + 1) (W.alloc (.cells FA 133)) wr)) (fun _ i _ => N - (intOf i).toNat)
  case atStart => exact ⟨0, Nat.zero_le _, rfl, HFR, HWB⟩
  case round =>
    obtain ⟨r, hr, rfl, ho, hB⟩ := hrel
    by_cases hlt : r < N
    · have hg1 := HG.out.kept hB.out (Nat.lt_succ_self _)
      have hcell := field_cell hFA.out hg1 h15 hlt hk
      have hj1 : (0 : Int) ≤ (r : Int) := by omega
      have hj2 : (r : Int) < 15 := by omega
      have HS := ShO.mk (colTo_succ N s k r)
      have HL := ShO.mk (show (colTo N s k r).length ≤ 15 by unfold colTo; rw [List.length_map, List.length_range]; omega)
      obtain ⟨y, hy⟩ : ∃ y, atB s (r * N + k) = y := ⟨_, rfl⟩
      rw [hy] at hcell HS
      clear hg1 hy
      go_wp2_with fail
      refine (writeByte_any (W.heap.size + 1) (W.heap.size + 1) _ y _ ho.out (by have := HL.out; omega) (by have := hB.out.size; simpa using this)).mono ?_
      rintro e w4 ⟨rfl, ho3, hb3⟩
      have HO3 := ShO.mk ho3
      have HB3 := ShO.mk (hB.out.trans hb3)
      clear ho3 hb3
      go_wp2
      go_roundw
      case rel => exact ⟨r + 1, by omega, by go_num, ⟨by rw [HS.out]; exact HO3.out⟩, HB3⟩
      case measure => simp [intOf]; omega
    · obtain rfl : r = N := by omega
      go_wp2_with fail
      refine (Try.Builder_String_any (W.heap.size + 1) (W.heap.size + 1) _ _ ho.out (by have := hB.out.size; simpa using this)).mono ?_
      rintro e w5 ⟨rfl, hb5⟩
      have HB5 := ShO.mk (HB0.out.trans ((hB.out.trans hb5).mono (by omega)))
      clear hb5
      go_wp2
      go_ret
      exact ⟨rfl, HB5.out⟩

/-! ### All rows or all columns -/
/-- What a function value says of the lines of a field. -/
def TellsF (K : FuncId) (FA : Array Value) (N : Nat) (q : Nat → ByteArray) : Prop := ∀ k, k < N → ∀ w, Calls Try.prog K #[.agg FA, .int .i64 (k : Int)] w fun e w' => e = .returned (.string (q k)) ∧ Below w.heap.size w w'
def linesTo (q : Nat → ByteArray) (m : Nat) : List ByteArray := (List.range m).map q
theorem linesTo_succ (q : Nat → ByteArray) (m : Nat) : linesTo q (m + 1) = linesTo q m ++ [q m] := by simp [linesTo, List.range_succ]
theorem linesTo_len (q : Nat → ByteArray) (m : Nat) : (linesTo q m).length = m := by simp [linesTo]
set_option maxRecDepth 100000 in
set_option maxHeartbeats 4000000 in
theorem lines_any {K : FuncId} {N : Nat} {f : Nat → Nat → UInt8} {q : Nat → ByteArray} {FA : Array Value} (W : World) (hFA : ShO (FA = fieldA N f)) (h15 : N ≤ 15)
    (hK : ∀ args w, (callFunc K args).run Try.prog w = .ok (.enter K args) w) (ht : ShO (TellsF K FA N q)) :
    Calls Try.prog 154 #[.agg FA, .func (.func K) #[] #[]] W fun e w' => ∃ v, e = .returned v ∧ OwnS W.heap.size w' v (linesTo q N) ∧ Below W.heap.size W w' := by
  have hg := Blk.made W 133 FA
  have hB0 : Below W.heap.size W (W.alloc (.cells FA 133)) := (Below.refl _ _).alloc (Nat.le_refl _) _
  obtain ⟨hsz, hne⟩ := field_ne hFA.out
  have HI := ShO.mk (show (Try.prog.info? 133).map (·.size) = some FA.size by rw [hFA.out]; exact field_info N f)
  have c0 := field_cell0 hFA.out hg
  have HG := ShO.mk hg
  have HB0 := ShO.mk hB0
  clear hB0 hg
  go_enter Try.func154, Try.ntmps154
  go_wp2
  go_loopw [5, 6, 9] (fun v _ i wr => ∃ k : Nat, k ≤ N ∧ i = .int .i64 k ∧ ShO (OwnS (W.heap.size + 1) wr v (linesTo q k)) ∧ ShO (Below (W.heap.size + 1) (W.alloc (.cells FA 133)) wr)) (fun _ _ i _ => N - (intOf i).toNat)
  case atStart => exact ⟨0, Nat.zero_le _, rfl, ⟨World.ownsRow_nil _ _ _ _⟩, ⟨Below.refl _ _⟩⟩
  case round =>
    obtain ⟨k, hk, rfl, ho, hB⟩ := hrel
    by_cases hlt : k < N
    · have hg1 := ShO.mk (HG.out.kept hB.out (Nat.lt_succ_self _))
      have HS := ShO.mk (linesTo_succ q k)
      have HL := ShO.mk (linesTo_len q k)
      obtain ⟨y, hy⟩ : ∃ y, q k = y := ⟨_, rfl⟩
      have HT := ShO.mk (ht.out k hlt)
      rw [hy] at HT HS
      clear hy
      go_wp2_with (refine wpList_load_row rfl 133 _ rfl W.heap.size (by rfl) 133 FA (0, 0) _ hg1.out Try.underlying133 rfl HI.out ?_)
      refine (HT.out _).mono ?_
      rintro e w3 ⟨rfl, hb3⟩
      have HB3 := ShO.mk (hB.out.trans (hb3.mono (by have := hB.out.size; simpa using this)))
      have HO3 := ShO.mk (OwnS.kept ho.out hb3)
      clear hb3
      go_wp2_with (at_builtin; refine wpList_append_word rfl _ _ rfl y rfl rfl HO3.out (by have := HL.out; omega) (by have := HB3.out.size; simpa using this) ?_; intro v' w4 ho4 hg4 _)
      have HO4 := ShO.mk (show OwnS (W.heap.size + 1) w4 v' (linesTo q (k + 1)) by rw [HS.out]; exact ho4)
      have HB4 := ShO.mk (HB3.out.grown hg4 (by have := HB3.out.size; simpa using this) (fun b hb => (HO3.out.lt b hb).1))
      clear ho4 hg4
      go_wp2
      go_roundw
      case rel => exact ⟨k + 1, by omega, by go_num, HO4, HB4⟩
      case measure => simp [intOf]; omega
    · obtain rfl : k = N := by omega
      go_wp2
      go_ret
      exact ⟨_, rfl, OwnS.lower ho.out (by omega), HB0.out.trans (hB.out.mono (by omega))⟩
end Go.Proofs.Ytpeobloofofnlaa
