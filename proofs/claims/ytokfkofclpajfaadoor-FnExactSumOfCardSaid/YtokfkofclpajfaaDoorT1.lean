/-
  The contracts of the laws' own helpers on tile sets: sizes, copies, comparisons.
-/
import Derived.Test.YtokfkofclpajfaaDoorC1
import Derived.Test.YtokfkofclpajfaaDoorK
import Derived.Test.YtokfkofclpajfaaDoorT0
import Derived.Test.YtokfkofclpajfaaDoorK1
import Derived.Deep.QuietTactic
import Derived.BigQuiet
namespace Go.Proofs.YtokfkofclpajfaaDoor
open Go.RowKit

set_option maxHeartbeats 400000 in
theorem szInt64S_any {v : Value} {zs : List Int} (left : Int) (w : World) (h : Ints .i64 w v zs) (h0 : 0 ≤ left) (h1 : left ≤ 1048576) :
    Calls Tryd.prog 122 #[v, .int .i64 left] w fun e w' => e = .returned (.int .i64 (szN left zs.length)) ∧ w = w' := by
  obtain ⟨a, cap, rfl, hl, hm, hc, hw⟩ := h
  clear hc hw
  unfold maxLen at hm
  by_cases hlt : left < zs.length
  · rw [szN_no hlt]
    have hlt' : left - (zs.length : Int) < 0 := by omega
    go_enter Tryd.func122, Tryd.ntmps122
    go_wp2
    go_ret
    exact ⟨rfl, rfl⟩
  · rw [szN_yes hlt]
    have hlt' : ¬ left - (zs.length : Int) < 0 := by omega
    go_enter Tryd.func122, Tryd.ntmps122
    go_wp2
    go_ret
    exact ⟨rfl, rfl⟩


theorem take_snoc (zs : List Int) (k : Nat) (h : k < zs.length) : zs.take (k + 1) = zs.take k ++ [zs.getD k 0] := by
  rw [List.take_succ_eq_append_getElem h]
  simp [List.getD_eq_getElem?_getD, List.getElem?_eq_getElem h]

theorem take_differs {za zb : List Int} {k : Nat} (hne : ¬ za.getD k 0 = zb.getD k 0) : ¬ za = zb := fun e => hne (by rw [e])

set_option maxHeartbeats 1000000 in
theorem eqInt64S_any {va vb : Value} {za zb : List Int} (w : World) (ha : Ints .i64 w va za) (hb : Ints .i64 w vb zb) :
    Calls Tryd.prog 49 #[va, vb] w fun e w' => e = .returned (.bool (decide (za = zb))) ∧ ∃ n, w' = w.drewN n := by
  have hal := ha.len
  have hbl := hb.len
  obtain ⟨a, capa, rfl, hla, hma, hca, hwa⟩ := ha
  obtain ⟨b, capb, rfl, hlb, hmb, hcb, hwb⟩ := hb
  clear hwa hwb
  by_cases hne : za.length = zb.length
  · have hn1 : ((za.length : Int) == (zb.length : Int)) = true := beq_iff_eq.2 (by omega)
    have HE := hid hne
    clear hne
    go_enter Tryd.func49, Tryd.ntmps49
    go_wp2
    go_loopw [5] (fun i w' => ∃ k n : Nat, k ≤ za.length ∧ i = .int .i64 k ∧ w' = w.drewN n ∧ Hid (za.take k = zb.take k)) (fun i _ => za.length - (intOf i).toNat)
    case atStart => exact ⟨0, 0, Nat.zero_le _, rfl, rfl, by simp [Hid]⟩
    case round =>
      obtain ⟨k, n, hk, rfl, rfl, hp⟩ := hrel
      by_cases hlt : k < za.length
      · have hltb : k < zb.length := by rw [← HE.out]; exact hlt
        obtain ⟨ba, oa, rfl, hba, hca'⟩ := hca (by omega)
        obtain ⟨bb, ob, rfl, hbb, hcb'⟩ := hcb (by omega)
        have ca := hca' k hlt
        have cb := hcb' k hltb
        clear hca' hcb' hca hcb
        have hsa := hid (take_snoc za k hlt)
        have hsb := hid (take_snoc zb k hltb)
        have hne := take_differs (za := za) (zb := zb) (k := k)
        obtain ⟨x, hx⟩ : ∃ x, za.getD k 0 = x := ⟨_, rfl⟩
        obtain ⟨y, hy⟩ : ∃ y, zb.getD k 0 = y := ⟨_, rfl⟩
        rw [hx] at ca hne
        rw [hy] at cb hne
        have HX := hid hx
        have HY := hid hy
        clear hx hy
        by_cases hxy : x = y
        · subst hxy
          clear hne
          go_wp2
          go_quiet (fail)
          go_wp2
          go_roundw
          case rel => exact ⟨k + 1, _, by omega, by go_num, rfl, by rw [Hid, hsa.out, hsb.out, hp.out, HX.out, HY.out]⟩
          case measure => simp [intOf]; omega
        · have hxy' : (x == y) = false := beq_eq_false_iff_ne.2 hxy
          have HN := hid (decide_eq_false (hne hxy))
          clear hne hxy
          go_wp2
          go_quiet (fail)
          go_wp2
          go_ret
          exact ⟨ret_bool HN.out.symm, _, World.drewN_drewN _ _ _⟩
      · have hk1 : za.length = k := by omega
        have hab : za = zb := by
          have h := hp.out
          rwa [List.take_of_length_le (by omega), List.take_of_length_le (by rw [← HE.out]; omega)] at h
        have HD := hid (decide_eq_true hab)
        clear hab hk1 hp hca hcb
        go_wp2
        go_ret
        exact ⟨ret_bool HD.out.symm, _, rfl⟩
  · have hd : decide (za = zb) = false := decide_eq_false (fun e => hne (by rw [e]))
    have HD := hid hd
    have hn1 : ((za.length : Int) == (zb.length : Int)) = false := beq_eq_false_iff_ne.2 (by omega)
    clear hd hne
    go_enter Tryd.func49, Tryd.ntmps49
    go_wp2
    go_ret
    exact ⟨ret_bool HD.out.symm, 0, rfl⟩

/-! ### A copy of a slice of numbers -/
/-- The copy's cells behind k rounds. -/
def rowAt (zs : List Int) (k : Nat) : List Value := (zs.take k ++ List.replicate (zs.length - k) 0).map (Value.int .i64)
theorem rowAt_len (zs : List Int) (k : Nat) (h : k ≤ zs.length) : (rowAt zs k).length = zs.length := by
  simp [rowAt]; omega
theorem rowAt_zero (zs : List Int) : rowAt zs 0 = List.replicate zs.length (.int .i64 0) := by simp [rowAt]
theorem rowAt_all (zs : List Int) : rowAt zs zs.length = zs.map (Value.int .i64) := by simp [rowAt]
theorem rowAt_at (zs : List Int) (k : Nat) (h : k < zs.length) : (rowAt zs k)[k]? = some (.int .i64 0) := by
  unfold rowAt
  rw [List.getElem?_map, List.getElem?_append_right (by simp; omega), List.length_take_of_le (by omega), Nat.sub_self, List.getElem?_replicate, if_pos (by omega)]
  rfl
theorem rowAt_set (zs : List Int) (k : Nat) (h : k < zs.length) : (rowAt zs k).set k (.int .i64 (zs.getD k 0)) = rowAt zs (k + 1) := by
  have e1 : zs.length - k = (zs.length - (k + 1)) + 1 := by omega
  have e2 : k - min k zs.length = 0 := by omega
  unfold rowAt
  rw [take_snoc zs k h, e1, List.replicate_succ, List.map_append, List.map_append, List.map_append, List.map_cons]
  rw [List.set_append_right _ _ (by simp; omega)]
  simp [e2]

theorem info64 : (Tryd.prog.info? 2).map (fun i => (i.zero, i.size, i.bytes)) = some (some (.int .i64 0), 1, 8) := by kernel_rfl

/-- A row of the call's own that holds the numbers zs: not frozen, in a block from B on. -/
def OwnI (B : Nat) (w : World) (v : Value) (zs : List Int) : Prop := ∃ g, v = .slice (some ⟨g, 0, none⟩) zs.length zs.length ∧ w.ownsRow B 2 1 v zs.length (zs.map (Value.int .i64)) ∧ zs.length ≤ 1048576
theorem OwnI.ints {B : Nat} {w : World} {v : Value} {zs : List Int} (h : OwnI B w v zs) (hw : ∀ n ∈ zs, (Lit.int .i64 n).wf = true) : Ints .i64 w v zs := by
  obtain ⟨g, rfl, ho, hn⟩ := h
  have hlt : g < w.heap.size := by
    rcases ho.2 with ⟨h, _⟩ | ⟨g', cap, cur, h, _, hg, _⟩
    · simp at h
    · simp only [Value.slice.injEq, Option.some.injEq, Addr.mk.injEq, and_true] at h
      obtain ⟨rfl, _⟩ := h
      exact (Array.getElem?_eq_some_iff.1 hg).1
  refine ⟨_, _, rfl, Nat.le_refl _, by unfold maxLen; omega, fun _ => ⟨g, 0, rfl, hlt, fun j hj => ?_⟩, hw⟩
  rw [Nat.zero_add, ho.cellAt j (by omega)]
  simp [List.getD_eq_getElem?_getD, List.getElem?_eq_getElem hj]

set_option maxHeartbeats 2000000 in
theorem toInt64S_any {v : Value} {zs : List Int} (w : World) (h : Ints .i64 w v zs) (hn : zs.length ≤ 1048576) :
    Calls Tryd.prog 127 #[v] w fun e w' => ∃ u, e = .returned u ∧ OwnI w.heap.size w' u zs ∧ Below w.heap.size w w' := by
  obtain ⟨i0, hi, hz0, hz1, hz2⟩ := info_parts info64
  obtain ⟨a, cap, rfl, hl, hm, hc, hw⟩ := h
  clear hw
  unfold maxLen at hm
  go_enter Tryd.func127, Tryd.ntmps127
  go_wp2_with (refine wpList_make_full _ rfl _ _ 53 rfl w.heap.size 2 i0 (.int .i64 0) 1 Tryd.underlying53 hi hz0 hz1 .i64 .i64 _ _ zs.length rfl rfl rfl rfl (by rw [hz2]; omega) (by unfold maxLen; omega) (Nat.le_refl _) ?_; intro w1 hown hgrow)
  have hown0 : w1.ownsRow w.heap.size 2 1 (.slice (some ⟨w.heap.size, 0, none⟩) zs.length zs.length) zs.length (rowAt zs 0) := by
    rw [rowAt_zero]
    have e := toList_madeCells_one (.int .i64 0) zs.length
    rw [← e]
    simpa [Value.cells] using hown
  have hb0 : Below w.heap.size w w1 := (Below.refl _ _).grown hgrow (Nat.le_refl _) (fun k hk => by cases hk)
  clear hown hgrow
  go_loopw [4] (fun i wr => ∃ k : Nat, k ≤ zs.length ∧ i = .int .i64 k ∧ wr.ownsRow w.heap.size 2 1 (.slice (some ⟨w.heap.size, 0, none⟩) zs.length zs.length) zs.length (rowAt zs k) ∧ Below w.heap.size w wr) (fun i _ => zs.length - (intOf i).toNat)
  case atStart => exact ⟨0, Nat.zero_le _, rfl, hown0, hb0⟩
  case round =>
    obtain ⟨k, hk, rfl, ho, hb⟩ := hrel
    clear hown0 hb0
    by_cases hlt : k < zs.length
    · obtain ⟨ba, oa, rfl, hba, hca⟩ := hc (by omega)
      have ca := (hb.cell (p := ⟨ba, oa + k, none⟩) hba).trans (hca k hlt)
      obtain ⟨x, hx⟩ : ∃ x, zs.getD k 0 = x := ⟨_, rfl⟩
      rw [hx] at ca
      have cg : wr.cell? ⟨w.heap.size, k, none⟩ = some (.int .i64 0) := (ho.cellAt k (by omega)).trans (rowAt_at zs k hlt)
      have cf := ho.frozenAt k
      have HS := ho.stored k (.int .i64 x)
      have HO := hid ho
      have HX := hid hx
      have HB := hb.setCell (p := ⟨w.heap.size, k, none⟩) (Nat.le_refl _) (.int .i64 x)
      clear hca hc ho hx
      go_wp2
      go_roundw
      case rel =>
        refine ⟨k + 1, by omega, by go_num, ?_, HB⟩
        have e := rowAt_set zs k hlt
        rw [HX.out] at e
        rw [← e]
        exact HS.1
      case measure => simp [intOf]; omega
    · have hk' : k = zs.length := by omega
      have HO : wr.ownsRow w.heap.size 2 1 (.slice (some ⟨w.heap.size, 0, none⟩) zs.length zs.length) zs.length (zs.map (Value.int .i64)) := by
        rw [hk', rowAt_all] at ho; exact ho
      clear hk' ho hc
      go_wp2
      go_ret
      exact ⟨_, rfl, ⟨_, rfl, HO, hn⟩, hb⟩

/-- A tile set that the call has made: its letters, its two rows of the call's own, its blanks. -/
def OwnT (B : Nat) (w : World) (t : Value) (L : ByteArray) (zv zc : List Int) (b : Int) : Prop :=
  ∃ vv vc, t = .agg #[.string L, vv, vc, .int .i64 b] ∧ OwnI B w vv zv ∧ OwnI B w vc zc

theorem OwnI.kept {B : Nat} {w w' : World} {v : Value} {zs : List Int} (h : OwnI B w v zs) (hb : Below w.heap.size w w') : OwnI B w' v zs := by
  obtain ⟨g, hv, ho, hn⟩ := h
  refine ⟨g, hv, ?_, hn⟩
  subst hv
  refine ⟨ho.1, ?_⟩
  rcases ho.2 with h | ⟨g', cap, cur, h, hg1, hg, r⟩
  · exact .inl h
  · exact .inr ⟨g', cap, cur, h, hg1, (hb.block g' (Array.getElem?_eq_some_iff.1 hg).1).trans hg, r⟩
theorem OwnI.lower {B B' : Nat} {w : World} {v : Value} {zs : List Int} (h : OwnI B w v zs) (hB : B' ≤ B) : OwnI B' w v zs := by
  obtain ⟨g, hv, ho, hn⟩ := h
  refine ⟨g, hv, ⟨ho.1, ?_⟩, hn⟩
  rcases ho.2 with h | ⟨g', cap, cur, h, hg1, r⟩
  · exact .inl h
  · exact .inr ⟨g', cap, cur, h, Nat.le_trans hB hg1, r⟩


theorem eqInt64S_same {va vb : Value} {zs : List Int} (w : World) (ha : Ints .i64 w va zs) (hb : Ints .i64 w vb zs) :
    Calls Tryd.prog 49 #[va, vb] w fun e w' => e = .returned (.bool true) ∧ ∃ n, w' = w.drewN n :=
  (eqInt64S_any w ha hb).mono fun _ _ ⟨h, hn⟩ => ⟨h.trans (ret_bool (by simp)), hn⟩


end Go.Proofs.YtokfkofclpajfaaDoor
