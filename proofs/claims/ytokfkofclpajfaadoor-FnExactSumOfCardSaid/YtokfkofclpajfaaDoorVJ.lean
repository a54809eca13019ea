/-
  Ordered strings by their first letters: the model's l06Tails.
-/
import Derived.Test.YtokfkofclpajfaaDoorVF
import Derived.Test.YtokfkofclpajfaaDoorN2
import Derived.Test.YtokfkofclpajfaaDoorP0
import Derived.RangeFuncBox
namespace Go.Proofs.YtokfkofclpajfaaDoor
open Go.RowKit

theorem grp_at {c : UInt8} {ts rest : List (List UInt8)} (hts : ts ≠ []) (hr : rest = [] ∨ ∃ d t ws, rest = (d :: t) :: ws ∧ d ≠ c) : grp (ts.map (c :: ·) ++ rest) = (c, ts) :: grp rest := by
  refine grp_run (fun c' us gs hg => ?_) hts
  rcases hr with rfl | ⟨d, t, ws, rfl, hd⟩
  · simp [grp] at hg
  · rw [grp_cons] at hg
    cases hw : grp ws with
    | nil =>
      rw [hw] at hg
      simp at hg
      rw [← hg.1.1]
      exact hd
    | cons p gs' =>
      obtain ⟨c2, ts2⟩ := p
      rw [hw] at hg
      simp only at hg
      split at hg
      · simp at hg
        rw [← hg.1.1]
        exact hd
      · simp at hg
        rw [← hg.1.1]
        exact hd
theorem head_tail {y : ByteArray} (h : 0 < y.size) : y.data.toList = y[0] :: (y.extract 1 y.size).data.toList := by
  have hl : y.data.toList.length = y.size := list_size y
  have e : (y.extract 1 y.size).data.toList = y.data.toList.drop 1 := by
    rw [show (y.extract 1 y.size).data.toList = (y.data.toList.take y.size).drop 1 by simp [ByteArray.data_extract, List.extract_eq_take_drop, List.drop_take], List.take_of_length_le (by omega)]
  rw [e]
  have h2 : 0 < y.data.toList.length := by omega
  conv => lhs; rw [← List.drop_zero (l := y.data.toList), List.drop_eq_getElem_cons h2]
  rfl
theorem drop_strAt {us : List ByteArray} {k : Nat} (h : k < us.length) : us.drop k = strAt us k :: us.drop (k + 1) := by
  rw [List.drop_eq_getElem_cons h]
  unfold strAt
  rw [List.getD_eq_getElem?_getD, List.getElem?_eq_getElem h]
  rfl
/-- What has been taken of the strings from a place on: those that begin with c, without it. -/
def Taken (us : List ByteArray) (a k : Nat) (c : UInt8) (ts : List ByteArray) : Prop := ts.length + a = k ∧ (us.drop a).map (·.data.toList) = (ts.map (·.data.toList)).map (c :: ·) ++ (us.drop k).map (·.data.toList)
theorem Taken.next {us ts : List ByteArray} {a k : Nat} {c : UInt8} (h : Taken us a k c ts) (hk : k < us.length) (hy : 0 < (strAt us k).size) (hc : (strAt us k)[0] = c) : Taken us a (k + 1) c (ts ++ [(strAt us k).extract 1 (strAt us k).size]) := by
  refine ⟨by have := h.1; simp; omega, ?_⟩
  rw [h.2, drop_strAt hk, List.map_cons, head_tail hy, hc]
  simp

set_option maxRecDepth 100000 in
set_option maxHeartbeats 4000000 in
theorem l06Tails_any {v : Value} {us : List ByteArray} (W : World) (hu : Strs W v us) (a : Nat) (ha : a < us.length) (hne : ∀ j, a ≤ j → j < us.length → 0 < (strAt us j).size) (hlen : us.length ≤ 3000) (hz : ∀ s ∈ us, s.size ≤ 1000) :
    Calls Tryd.prog 135 #[v, .int .i64 a] W fun e w' => ∃ (v' : Value) (ts : List ByteArray) (k : Nat) (c : UInt8), e = .returned (.tuple #[v', .int .i64 k]) ∧ OwnS W.heap.size w' v' ts ∧ Taken us a k c ts ∧ a < k ∧ k ≤ us.length ∧ (k < us.length → ∀ (h2 : 0 < (strAt us k).size), (strAt us k)[0] ≠ c) ∧ Below W.heap.size W w' := by
  obtain ⟨i0, hinf, hz0, hz1, hz2⟩ := info_parts info_str
  obtain ⟨ad, cap, rfl, hl1, hm, hc⟩ := hu
  obtain ⟨b, off, rfl, hbl, hcc⟩ := hc (by omega)
  have HCC := Shh.mk hcc
  have HNE := Shh.mk hne
  have HZ := Shh.mk hz
  have hca := hcc a ha
  have hya := hne a (Nat.le_refl _) ha
  obtain ⟨c, hcd⟩ : ∃ c, (strAt us a)[0] = c := ⟨_, rfl⟩
  have HC0 := Shh.mk hcd
  obtain ⟨y, hy⟩ : ∃ y, strAt us a = y := ⟨_, rfl⟩
  have hcd2 : y[0]'(by rw [← hy]; exact hya) = c := by subst hy; exact hcd
  rw [hy] at hca hya
  obtain ⟨C, hC⟩ : ∃ C : Int, (c.toNat : Int) = C := ⟨_, rfl⟩
  have hB : ((y[0]'hya).toNat : Int) = C := by rw [← hC, hcd2]
  clear hcc hc hne hz hcd hcd2 hy
  go_enter Tryd.func135, Tryd.ntmps135
  go_wp2
  go_loopw [6, 8] (fun x z wr => ∃ (k : Nat) (ts : List ByteArray), a ≤ k ∧ k ≤ us.length ∧ z = .int .i64 k ∧ Shh (OwnS W.heap.size wr x ts) ∧ Shh (Taken us a k c ts) ∧ Below W.heap.size W wr) (fun _ z _ => us.length - (intOf z).toNat)
  case atStart => exact ⟨a, [], Nat.le_refl _, by omega, rfl, ⟨World.ownsRow_lit W _ 0 (Nat.le_refl _) (by unfold maxLen; omega) rfl⟩, ⟨⟨by simp, by simp⟩⟩, (Below.refl _ _).alloc (Nat.le_refl _) _⟩
  case round =>
    obtain ⟨k, ts, hak, hkl, rfl, ho, ht, hb⟩ := hrel
    have htl := ht.out.1
    by_cases hk : k < us.length
    · have ck := (hb.cell (p := ⟨b, off + k, none⟩) hbl).trans (HCC.out k hk)
      have hyk := HNE.out k hak hk
      have hyz := HZ.out _ (strAt_mem hk)
      have HNX := Shh.mk (fun h => ht.out.next hk hyk h)
      obtain ⟨y2, hy2⟩ : ∃ y2, strAt us k = y2 := ⟨_, rfl⟩
      have hyk2 : 0 < y2.size := by rw [← hy2]; exact hyk
      have HND := Shh.mk (fun (h : ¬ (y2[0]'hyk2) = c) => show k < us.length → ∀ (h2 : 0 < (strAt us k).size), (strAt us k)[0] ≠ c from fun _ _ => by subst hy2; exact h)
      have HNY := Shh.mk (fun (h : (y2[0]'hyk2) = c) => show Taken us a (k + 1) c (ts ++ [y2.extract 1 y2.size]) from by subst hy2; exact HNX.out h)
      rw [hy2] at ck hyz
      obtain ⟨B2, hB2⟩ : ∃ B2 : Int, ((y2[0]'hyk2).toNat : Int) = B2 := ⟨_, rfl⟩
      have hyi : (1 : Int) ≤ (y2.size : Int) := by omega
      clear hy2 HNX hyk
      by_cases he : B2 = C
      · have hec : y2[0]'hyk2 = c := UInt8.toNat_inj.1 (by omega)
        have HT2 := Shh.mk (HNY.out hec)
        have heb : (B2 == C) = true := beq_iff_eq.2 he
        obtain ⟨T2, hT2⟩ : ∃ T2, y2.extract 1 y2.size = T2 := ⟨_, rfl⟩
        rw [hT2] at HT2
        clear hec he
        go_wp2_with (at_builtin; refine wpList_append_own _ rfl _ _ 38 rfl W.heap.size 9 i0 (.string ByteArray.empty) 1 16 Tryd.underlying38 hinf hz0 hz1 hz2 rfl (by decide) _ _ _ rfl (World.ownsRow.alloc ho.out _) ⟨wr.heap.size, 0, none⟩ 1 1 [.string T2] rfl rfl (cell_one_new _ _ _) (by intro u hu; simp at hu; subst hu; rfl) (by unfold maxLen; omega) (by omega) (by have := hb.size; rw [World.size_alloc]; omega) ?_; intro v' w1 hown' hgrow _; obtain ⟨g', cap', rfl⟩ := ownsRow_succ hown'; have HO1 := Shh.mk (own_snoc hown' rfl); have HB1 := Shh.mk ((hb.alloc hb.size (.cells #[.string T2] 9)).grown hgrow (by have := hb.size; rw [World.size_alloc]; omega) (own_block ho.out)); clear hown' hgrow)
        go_roundw
        case rel => exact ⟨k + 1, _, by omega, by omega, by go_num, HO1, HT2, HB1.out⟩
        case measure => simp [intOf]; omega
      · have hec : ¬ y2[0]'hyk2 = c := fun e => he (by rw [← hB2, ← hC, e])
        have heb : (B2 == C) = false := beq_eq_false_iff_ne.2 he
        have HND2 := Shh.mk (HND.out hec)
        have HAK := Shh.mk (show a < k from by
          rcases Nat.lt_or_ge a k with h | h
          · exact h
          · exfalso
            have e : k = a := by omega
            subst e
            exact HND.out hec hk (HNE.out k (Nat.le_refl _) hk) HC0.out)
        clear hec he
        go_wp2
        go_ret2
        exact ⟨_, ts, k, c, rfl, ho.out, ht.out, HAK.out, hkl, HND2.out, hb⟩
    · obtain rfl : k = us.length := by omega
      go_wp2
      go_ret2
      exact ⟨_, ts, _, c, rfl, ho.out, ht.out, ha, Nat.le_refl _, fun h => absurd h (by omega), hb⟩
end Go.Proofs.YtokfkofclpajfaaDoor
