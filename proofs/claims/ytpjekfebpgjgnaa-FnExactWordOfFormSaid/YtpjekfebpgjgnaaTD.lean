/-
  The word of a form: the model's side; both against one answer.
-/
import Derived.Test.YtpjekfebpgjgnaaTC
import Derived.Test.YtpjekfebpgjgnaaLA
namespace Go.Proofs.Ytpjekfebpgjgnaa
open Go.RowKit

def noneW : Value := .tuple #[.string ⟨#[]⟩, .int .i64 0, .bool false]
def someW (w : ByteArray) (k : Nat) : Value := .tuple #[.string w, .int .i64 (k : Int), .bool true]
theorem wordF2 {s : ByteArray} {b : Bool} (h : isWordB s.data.toList = b) (w : World) (hs : s.size ≤ 2097152) : Calls Try.prog 78 #[.string s] w fun e w' => e = .returned (.bool b) ∧ w = w' := by
  rw [← h]; exact specIsWord_any s w (by unfold maxLen; omega)
theorem neSelf (a : ByteArray) : (a.toList != a.toList) = false := by simp
theorem neOther {a b : ByteArray} (h : ¬ a = b) : (a.toList != b.toList) = true := by
  have := strNe h
  simp [bne, this]
set_option maxHeartbeats 2000000 in
theorem l09Word_one {s W : ByteArray} {b : Bool} (hp : pc s (cuts s 62) = [s]) (hW : backS s = W) (hb : isWordB W.data.toList = b) (hs : s.size ≤ 1048576) (r : Value) (h1 : s.size = 0 → r = noneW) (h3 : b = false → r = noneW) (h4 : 0 < s.size → b = true → r = someW W s.size) (w : World) :
    Calls Try.prog 122 #[.string s] w fun e w' => e = .returned r ∧ Below w.heap.size w w' := by
  have HSP := ShR.mk (l01Split_any s 62 w hs)
  rw [hp] at HSP
  have HBK := ShR.mk (fun w => l08Back_any s w hs)
  rw [hW] at HBK
  have hWs : W.size = s.size := by rw [← hW, backS_size]
  have HFM := ShR.mk (fun w => l09Form_all W w (by omega))
  rw [show backS W = s by rw [← hW, backS_back], hWs] at HFM
  have hne := neSelf s
  have HB := ShR.mk hb
  clear hp hW hb
  go_enter Try.func122, Try.ntmps122
  go_wp2_with fail
  refine HSP.out.mono ?_
  rintro e w1 ⟨v, rfl, ho, hb1⟩
  have ho2 : w1.ownsRow w.heap.size 9 1 v 1 [.string s] := ho
  obtain ⟨a, cap, rfl, hc1, hc2, hg⟩ := own_form ho2
  obtain ⟨g, rfl, hg1, hg2⟩ := hg (by omega)
  have c0 : w1.cell? ⟨g, 0, none⟩ = some (.string s) := by
    have := World.ownsRow.cellAt (size := 1) ho2 0 (by omega)
    simpa using this
  have HB1 := ShR.mk hb1
  clear ho ho2 hb1
  go_wp2_with fail
  refine (HBK.out _).mono ?_
  rintro e w2 ⟨rfl, hb2⟩
  have HB2 := ShR.mk (HB1.out.trans (hb2.mono HB1.out.size))
  clear hb2 c0
  rcases Nat.eq_zero_or_pos s.size with h0 | h0
  · have hz : ((s.size : Int) == 0) = true := beq_iff_eq.2 (by omega)
    have HR := ShR.mk (h1 h0)
    clear h1 h3 h4 h0
    go_wp2
    go_ret3
    exact ⟨by rw [HR.out]; rfl, HB2.out⟩
  · have hz : ((s.size : Int) == 0) = false := beq_eq_false_iff_ne.2 (by omega)
    cases b
    · have HR := ShR.mk (h3 rfl)
      clear h1 h3 h4
      go_wp2_with fail
      refine (wordF2 HB.out _ (by omega)).mono ?_
      rintro e w3 ⟨rfl, rfl⟩
      go_wp2
      go_ret3
      exact ⟨by rw [HR.out]; rfl, HB2.out⟩
    · have HR := ShR.mk (h4 h0 rfl)
      clear h1 h3 h4
      go_wp2_with fail
      refine (wordF2 HB.out _ (by omega)).mono ?_
      rintro e w3 ⟨rfl, rfl⟩
      go_wp2_with fail
      refine (HFM.out _).mono ?_
      rintro e w4 ⟨rfl, hb4⟩
      go_wp2
      go_ret3
      exact ⟨by rw [HR.out]; rfl, HB2.out.trans (hb4.mono HB2.out.size)⟩
set_option maxHeartbeats 2000000 in
theorem l09Word_two {s x y W : ByteArray} {b : Bool} (hp : pc s (cuts s 62) = [x, y]) (hl : s.data.toList = x.data.toList ++ 62 :: y.data.toList) (hW : backS x ++ y = W) (hb : isWordB W.data.toList = b) (hs : s.size ≤ 1048576) (r : Value)
    (h1 : x.size = 0 → r = noneW) (h2 : 0 < x.size → y.size = 0 → r = noneW) (h3 : b = false → r = noneW) (h4 : 0 < x.size → 0 < y.size → b = true → r = someW W x.size) (w : World) :
    Calls Try.prog 122 #[.string s] w fun e w' => e = .returned r ∧ Below w.heap.size w w' := by
  have hsz := cut_size hl
  have HSP := ShR.mk (l01Split_any s 62 w hs)
  rw [hp] at HSP
  have HBK := ShR.mk (fun w => l08Back_any x w (by omega))
  have hWs : W.size = x.size + y.size := by rw [← hW, ByteArray.size_append, backS_size]
  have HFA := ShR.mk (fun w => l09Form_all W w (by omega))
  have HNA := ShR.mk (fun (h : y.size = 0) => show ((backS W).toList == s.toList) = false from strNe (fun e => by have := congrArg ByteArray.size e; rw [backS_size] at this; omega))
  have HFP := ShR.mk (fun (h : x.size < W.size) w => l09Form_part (x := backS x) (y := y) h (by rw [← hW]; exact word_take x y) (by rw [← hW]; exact word_drop x y) w (by omega))
  rw [form_back hl] at HFP
  have hzs := backS_size x
  have HW := ShR.mk hW
  obtain ⟨Z, hZ⟩ : ∃ Z, backS x = Z := ⟨_, rfl⟩
  rw [hZ] at HBK hzs HW
  have hsum : ¬ 9223372036854775807 < Z.size + y.size := by omega
  have hne := neSelf s
  have HB := ShR.mk hb
  obtain ⟨V, hV⟩ : ∃ V, backS W = V := ⟨_, rfl⟩
  rw [hV] at HFA HNA
  clear hp hW hb hZ hl hV
  go_enter Try.func122, Try.ntmps122
  go_wp2_with fail
  refine HSP.out.mono ?_
  rintro e w1 ⟨v, rfl, ho, hb1⟩
  have ho2 : w1.ownsRow w.heap.size 9 1 v 2 [.string x, .string y] := ho
  obtain ⟨a, cap, rfl, hc1, hc2, hg⟩ := own_form ho2
  obtain ⟨g, rfl, hg1, hg2⟩ := hg (by omega)
  have c0 : w1.cell? ⟨g, 0, none⟩ = some (.string x) := by
    have := World.ownsRow.cellAt (size := 1) ho2 0 (by omega)
    simpa using this
  have c1 : w1.cell? ⟨g, 1, none⟩ = some (.string y) := by
    have := World.ownsRow.cellAt (size := 1) ho2 1 (by omega)
    simpa using this
  have HB1 := ShR.mk hb1
  clear ho ho2 hb1
  go_wp2_with fail
  refine (HBK.out _).mono ?_
  rintro e w2 ⟨rfl, hb2⟩
  have HB2 := ShR.mk (HB1.out.trans (hb2.mono HB1.out.size))
  have c2 : w2.cell? ⟨g, 1, none⟩ = some (.string y) := (hb2.cell (p := ⟨g, 1, none⟩) hg2).trans c1
  clear hb2 c0 c1
  rcases Nat.eq_zero_or_pos x.size with h0 | h0
  · have hz : ((x.size : Int) == 0) = true := beq_iff_eq.2 (by omega)
    have HR := ShR.mk (h1 h0)
    clear h1 h2 h3 h4 h0
    go_wp2
    go_ret3
    exact ⟨by rw [HR.out]; rfl, HB2.out⟩
  · have hz : ((x.size : Int) == 0) = false := beq_eq_false_iff_ne.2 (by omega)
    cases b
    · have HR := ShR.mk (h3 rfl)
      clear h1 h2 h3 h4
      go_wp2_with fail
      rw [HW.out]
      refine (wordF2 HB.out _ (by omega)).mono ?_
      rintro e w3 ⟨rfl, rfl⟩
      go_wp2
      go_ret3
      exact ⟨by rw [HR.out]; rfl, HB2.out⟩
    · rcases Nat.eq_zero_or_pos y.size with hy0 | hy0
      · have HR := ShR.mk (h2 h0 hy0)
        have hnv := HNA.out hy0
        have HXW := ShR.mk (show (x.size : Int) = (W.size : Int) by omega)
        clear h1 h2 h3 h4
        go_wp2_with fail
        rw [HW.out]
        refine (wordF2 HB.out _ (by omega)).mono ?_
        rintro e w3 ⟨rfl, rfl⟩
        go_wp2_with fail
        rw [HXW.out]
        refine (HFA.out _).mono ?_
        rintro e w4 ⟨rfl, hb4⟩
        go_wp2
        go_ret3
        exact ⟨by rw [HR.out]; rfl, HB2.out.trans (hb4.mono HB2.out.size)⟩
      · have HR := ShR.mk (h4 h0 hy0 rfl)
        clear h1 h2 h3 h4
        go_wp2_with fail
        rw [HW.out]
        refine (wordF2 HB.out _ (by omega)).mono ?_
        rintro e w3 ⟨rfl, rfl⟩
        go_wp2_with fail
        refine (HFP.out (by omega) _).mono ?_
        rintro e w4 ⟨rfl, hb4⟩
        go_wp2
        go_ret3
        exact ⟨by rw [HR.out]; rfl, HB2.out.trans (hb4.mono HB2.out.size)⟩
set_option maxHeartbeats 1000000 in
theorem l09Word_more {s : ByteArray} (hp : 2 < (pc s (cuts s 62)).length) (hs : s.size ≤ 1048576) (w : World) :
    Calls Try.prog 122 #[.string s] w fun e w' => e = .returned noneW ∧ Below w.heap.size w w' := by
  have HSP := ShR.mk (l01Split_any s 62 w hs)
  have hpi : (2 : Int) < ((pc s (cuts s 62)).length : Int) := by omega
  obtain ⟨ps, hps⟩ : ∃ ps, pc s (cuts s 62) = ps := ⟨_, rfl⟩
  rw [hps] at HSP hpi
  clear hp hps
  go_enter Try.func122, Try.ntmps122
  go_wp2_with fail
  refine HSP.out.mono ?_
  rintro e w1 ⟨v, rfl, ho, hb1⟩
  obtain ⟨a, cap, rfl, hc1, hc2, -⟩ := own_form ho
  clear ho
  go_wp2
  go_ret3
  exact ⟨rfl, hb1⟩

set_option maxHeartbeats 1000000 in
theorem specWof_of {s : ByteArray} {r : Value} (h : (∀ w, Calls Try.prog 122 #[.string s] w fun e w' => e = .returned noneW ∧ Below w.heap.size w w') ∧ r = failW ∨ ∃ W k, (∀ w, Calls Try.prog 122 #[.string s] w fun e w' => e = .returned (someW W k) ∧ Below w.heap.size w w') ∧ r = foundW W k) (w : World) :
    Calls Try.prog 59 #[.string s] w fun e w' => e = .returned r ∧ Below w.heap.size w w' := by
  rcases h with ⟨h, rfl⟩ | ⟨W, k, h, rfl⟩
  · unfold noneW at h
    go_enter Try.func59, Try.ntmps59
    go_wp2_with fail
    refine (h _).mono ?_
    rintro e w1 ⟨rfl, hb1⟩
    go_wp2
    go_ret3
    exact ⟨rfl, hb1⟩
  · unfold someW at h
    go_enter Try.func59, Try.ntmps59
    go_wp2_with fail
    refine (h _).mono ?_
    rintro e w1 ⟨rfl, hb1⟩
    go_wp2
    go_ret3
    exact ⟨rfl, hb1⟩
/-- Both sides answer alike. -/
theorem wof_both (s : ByteArray) (hs : s.size ≤ 1048576) : ∃ (W : ByteArray) (k c : Int), (∀ w, Calls Try.prog 59 #[.string s] w fun e w' => e = .returned (.tuple #[.string W, .int .i64 k, .int .i64 c]) ∧ Below w.heap.size w w') ∧
    (∀ w, Calls Try.prog 60 #[.string s] w fun e w' => e = .returned (.tuple #[.string W, .int .i64 k, .int .i64 c]) ∧ Below w.heap.size w w') := by
  have pack : ∀ r : Value, (r = failW ∨ ∃ W k, r = foundW W k) → ((∀ w, Calls Try.prog 59 #[.string s] w fun e w' => e = .returned r ∧ Below w.heap.size w w') ∧ (∀ w, Calls Try.prog 60 #[.string s] w fun e w' => e = .returned r ∧ Below w.heap.size w w')) →
      ∃ (W : ByteArray) (k c : Int), (∀ w, Calls Try.prog 59 #[.string s] w fun e w' => e = .returned (.tuple #[.string W, .int .i64 k, .int .i64 c]) ∧ Below w.heap.size w w') ∧
        (∀ w, Calls Try.prog 60 #[.string s] w fun e w' => e = .returned (.tuple #[.string W, .int .i64 k, .int .i64 c]) ∧ Below w.heap.size w w') := by
    rintro r (rfl | ⟨W, k, rfl⟩) h
    · exact ⟨_, _, _, h⟩
    · exact ⟨_, _, _, h⟩
  rcases gtCut s with ⟨h, hi⟩ | ⟨i, hi, hl, hsl, hf⟩
  · have hp := split_none h
    have hcut : ∀ w, Calls Try.prog 123 #[.string s, .string ⟨#[62]⟩] w fun e w' => e = .returned (.tuple #[.string s, .string ⟨#[]⟩, .bool false]) ∧ Below w.heap.size w w' := fun w => cut_of (fun w => liteCut_none hi w) w rfl
    have hW : backS s ++ (⟨#[]⟩ : ByteArray) = backS s := by
      apply bytesOf_inj
      unfold bytesOf
      rw [cat_list]
      simp
    have he : (⟨#[]⟩ : ByteArray).size = 0 := rfl
    by_cases hg : s.size = 0 ∨ isWordB (backS s).data.toList = false
    · refine pack failW (.inl rfl) ⟨fun w => specWof_of (.inl ⟨fun w => l09Word_one hp rfl rfl hs noneW (fun _ => rfl) (fun _ => rfl) (fun h1 h2 => ?_) w, rfl⟩) w,
        fun w => implWof_any hcut hs (by omega) hW rfl failW (fun _ => rfl) (fun _ _ _ => rfl) (fun _ => rfl) (fun h1 _ h2 => ?_) w⟩
      all_goals
        exfalso
        rcases hg with hg | hg
        · omega
        · rw [hg] at h2; cases h2
    · have hg1 : s.size ≠ 0 := fun e => hg (.inl e)
      have hg2 : isWordB (backS s).data.toList = true := by
        cases hc : isWordB (backS s).data.toList
        · exact absurd (.inr hc) hg
        · rfl
      refine pack (foundW (backS s) s.size) (.inr ⟨_, _, rfl⟩) ⟨fun w => specWof_of (.inr ⟨_, _, fun w => l09Word_one hp rfl hg2 hs (someW (backS s) s.size) (fun e => absurd e hg1) (fun e => by cases e) (fun _ _ => rfl) w, rfl⟩) w,
        fun w => implWof_any hcut hs (by omega) hW hg2 (foundW (backS s) s.size) (fun e => absurd e hg1) (fun _ e _ => by cases e) (fun e => by cases e) (fun _ _ _ => rfl) w⟩
  · obtain ⟨x, hx⟩ : ∃ x, s.extract 0 i = x := ⟨_, rfl⟩
    obtain ⟨y, hy⟩ : ∃ y, s.extract (i + 1) s.size = y := ⟨_, rfl⟩
    rw [hx, hy] at hsl
    rw [hx] at hf
    have hsz := cut_size hsl
    have hcut : ∀ w, Calls Try.prog 123 #[.string s, .string ⟨#[62]⟩] w fun e w' => e = .returned (.tuple #[.string x, .string y, .bool true]) ∧ Below w.heap.size w w' := fun w => cut_of (fun w => liteCut_some hi hl hx hy hs w) w rfl
    by_cases hm : (62 : UInt8) ∈ y.data.toList
    · have hnw : isWordB (backS x ++ y).data.toList = false := no_gt (by rw [back_cat]; exact List.mem_append_right _ hm)
      refine pack failW (.inl rfl) ⟨fun w => specWof_of (.inl ⟨fun w => l09Word_more (split_more hsl hf hm) hs w, rfl⟩) w,
        fun w => implWof_any hcut (by omega) (by omega) rfl hnw failW (fun _ => rfl) (fun _ _ _ => rfl) (fun _ => rfl) (fun _ _ h2 => by cases h2) w⟩
    · have hp := split_two hsl hf hm
      by_cases hg : x.size = 0 ∨ y.size = 0 ∨ isWordB (backS x ++ y).data.toList = false
      · refine pack failW (.inl rfl) ⟨fun w => specWof_of (.inl ⟨fun w => l09Word_two hp hsl rfl rfl hs noneW (fun _ => rfl) (fun _ _ => rfl) (fun _ => rfl) (fun h1 h3 h2 => ?_) w, rfl⟩) w,
          fun w => implWof_any hcut (by omega) (by omega) rfl rfl failW (fun _ => rfl) (fun _ _ _ => rfl) (fun _ => rfl) (fun h1 h3' h2 => ?_) w⟩
        · exfalso
          rcases hg with hg | hg | hg
          · omega
          · omega
          · rw [hg] at h2; cases h2
        · exfalso
          have h3 := h3' rfl
          rcases hg with hg | hg | hg
          · omega
          · omega
          · rw [hg] at h2; cases h2
      · have hg1 : x.size ≠ 0 := fun e => hg (.inl e)
        have hg3 : y.size ≠ 0 := fun e => hg (.inr (.inl e))
        have hg2 : isWordB (backS x ++ y).data.toList = true := by
          cases hc : isWordB (backS x ++ y).data.toList
          · exact absurd (.inr (.inr hc)) hg
          · rfl
        refine pack (foundW (backS x ++ y) x.size) (.inr ⟨_, _, rfl⟩) ⟨fun w => specWof_of (.inr ⟨_, _, fun w => l09Word_two hp hsl rfl hg2 hs (someW (backS x ++ y) x.size) (fun e => absurd e hg1) (fun _ e => absurd e hg3) (fun e => by cases e) (fun _ _ _ => rfl) w, rfl⟩) w,
          fun w => implWof_any hcut (by omega) (by omega) rfl hg2 (foundW (backS x ++ y) x.size) (fun e => absurd e hg1) (fun _ _ e => absurd e hg3) (fun e => by cases e) (fun _ _ _ => rfl) w⟩
end Go.Proofs.Ytpjekfebpgjgnaa
