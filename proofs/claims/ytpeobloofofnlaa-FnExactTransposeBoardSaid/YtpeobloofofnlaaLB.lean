/-
  A word put to its place by the model: l03Insert.
-/
import Derived.Test.YtpeobloofofnlaaLA
import Derived.Test.YtpeobloofofnlaaL3
namespace Go.Proofs.Ytpeobloofofnlaa
open Go.RowKit

theorem strAt_takeL {ss : List ByteArray} {k j : Nat} (h : j < k) : strAt (ss.take k) j = strAt ss j := by
  unfold strAt
  simp [List.getD_eq_getElem?_getD, h]
theorem strAt_dropL (ss : List ByteArray) (i j : Nat) : strAt (ss.drop i) j = strAt ss (i + j) := by
  simp [strAt, List.getD_eq_getElem?_getD]
theorem Strs.takeL {w : World} {a : Option Addr} {n cap : Nat} {us : List ByteArray} (h : Strs w (.slice a n cap) us) {k : Nat} (hk : k ≤ us.length) : Strs w (.slice a k cap) (us.take k) := by
  obtain ⟨a', cap', hv, h1, h2, h3⟩ := h
  cases hv
  have hl : (us.take k).length = k := by simp; omega
  refine ⟨a, cap, by rw [hl], by omega, h2, fun hp => ?_⟩
  obtain ⟨b, off, ha, hb, hc⟩ := h3 (by omega)
  refine ⟨b, off, ha, hb, fun j hj => ?_⟩
  rw [hl] at hj
  rw [hc j (by omega), strAt_takeL hj]
theorem Strs.dropL {w : World} {b off n cap : Nat} {us : List ByteArray} (h : Strs w (.slice (some ⟨b, off, none⟩) n cap) us) {k : Nat} (hk : k ≤ us.length) : Strs w (.slice (some ⟨b, off + k, none⟩) (n - k) (cap - k)) (us.drop k) := by
  obtain ⟨a', cap', hv, h1, h2, h3⟩ := h
  cases hv
  have hl : (us.drop k).length = us.length - k := by simp
  refine ⟨some ⟨b, off + k, none⟩, cap - k, by rw [hl], by omega, by omega, fun hp => ?_⟩
  obtain ⟨b', off', ha, hb, hc⟩ := h3 (by omega)
  cases ha
  refine ⟨b, off + k, rfl, hb, fun j hj => ?_⟩
  rw [hl] at hj
  rw [strAt_dropL, Nat.add_assoc]
  exact hc _ (by omega)
theorem Strs.void (w : World) (a : Option Addr) {c : Nat} (hc : c ≤ maxLen) : Strs w (.slice a 0 c) [] := ⟨a, c, rfl, Nat.zero_le _, hc, fun h => absurd h (by simp)⟩
theorem Strs.made1 (w : World) (s : ByteArray) : Strs (w.alloc (.cells #[.string s] 9)) (.slice (some ⟨w.heap.size, 0, none⟩) 1 1) [s] := by
  refine ⟨_, 1, rfl, Nat.le_refl _, by unfold maxLen; omega, fun _ => ⟨w.heap.size, 0, rfl, by simp, fun j hj => ?_⟩⟩
  have hj0 : j = 0 := by simp at hj; omega
  subst hj0
  exact (Blk.made w 9 #[.string s]).cells 0

/-- The walk from the end of a list down to the place of a text. -/
theorem back_new {ss : List ByteArray} {s : ByteArray} (hr : Rise ss) (hno : hasL ss s = false) {k : Nat} (hk : k ≤ ss.length) (hb : ∀ j, k ≤ j → j < ss.length → upS s (strAt ss j) = true)
    (hx : k = 0 ∨ upS s (strAt ss (k - 1)) = false) : firstG ss s = k := by
  refine firstG_is hk (fun j hj => ?_) (fun h => upS_asymm (hb k (Nat.le_refl _) h))
  rcases hx with hx | hx
  · omega
  · have h1 : upS (strAt ss (k - 1)) s = true := upS_tri hx (fun e => hasL_no hno hr (j := k - 1) (by omega) e.symm)
    rcases Nat.lt_or_ge j (k - 1) with h2 | h2
    · exact upS_trans (hr j (k - 1) h2 (by omega)) h1
    · obtain rfl : j = k - 1 := by omega
      exact h1
theorem back_has {ss : List ByteArray} {s : ByteArray} (hr : Rise ss) (hyes : hasL ss s = true) {k : Nat} (hk : k ≤ ss.length) (hb : ∀ j, k ≤ j → j < ss.length → upS s (strAt ss j) = true)
    (hx : k = 0 ∨ upS s (strAt ss (k - 1)) = false) : 0 < k ∧ strAt ss (k - 1) = s := by
  rw [hasL_is, decide_eq_true_eq] at hyes
  obtain ⟨h1, h2⟩ := hyes
  have hlt : firstG ss s < k := by
    rcases Nat.lt_or_ge (firstG ss s) k with h | h
    · exact h
    · have := hb _ h h1
      rw [h2, upS_irr] at this
      cases this
  rcases hx with hx | hx
  · omega
  · refine ⟨by omega, ?_⟩
    rcases Nat.lt_or_ge (firstG ss s) (k - 1) with h | h
    · have := hr _ _ h (by omega)
      rw [h2, hx] at this
      cases this
    · rw [show k - 1 = firstG ss s by omega]
      exact h2
theorem back_step {ss : List ByteArray} {s : ByteArray} {k : Nat} (hb : ∀ j, k + 1 ≤ j → j < ss.length → upS s (strAt ss j) = true) (h : upS s (strAt ss k) = true) : ∀ j, k ≤ j → j < ss.length → upS s (strAt ss j) = true := by
  intro j h1 h2
  rcases Nat.lt_or_ge k j with h3 | h3
  · exact hb j h3 h2
  · obtain rfl : j = k := by omega
    exact h

set_option maxRecDepth 100000 in
set_option maxHeartbeats 2000000 in
theorem insert_has {v : Value} {ss : List ByteArray} (w : World) (s : ByteArray) (h : Strs w v ss) (hr : Rise ss) (hyes : hasL ss s = true) :
    Calls Try.prog 220 #[v, .string s] w fun e w' => e = .returned v ∧ w' = w := by
  have hl := h.len
  obtain ⟨a, cap, rfl, hl1, hm, hc⟩ := h
  have HC := Shh.mk hc
  have HB := Shh.mk (fun k h1 h2 h3 => back_has (k := k) hr hyes h1 h2 h3)
  clear hc hr hyes
  go_enter Try.func220, Try.ntmps220
  go_wp2
  go_loop [5] (fun i => ∃ k : Nat, k ≤ ss.length ∧ i = .int .i64 k ∧ Hid (∀ j, k ≤ j → j < ss.length → upS s (strAt ss j) = true)) (fun i => (intOf i).toNat)
  case atStart => exact ⟨ss.length, Nat.le_refl _, rfl, fun j h1 h2 => absurd h1 (by omega)⟩
  case round =>
    obtain ⟨k, hk, rfl, ht⟩ := hrel
    rcases Nat.eq_zero_or_pos k with hk0 | hk0
    · have := HB.out k hk ht (.inl hk0)
      omega
    · obtain ⟨j, rfl⟩ : ∃ j, k = j + 1 := ⟨k - 1, by omega⟩
      obtain ⟨b, off, rfl, hb, hcc⟩ := HC.out (by omega)
      have ck := hcc j (by omega)
      have hp1 : ((j + 1 : Nat) : Int) - 1 = (j : Int) := by omega
      have hp3 : IntKind.i64.wrap (j : Int) = (j : Int) := IntWalk.i64_in _ (by omega)
      cases hup : upS s (strAt ss j)
      · have hy := (HB.out (j + 1) hk ht (.inr hup)).2
        rw [show j + 1 - 1 = j by omega] at hy
        rw [hy] at ck hup
        have hcmp : Op.bytesLess s.toList s.toList = false := hup
        have heq := strSame s
        clear hcc hy hup ht
        go_wp2
        go_ret
        exact ⟨rfl, rfl⟩
      · have HT := Shh.mk (back_step ht hup)
        obtain ⟨y, hy⟩ : ∃ y, strAt ss j = y := ⟨_, rfl⟩
        rw [hy] at ck hup
        have hcmp : Op.bytesLess y.toList s.toList = false := upS_asymm hup
        have hne : (y.toList == s.toList) = false := strNe fun e => upS_ne hup e.symm
        clear hcc hy hup ht
        go_wp2
        go_round
        case rel => exact ⟨j, by omega, by go_num, HT.out⟩
        case measure => simp [intOf]
theorem own_litE {w w1 : World} (h : w.heap.size ≤ w1.heap.size) : ∀ k, (Value.slice (some ⟨w1.heap.size, 0, none⟩) 0 0).ownBlock = some k → w.heap.size ≤ k := by
  intro k hk
  simp [Value.ownBlock] at hk
  omega

set_option maxRecDepth 100000 in
set_option maxHeartbeats 2000000 in
theorem insert_new {v : Value} {ss : List ByteArray} (w : World) (s : ByteArray) (h : Strs w v ss) (hr : Rise ss) (hn : ss.length ≤ 1048577) (hno : hasL ss s = false) :
    Calls Try.prog 220 #[v, .string s] w fun e w' => ∃ v', e = .returned v' ∧ OwnS w.heap.size w' v' (insL ss s) ∧ Below w.heap.size w w' := by
  have HST := Shh.mk h
  have hl := h.len
  obtain ⟨a, cap, rfl, hl1, hm, hc⟩ := h
  have HC := Shh.mk hc
  have HB := Shh.mk (fun k h1 h2 h3 => back_new (k := k) hr hno h1 h2 h3)
  have HNO := Shh.mk (fun (j : Nat) (hj : j < ss.length) => hasL_no hno hr hj)
  clear hc hr hno
  go_enter Try.func220, Try.ntmps220
  go_wp2
  go_loop [5] (fun i => ∃ k : Nat, k ≤ ss.length ∧ i = .int .i64 k ∧ Hid (∀ j, k ≤ j → j < ss.length → upS s (strAt ss j) = true)) (fun i => (intOf i).toNat)
  case atStart => exact ⟨ss.length, Nat.le_refl _, rfl, fun j h1 h2 => absurd h1 (by omega)⟩
  case round =>
    obtain ⟨k, hk, rfl, ht⟩ := hrel
    rcases Nat.eq_zero_or_pos k with hk0 | hk0
    · have HK := Shh.mk (HB.out k hk ht (.inl hk0))
      have hz : decide (0 < k) = false := decide_eq_false (by omega)
      rcases Nat.eq_zero_or_pos ss.length with hs0 | hs0
      · have hnil : ss = [] := List.eq_nil_of_length_eq_zero hs0
        subst hnil
        subst hk0
        clear ht HB HNO hs0
        have h00 : ([] : List ByteArray).length = 0 := rfl
        rw [h00]
        rw [h00] at hl1
        rcases Nat.eq_zero_or_pos cap with hc0 | hc0
        all_goals
          rcases a with _ | a
          all_goals
            go_wp2_with (at_builtin; refine wpList_append_strs rfl _ _ rfl rfl rfl (show OwnS w.heap.size _ _ [] from World.ownsRow_lit _ _ 0 (Nat.le_refl _) (by unfold maxLen; omega) rfl) (Strs.void _ _ (by first | exact hm | exact Nat.zero_le _)) (by simp) (by simp) ?_)
            intro v1 w1 ho1 hg1
            have hb1 := ((Below.refl w.heap.size w).alloc (Nat.le_refl _) (.cells #[] 9)).grown hg1 (by simp) (own_litE (Nat.le_refl _))
            have HO1 := Shh.mk (OwnS.kept ho1 ((Below.refl _ _).alloc (Nat.le_refl _) (.cells #[.string s] 9)))
            have HB1 := Shh.mk (hb1.alloc hb1.size (.cells #[.string s] 9))
            clear ho1 hg1 hb1
            go_wp2_with (at_builtin; refine wpList_append_strs rfl _ _ rfl rfl rfl HO1.out (Strs.made1 _ s) (by simp) HB1.out.size ?_)
            intro v2 w2 ho2 hg2
            have HB2 := Shh.mk (HB1.out.grown hg2 HB1.out.size (OwnS.block HO1.out))
            have HO2 := Shh.mk ho2
            clear ho2 hg2 HB1 HO1
            go_wp2_with (at_builtin; refine wpList_append_strs rfl _ _ rfl rfl rfl HO2.out (Strs.void _ _ (by first | exact hm | exact Nat.zero_le _)) (by simp) HB2.out.size ?_)
            intro v3 w3 ho3 hg3
            have HB3 := Shh.mk (HB2.out.grown hg3 HB2.out.size (OwnS.block HO2.out))
            have HO3 := Shh.mk (show OwnS w.heap.size w3 v3 (insL [] s) from ho3)
            clear ho3 hg3 HB2 HO2
            go_wp2
            go_ret
            exact ⟨_, rfl, HO3.out, HB3.out⟩
      · obtain ⟨b, off, rfl, hb, -⟩ := HC.out hs0
        clear ht HB HNO hk0
        have hka : (k : Int) ≤ (ss.length : Int) := by omega
        go_wp2_with (at_builtin; refine wpList_append_strs rfl _ _ rfl rfl rfl (show OwnS w.heap.size _ _ [] from World.ownsRow_lit _ _ 0 (Nat.le_refl _) (by unfold maxLen; omega) rfl) ((HST.out.takeL (k := k) hk).alloc _) (by simp; omega) (by simp) ?_)
        intro v1 w1 ho1 hg1
        have hb1 := ((Below.refl w.heap.size w).alloc (Nat.le_refl _) (.cells #[] 9)).grown hg1 (by simp) (own_litE (Nat.le_refl _))
        have HO1 := Shh.mk (OwnS.kept ho1 ((Below.refl _ _).alloc (Nat.le_refl _) (.cells #[.string s] 9)))
        have HB1 := Shh.mk (hb1.alloc hb1.size (.cells #[.string s] 9))
        clear ho1 hg1 hb1
        go_wp2_with (at_builtin; refine wpList_append_strs rfl _ _ rfl rfl rfl HO1.out (Strs.made1 _ s) (by simp; omega) HB1.out.size ?_)
        intro v2 w2 ho2 hg2
        have HB2 := Shh.mk (HB1.out.grown hg2 HB1.out.size (OwnS.block HO1.out))
        have HO2 := Shh.mk ho2
        clear ho2 hg2 HB1 HO1
        by_cases hcf : cap = k
        · have HD := Shh.mk (show Strs w2 (.slice (some ⟨b, off, none⟩) (ss.length - k) 0) (ss.drop k) from by
            have e : ss.length - k = 0 := by omega
            rw [e, List.drop_eq_nil_of_le (by omega)]; exact Strs.void _ _ (Nat.zero_le _))
          go_wp2_with (at_builtin; refine wpList_append_strs rfl _ _ rfl rfl rfl HO2.out HD.out (by simp; omega) HB2.out.size ?_)
          intro v3 w3 ho3 hg3
          have HB3 := Shh.mk (HB2.out.grown hg3 HB2.out.size (OwnS.block HO2.out))
          have HO3 := Shh.mk (show OwnS w.heap.size w3 v3 (insL ss s) by unfold insL; rw [HK.out]; exact ho3)
          clear ho3 hg3 HB2 HO2
          go_wp2
          go_ret
          exact ⟨_, rfl, HO3.out, HB3.out⟩
        · have HD := Shh.mk ((HST.out.below HB2.out).dropL (k := k) hk)
          go_wp2_with (at_builtin; refine wpList_append_strs rfl _ _ rfl rfl rfl HO2.out HD.out (by simp; omega) HB2.out.size ?_)
          intro v3 w3 ho3 hg3
          have HB3 := Shh.mk (HB2.out.grown hg3 HB2.out.size (OwnS.block HO2.out))
          have HO3 := Shh.mk (show OwnS w.heap.size w3 v3 (insL ss s) by unfold insL; rw [HK.out]; exact ho3)
          clear ho3 hg3 HB2 HO2
          go_wp2
          go_ret
          exact ⟨_, rfl, HO3.out, HB3.out⟩
    · obtain ⟨j, hj⟩ : ∃ j, k = j + 1 := ⟨k - 1, by omega⟩
      obtain ⟨b, off, rfl, hb, hcc⟩ := HC.out (by omega)
      have ck := hcc j (by omega)
      have hp1 : (k : Int) - 1 = (j : Int) := by omega
      have hp3 : IntKind.i64.wrap (j : Int) = (j : Int) := IntWalk.i64_in _ (by omega)
      have hpos : decide (0 < k) = true := decide_eq_true (by omega)
      cases hup : upS s (strAt ss j)
      · have HK := Shh.mk (HB.out k hk ht (.inr (by rw [show k - 1 = j by omega]; exact hup)))
        have hne0 := HNO.out j (by omega)
        obtain ⟨y, hy⟩ : ∃ y, strAt ss j = y := ⟨_, rfl⟩
        rw [hy] at ck hup hne0
        have hcmp : Op.bytesLess y.toList s.toList = true := upS_tri hup (fun e => hne0 e.symm)
        have hne : (y.toList == s.toList) = false := strNe hne0
        clear hcc hy hup ht hne0 HB HNO hj hk0
        have hka : (k : Int) ≤ (ss.length : Int) := by omega
        go_wp2_with (at_builtin; refine wpList_append_strs rfl _ _ rfl rfl rfl (show OwnS w.heap.size _ _ [] from World.ownsRow_lit _ _ 0 (Nat.le_refl _) (by unfold maxLen; omega) rfl) ((HST.out.takeL (k := k) hk).alloc _) (by simp; omega) (by simp) ?_)
        intro v1 w1 ho1 hg1
        have hb1 := ((Below.refl w.heap.size w).alloc (Nat.le_refl _) (.cells #[] 9)).grown hg1 (by simp) (own_litE (Nat.le_refl _))
        have HO1 := Shh.mk (OwnS.kept ho1 ((Below.refl _ _).alloc (Nat.le_refl _) (.cells #[.string s] 9)))
        have HB1 := Shh.mk (hb1.alloc hb1.size (.cells #[.string s] 9))
        clear ho1 hg1 hb1
        go_wp2_with (at_builtin; refine wpList_append_strs rfl _ _ rfl rfl rfl HO1.out (Strs.made1 _ s) (by simp; omega) HB1.out.size ?_)
        intro v2 w2 ho2 hg2
        have HB2 := Shh.mk (HB1.out.grown hg2 HB1.out.size (OwnS.block HO1.out))
        have HO2 := Shh.mk ho2
        clear ho2 hg2 HB1 HO1
        by_cases hcf : cap = k
        · have HD := Shh.mk (show Strs w2 (.slice (some ⟨b, off, none⟩) (ss.length - k) 0) (ss.drop k) from by
            have e : ss.length - k = 0 := by omega
            rw [e, List.drop_eq_nil_of_le (by omega)]; exact Strs.void _ _ (Nat.zero_le _))
          go_wp2_with (at_builtin; refine wpList_append_strs rfl _ _ rfl rfl rfl HO2.out HD.out (by simp; omega) HB2.out.size ?_)
          intro v3 w3 ho3 hg3
          have HB3 := Shh.mk (HB2.out.grown hg3 HB2.out.size (OwnS.block HO2.out))
          have HO3 := Shh.mk (show OwnS w.heap.size w3 v3 (insL ss s) by unfold insL; rw [HK.out]; exact ho3)
          clear ho3 hg3 HB2 HO2
          go_wp2
          go_ret
          exact ⟨_, rfl, HO3.out, HB3.out⟩
        · have HD := Shh.mk ((HST.out.below HB2.out).dropL (k := k) hk)
          go_wp2_with (at_builtin; refine wpList_append_strs rfl _ _ rfl rfl rfl HO2.out HD.out (by simp; omega) HB2.out.size ?_)
          intro v3 w3 ho3 hg3
          have HB3 := Shh.mk (HB2.out.grown hg3 HB2.out.size (OwnS.block HO2.out))
          have HO3 := Shh.mk (show OwnS w.heap.size w3 v3 (insL ss s) by unfold insL; rw [HK.out]; exact ho3)
          clear ho3 hg3 HB2 HO2
          go_wp2
          go_ret
          exact ⟨_, rfl, HO3.out, HB3.out⟩
      · have HT := Shh.mk (back_step (k := j) (by rw [← hj]; exact ht) hup)
        obtain ⟨y, hy⟩ : ∃ y, strAt ss j = y := ⟨_, rfl⟩
        rw [hy] at ck hup
        have hcmp : Op.bytesLess y.toList s.toList = false := upS_asymm hup
        have hne : (y.toList == s.toList) = false := strNe fun e => upS_ne hup e.symm
        clear hcc hy hup ht
        go_wp2
        go_round
        case rel => exact ⟨j, by omega, by go_num, HT.out⟩
        case measure => simp [intOf]; omega
end Go.Proofs.Ytpeobloofofnlaa
