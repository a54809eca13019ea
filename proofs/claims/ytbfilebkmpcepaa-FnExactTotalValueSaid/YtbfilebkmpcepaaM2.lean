/-
  The contracts of ValueOf and CountOf.
-/
import Derived.Test.YtbfilebkmpcepaaM1
namespace Go.Proofs.Ytbfilebkmpcepaa
open Go.RowKit Go.Maps

theorem okT_facts {L : ByteArray} {zv zc : List Int} {b : Int} (h : okT L.data.toList zv zc b = true) :
    1 ≤ L.size ∧ L.size ≤ 26 ∧ zv.length = L.size ∧ zc.length = L.size ∧ (0 ≤ b ∧ b ≤ 4) ∧ lettersTo L.data.toList L.size = true ∧ numsTo zv zc L.size = true ∧ b + zc.sum ≤ 120 := by
  have hl := len_eq L
  simp only [okT, Bool.and_eq_true, decide_eq_true_eq, hl, inB_iff] at h
  obtain ⟨⟨⟨⟨⟨⟨h1, h2⟩, h3⟩, h4⟩, h5⟩, h6⟩, h7⟩ := h
  exact ⟨h1, letters_few h5, h2, h3, h4, h5, h6, h7⟩

/-- The value of a letter; 0 if there is none, or the tile set is not valid. -/
def valueB (L : ByteArray) (zv zc : List Int) (b c : Int) : Int := if okT L.data.toList zv zc b = true then lookTo L.data.toList zv L.size c else 0
/-- How many tiles of a kind there are. -/
def countB (L : ByteArray) (zc : List Int) (b c : Int) : Int := if c = 63 then b else lookTo L.data.toList zc L.size c
def countOfB (L : ByteArray) (zv zc : List Int) (b c : Int) : Int := if okT L.data.toList zv zc b = true then countB L zc b c else 0

set_option maxHeartbeats 1000000 in
theorem l02Count_any (B : Nat) (L : ByteArray) {vv vc : Value} {zc : List Int} (b c : Int) (w : World) (hL : L.size ≤ maxLen) (hp : Blk w B 32 #[.string L, vv, vc, .int .i64 b]) (hv : Ints .i64 w vc zc)
    (hz : L.size ≤ zc.length) (ho : lettersTo L.data.toList L.size = true) :
    Calls Try.prog 64 #[.pointer (some ⟨B, 0, none⟩), .int .u8 c] w fun e w' => e = .returned (.int .i64 (countB L zc b c)) ∧ w = w' := by
  have hvl := hv.len
  have HP := hid hp
  have c0 := hp.cells
  have HO := hid ho
  clear hp ho
  obtain ⟨a, cap, rfl, hl, hm, hc, -⟩ := hv
  unfold maxLen at hm
  by_cases h63 : c = 63
  · have h63b : (c == 63) = true := beq_iff_eq.2 h63
    have HR := hid (show countB L zc b c = b by unfold countB; rw [if_pos h63])
    clear h63 hc
    go_enter Try.func64, Try.ntmps64
    go_wp2
    go_ret
    exact ⟨ret_i64 HR.out.symm, rfl⟩
  · have h63b : (c == 63) = false := beq_eq_false_iff_ne.2 h63
    have HC := hid (show countB L zc b c = lookTo L.data.toList zc L.size c by unfold countB; rw [if_neg h63])
    clear h63
    go_enter Try.func64, Try.ntmps64
    go_wp2_with fail
    refine (l02Find_any B L b c w hL HP.out).mono ?_
    rintro e w1 ⟨hf, rfl⟩
    rcases hf with ⟨i, hi, hic, rfl⟩ | ⟨hno, rfl⟩
    · have HR := hid (HC.out.trans (lookTo_at (zs := zc) HO.out i hi hic))
      obtain ⟨ba, oa, rfl, hba, hca⟩ := hc (by omega)
      have ca := hca i (by omega)
      obtain ⟨x, hx⟩ : ∃ x, zc.getD i 0 = x := ⟨_, rfl⟩
      rw [hx] at ca
      have HX := hid (HR.out.trans hx)
      clear hx hca hc hic
      go_wp2
      go_ret
      exact ⟨ret_i64 HX.out.symm, rfl⟩
    · have HR := hid (HC.out.trans (lookTo_none (zs := zc) hno))
      clear hno hc
      go_wp2
      go_ret
      exact ⟨ret_i64 HR.out.symm, rfl⟩

set_option maxHeartbeats 1000000 in
theorem specValueOf_any (L : ByteArray) {vv vc : Value} {zv zc : List Int} (b c : Int) (w : World) (hL : L.size ≤ maxLen) (hv : Ints .i64 w vv zv) (hc : Ints .i64 w vc zc) :
    Calls Try.prog 33 #[.agg #[.string L, vv, vc, .int .i64 b], .int .u8 c] w fun e w' => e = .returned (.int .i64 (valueB L zv zc b c)) ∧ Below w.heap.size w w' := by
  cases hok : okT L.data.toList zv zc b
  · have HR := hid (show valueB L zv zc b c = 0 by simp [valueB, hok])
    have HK := hid hok
    clear hok
    go_enter Try.func33, Try.ntmps33
    go_wp2_with fail
    refine (l02Ok_any _ L b _ hL (Blk.made _ _ _) (hv.alloc _) (hc.alloc _)).mono ?_
    rw [HK.out]
    rintro e w1 ⟨rfl, n1, rfl⟩
    go_wp2
    go_ret
    exact ⟨ret_i64 HR.out.symm, below_drewN ((Below.refl _ _).alloc (Nat.le_refl _) _) _⟩
  · have HR := hid (show valueB L zv zc b c = lookTo L.data.toList zv L.size c by simp [valueB, hok])
    obtain ⟨h1, h26, hvn, hcn, -, hlet, -, -⟩ := okT_facts hok
    have HVN := hid hvn
    have HLT := hid hlet
    have HK := hid hok
    clear hok hvn hcn hlet
    go_enter Try.func33, Try.ntmps33
    go_wp2_with fail
    refine (l02Ok_any _ L b _ hL (Blk.made _ _ _) (hv.alloc _) (hc.alloc _)).mono ?_
    rw [HK.out]
    rintro e w1 ⟨rfl, n1, rfl⟩
    go_wp2_with fail
    refine (l02Value_any (zv := zv) _ L b c _ hL ((Blk.made w _ _).drewN n1) ((hv.alloc _).drewN n1) (Nat.le_of_eq HVN.out.symm) HLT.out).mono ?_
    rintro e w1 ⟨rfl, rfl⟩
    go_wp2
    go_ret
    exact ⟨ret_i64 HR.out.symm, below_drewN ((Below.refl _ _).alloc (Nat.le_refl _) _) _⟩

set_option maxHeartbeats 1000000 in
theorem specCountOf_any (L : ByteArray) {vv vc : Value} {zv zc : List Int} (b c : Int) (w : World) (hL : L.size ≤ maxLen) (hv : Ints .i64 w vv zv) (hc : Ints .i64 w vc zc) :
    Calls Try.prog 35 #[.agg #[.string L, vv, vc, .int .i64 b], .int .u8 c] w fun e w' => e = .returned (.int .i64 (countOfB L zv zc b c)) ∧ Below w.heap.size w w' := by
  cases hok : okT L.data.toList zv zc b
  · have HR := hid (show countOfB L zv zc b c = 0 by simp [countOfB, hok])
    have HK := hid hok
    clear hok
    go_enter Try.func35, Try.ntmps35
    go_wp2_with fail
    refine (l02Ok_any _ L b _ hL (Blk.made _ _ _) (hv.alloc _) (hc.alloc _)).mono ?_
    rw [HK.out]
    rintro e w1 ⟨rfl, n1, rfl⟩
    go_wp2
    go_ret
    exact ⟨ret_i64 HR.out.symm, below_drewN ((Below.refl _ _).alloc (Nat.le_refl _) _) _⟩
  · have HR := hid (show countOfB L zv zc b c = countB L zc b c by simp [countOfB, hok])
    obtain ⟨h1, h26, hvn, hcn, -, hlet, -, -⟩ := okT_facts hok
    have HCN := hid hcn
    have HLT := hid hlet
    have HK := hid hok
    clear hok hvn hcn hlet
    go_enter Try.func35, Try.ntmps35
    go_wp2_with fail
    refine (l02Ok_any _ L b _ hL (Blk.made _ _ _) (hv.alloc _) (hc.alloc _)).mono ?_
    rw [HK.out]
    rintro e w1 ⟨rfl, n1, rfl⟩
    go_wp2_with fail
    refine (l02Count_any (zc := zc) _ L b c _ hL ((Blk.made w _ _).drewN n1) ((hc.alloc _).drewN n1) (Nat.le_of_eq HCN.out.symm) HLT.out).mono ?_
    rintro e w1 ⟨rfl, rfl⟩
    go_wp2
    go_ret
    exact ⟨ret_i64 HR.out.symm, below_drewN ((Below.refl _ _).alloc (Nat.le_refl _) _) _⟩

set_option maxHeartbeats 2000000 in
theorem implValueOf_any (L : ByteArray) {vv vc : Value} {zv zc : List Int} (b c : Int) (w : World) (hL : L.size ≤ maxLen) (hv : Ints .i64 w vv zv) (hc : Ints .i64 w vc zc) (hcw : (Lit.int .u8 c).wf = true) :
    Calls Try.prog 34 #[.agg #[.string L, vv, vc, .int .i64 b], .int .u8 c] w fun e w' => e = .returned (.int .i64 (valueB L zv zc b c)) ∧ Below w.heap.size w w' := by
  cases hok : okT L.data.toList zv zc b
  · have HR := hid (show valueB L zv zc b c = 0 by simp [valueB, hok])
    have HK := hid hok
    clear hok
    go_enter Try.func34, Try.ntmps34
    go_wp2_with fail
    refine (implValidTiles_any L b _ hL (hv.alloc _) (hc.alloc _)).mono ?_
    rw [HK.out]
    rintro e w1 ⟨rfl, hb1⟩
    have hB1 := ((Below.refl w.heap.size w).alloc (Nat.le_refl _) _).trans (hb1.mono (by simp))
    go_wp2
    go_ret
    exact ⟨ret_i64 HR.out.symm, hB1⟩
  · have HR := hid (show valueB L zv zc b c = lookTo L.data.toList zv L.size c by simp [valueB, hok])
    obtain ⟨h1, h26, hvn, hcn, -, hlet, -, -⟩ := okT_facts hok
    have HVN := hid hvn
    have HK := hid hok
    have HCW := hid hcw
    clear hok hvn hcn hlet hcw
    go_enter Try.func34, Try.ntmps34
    go_wp2_with fail
    refine (implValidTiles_any L b _ hL (hv.alloc _) (hc.alloc _)).mono ?_
    rw [HK.out]
    rintro e w1 ⟨rfl, hb1⟩
    have p0 := hid ((Blk.made w _ _).kept hb1 (by simp))
    have c0 := p0.out.cells
    have hB1 := ((Below.refl w.heap.size w).alloc (Nat.le_refl _) _).trans (hb1.mono (by simp))
    go_wp2_with fail
    refine (byLetter_any L w1 hL (hv.below hB1) (Nat.le_of_eq HVN.out) h26).mono ?_
    rintro e w2 ⟨rfl, hmap, hb2⟩
    have hB2 := hB1.trans (hb2.mono hB1.size)
    rw [HVN.out] at hmap
    obtain ⟨D, hD, hown, hat⟩ := hmap
    have HA := hid (hat c HCW.out)
    clear hat
    go_wp2_with (at_lookup; refine wpList_lookup_own_int _ rfl _ _ 64 rfl 5 2 .i64 law8 Try.underlying64 Try.underlying2 (zero64 _) w1.heap.size _ _ rfl hown _ _ rfl (keyOf_int_mk Try.underlying5 HCW.out) ?_; intro x hax hwx)
    have hx : x = lookTo L.data.toList zv L.size c := by
      have h := hax.symm.trans HA.out
      injection h with h; injection h
    go_ret
    exact ⟨ret_i64 (hx.trans HR.out.symm), hB2⟩

set_option maxHeartbeats 2000000 in
theorem implCountOf_any (L : ByteArray) {vv vc : Value} {zv zc : List Int} (b c : Int) (w : World) (hL : L.size ≤ maxLen) (hv : Ints .i64 w vv zv) (hc : Ints .i64 w vc zc) (hcw : (Lit.int .u8 c).wf = true) :
    Calls Try.prog 36 #[.agg #[.string L, vv, vc, .int .i64 b], .int .u8 c] w fun e w' => e = .returned (.int .i64 (countOfB L zv zc b c)) ∧ Below w.heap.size w w' := by
  cases hok : okT L.data.toList zv zc b
  · have HR := hid (show countOfB L zv zc b c = 0 by simp [countOfB, hok])
    have HK := hid hok
    clear hok
    go_enter Try.func36, Try.ntmps36
    go_wp2_with fail
    refine (implValidTiles_any L b _ hL (hv.alloc _) (hc.alloc _)).mono ?_
    rw [HK.out]
    rintro e w1 ⟨rfl, hb1⟩
    have hB1 := ((Below.refl w.heap.size w).alloc (Nat.le_refl _) _).trans (hb1.mono (by simp))
    go_wp2
    go_ret
    exact ⟨ret_i64 HR.out.symm, hB1⟩
  · obtain ⟨h1, h26, hvn, hcn, -, hlet, -, -⟩ := okT_facts hok
    have HCN := hid hcn
    have HK := hid hok
    have HCW := hid hcw
    by_cases h63 : c = 63
    · have h63b : (c == 63) = true := beq_iff_eq.2 h63
      have HR := hid (show countOfB L zv zc b c = b by simp [countOfB, hok, countB, h63])
      clear hok hvn hcn hlet hcw h63
      go_enter Try.func36, Try.ntmps36
      go_wp2_with fail
      refine (implValidTiles_any L b _ hL (hv.alloc _) (hc.alloc _)).mono ?_
      rw [HK.out]
      rintro e w1 ⟨rfl, hb1⟩
      have p0 := hid ((Blk.made w _ _).kept hb1 (by simp))
      have c0 := p0.out.cells
      have hB1 := ((Below.refl w.heap.size w).alloc (Nat.le_refl _) _).trans (hb1.mono (by simp))
      go_wp2
      go_ret
      exact ⟨ret_i64 HR.out.symm, hB1⟩
    · have h63b : (c == 63) = false := beq_eq_false_iff_ne.2 h63
      have HR := hid (show countOfB L zv zc b c = lookTo L.data.toList zc L.size c by simp [countOfB, hok, countB, h63])
      clear hok hvn hcn hlet hcw h63
      go_enter Try.func36, Try.ntmps36
      go_wp2_with fail
      refine (implValidTiles_any L b _ hL (hv.alloc _) (hc.alloc _)).mono ?_
      rw [HK.out]
      rintro e w1 ⟨rfl, hb1⟩
      have p0 := hid ((Blk.made w _ _).kept hb1 (by simp))
      have c0 := p0.out.cells
      have hB1 := ((Below.refl w.heap.size w).alloc (Nat.le_refl _) _).trans (hb1.mono (by simp))
      go_wp2_with fail
      refine (byLetter_any L w1 hL (hc.below hB1) (Nat.le_of_eq HCN.out) h26).mono ?_
      rintro e w2 ⟨rfl, hmap, hb2⟩
      have hB2 := hB1.trans (hb2.mono hB1.size)
      rw [HCN.out] at hmap
      obtain ⟨D, hD, hown, hat⟩ := hmap
      have HA := hid (hat c HCW.out)
      clear hat
      go_wp2_with (at_lookup; refine wpList_lookup_own_int _ rfl _ _ 64 rfl 5 2 .i64 law8 Try.underlying64 Try.underlying2 (zero64 _) w1.heap.size _ _ rfl hown _ _ rfl (keyOf_int_mk Try.underlying5 HCW.out) ?_; intro x hax hwx)
      have hx : x = lookTo L.data.toList zc L.size c := by
        have h := hax.symm.trans HA.out
        injection h with h; injection h
      go_ret
      exact ⟨ret_i64 (hx.trans HR.out.symm), hB2⟩

end Go.Proofs.Ytbfilebkmpcepaa
