/-
  The contracts of ValidTiles, the program's and the model's.
-/
import Derived.Test.YtaipfampkgpnpaaDoorT1
import Derived.Test.YtaipfampkgpnpaaDoorB
namespace Go.Proofs.YtaipfampkgpnpaaDoor
open Go.RowKit

theorem letterB_no1 {s : ByteArray} {k : Nat} (h : k < s.size) (hs : smallB ((s[k]'h).toNat : Int) = false) : letterB s.data.toList k = false := by
  unfold letterB
  rw [byteAt_eq s k h, hs]
  rfl
theorem letterB_no2 {s : ByteArray} {k : Nat} (h : k < s.size) (hs : ((s[k]'h).toNat : Int) ≤ lastAt s.data.toList k) : letterB s.data.toList k = false := by
  unfold letterB
  rw [byteAt_eq s k h, decide_eq_false (by omega)]
  simp
theorem letterB_yes {s : ByteArray} {k : Nat} (h : k < s.size) (h1 : smallB ((s[k]'h).toNat : Int) = true) (h2 : ¬ ((s[k]'h).toNat : Int) ≤ lastAt s.data.toList k) : letterB s.data.toList k = true := by
  unfold letterB
  rw [byteAt_eq s k h, h1, decide_eq_true (by omega)]
  rfl

set_option maxHeartbeats 2000000 in
theorem validLetters_any (s : ByteArray) (w : World) :
    Calls Tryd.prog 35 #[.string s] w fun e w' => e = .returned (.bool (lettersTo s.data.toList s.size && !s.toList.isEmpty)) ∧ Below w.heap.size w w' := by
  go_enter Tryd.func35, Tryd.ntmps35
  go_wp2
  go_loopw [3, 5] (fun last _ w' => ∃ k : Nat, k ≤ s.size ∧ w' = w.iter s k ∧ last = .int .i32 (lastAt s.data.toList k) ∧ Hid (lettersTo s.data.toList k = true)) (fun _ _ w' => s.size - w'.iterPos w.heap.size)
  case atStart => exact ⟨0, Nat.zero_le _, rfl, rfl, by simp [Hid, lettersTo]⟩
  case round =>
    obtain ⟨k, hk, rfl, rfl, ha⟩ := hrel
    have hl0 := lastAt_nonneg s.data.toList k
    have hl1 := lastAt_lt s.data.toList k
    have hsuc := hid (lastAt_succ s.data.toList k)
    have hgro := hid (lettersTo_succ s.data.toList k)
    obtain ⟨la, hla⟩ : ∃ la, lastAt s.data.toList k = la := ⟨_, rfl⟩
    rw [hla] at hl0 hl1
    by_cases hp : k < s.size
    · have hnx : ∀ ty, (Instr.next (.pointer (some ⟨w.heap.size, 0, none⟩)) true ty).run Tryd.prog (w.iter s k) = _ := fun ty => run_next_any w s k ty hp
      have hbe := hid (byteAt_eq s k hp)
      cases hb : smallB ((Utf8.decode s k).1 : Int)
      · have hN := hid (lettersTo_not hp (letterB_no1 hp ((decode_small s k hp).symm.trans hb)))
        have HB := hid hb
        have HL := hid hla
        rw [hla]
        clear hb hla
        go_wp2_with (go_at_call 44; refine (isSmall_any _ _).mono ?_; rw [HB.out]; rintro e w' ⟨rfl, rfl⟩)
        go_ret
        exact ⟨ret_bool (by rw [hN.out]; rfl), below_iter _ _⟩
      · have hb' : smallB ((s[k]'hp).toNat : Int) = true := (decode_small s k hp).symm.trans hb
        have hd1 := hid (decode_one s k hp hb')
        have hdv : (Utf8.decode s k).1 = (s[k]'hp).toNat := by
          rw [smallB_iff] at hb'
          rw [decode_ascii s k hp (by omega)]
        have HB := hid hb
        have HV := hid hdv
        by_cases hle : ((Utf8.decode s k).1 : Int) ≤ la
        · have hN := hid (lettersTo_not hp (letterB_no2 hp (by rw [hla]; omega)))
          have HL := hid hla
          rw [hla]
          clear hb hla hb' hdv
          go_wp2_with (go_at_call 44; refine (isSmall_any _ _).mono ?_; rw [HB.out]; rintro e w' ⟨rfl, rfl⟩)
          go_ret
          exact ⟨ret_bool (by rw [hN.out]; rfl), below_iter _ _⟩
        · have hY := hid (letterB_yes hp hb' (by rw [hla]; omega))
          have HL := hid hla
          rw [hla]
          clear hb hla hb' hdv
          go_wp2_with (go_at_call 44; refine (isSmall_any _ _).mono ?_; rw [HB.out]; rintro e w' ⟨rfl, rfl⟩)
          go_roundw
          case rel => exact ⟨k + 1, by omega, by rw [hd1.out], by rw [hsuc.out, hbe.out, HV.out], by rw [Hid, hgro.out, ha.out, hY.out]; rfl⟩
          case measure => simp [hd1.out]; omega
    · have hnx : ∀ ty, (Instr.next (.pointer (some ⟨w.heap.size, 0, none⟩)) true ty).run Tryd.prog (w.iter s k) = _ := fun ty => run_next_end w s k ty hp
      have hk' : s.size = k := by omega
      have HW : Hid (lettersTo s.data.toList s.size = true) := by rw [hk']; exact ha
      have HL := hid hla
      rw [hla]
      clear hk' ha hla
      go_wp2
      go_ret
      exact ⟨ret_bool (by rw [HW.out]; rfl), below_iter _ _⟩

theorem bne_no {a b : Int} (h : a = b) : (a != b) = false := by simp [h]
theorem bne_yes {a b : Int} (h : a ≠ b) : (a != b) = true := by simp [h]
theorem len_eq (s : ByteArray) : s.data.toList.length = s.size := by simp
/-- Where the row at a place is out of bounds: the first test that says so. -/
theorem num_cases {x y : Int} (h : ¬ ((0 ≤ y ∧ y ≤ 20) ∧ (1 ≤ x ∧ x ≤ 20))) : x < 1 ∨ (1 ≤ x ∧ 20 < x) ∨ (1 ≤ x ∧ x ≤ 20 ∧ y < 0) ∨ (1 ≤ x ∧ x ≤ 20 ∧ 0 ≤ y ∧ 20 < y) := by omega

set_option maxHeartbeats 4000000 in
theorem implValidTiles_any (L : ByteArray) {vv vc : Value} {zv zc : List Int} (b : Int) (w : World) (hL : L.size ≤ maxLen) (hv : Ints .i64 w vv zv) (hc : Ints .i64 w vc zc) :
    Calls Tryd.prog 26 #[.agg #[.string L, vv, vc, .int .i64 b]] w fun e w' => e = .returned (.bool (okT L.data.toList zv zc b)) ∧ Below w.heap.size w w' := by
  unfold maxLen at hL
  have hvl := hv.len
  have hcl := hc.len
  have hLe := len_eq L
  cases hV : (lettersTo L.data.toList L.size && !L.toList.isEmpty)
  · have hN : okT L.data.toList zv zc b = false := by
      rcases Nat.eq_zero_or_pos L.size with h0 | h0
      · exact okT_empty (by omega)
      · rw [empty_no h0, Bool.not_false, Bool.and_true] at hV
        exact okT_letters (by rw [hLe]; exact hV)
    have HN := hid hN
    have HV := hid hV
    clear hN hV hLe
    go_enter Tryd.func26, Tryd.ntmps26
    go_wp2_with fail
    refine (validLetters_any L _).mono ?_
    rw [HV.out]
    rintro e w1 ⟨rfl, hb1⟩
    have hB1 := ((Below.refl w.heap.size w).alloc (Nat.le_refl _) _).trans (hb1.mono (by simp))
    go_wp2
    go_ret
    exact ⟨ret_bool HN.out.symm, hB1⟩
  · have h0 : 0 < L.size := by
      rcases Nat.eq_zero_or_pos L.size with h0 | h0
      · rw [empty_yes h0] at hV; simp at hV
      · exact h0
    have hlt : lettersTo L.data.toList L.size = true := by simp at hV; exact hV.1
    have h26 := letters_few hlt
    have HV := hid hV
    clear hV
    by_cases hvn : zv.length = L.size
    · by_cases hcn : zc.length = L.size
      · have t1 : ((zv.length : Int) != (L.size : Int)) = false := bne_no (by omega)
        have t2 : ((zc.length : Int) != (L.size : Int)) = false := bne_no (by omega)
        have nv1 : zv.length ≤ L.size := by omega
        have nv2 : L.size ≤ zv.length := by omega
        have nc1 : zc.length ≤ L.size := by omega
        have nc2 : L.size ≤ zc.length := by omega
        have HLe := hid hLe
        clear hLe
        have hv0 := hv
        have hc0 := hc
        obtain ⟨av, cv, rfl, hvc, hvm, hvi, -⟩ := hv
        obtain ⟨ac, cc, rfl, hcc, hcm, hci, -⟩ := hc
        unfold maxLen at hvm hcm
        by_cases hb : 0 ≤ b ∧ b ≤ 4
        · obtain ⟨hb0, hb4⟩ := hb
          have HY := hid (okT_yes (l := L.data.toList) (zv := zv) (zc := zc) (b := b) (by rw [HLe.out]; exact h0) (by rw [HLe.out]; exact hvn) (by rw [HLe.out]; exact hcn) (inB_yes hb0 hb4) (by rw [HLe.out]; exact hlt))
          have HN := hid (okT_nums (l := L.data.toList) (zv := zv) (zc := zc) (b := b))
          clear hlt hvn hcn
          go_enter Tryd.func26, Tryd.ntmps26
          go_wp2_with fail
          refine (validLetters_any L _).mono ?_
          rw [HV.out]
          rintro e w1 ⟨rfl, hb1⟩
          have p0 := hid ((Blk.made w _ _).kept hb1 (by simp))
          have c0 := p0.out.cells
          have hB1 := ((Below.refl w.heap.size w).alloc (Nat.le_refl _) _).trans (hb1.mono (by simp))
          have hv1 := hv0.below hB1
          have hc1 := hc0.below hB1
          go_wp2
          go_loop [4, 41] (fun s i => ∃ k : Nat, k ≤ zc.length ∧ i = .int .i64 k ∧ s = .int .i64 (b + (zc.take k).sum) ∧ Hid (numsTo zv zc k = true)) (fun _ i => zc.length - (intOf i).toNat)
          case atStart => exact ⟨0, Nat.zero_le _, rfl, by simp, by simp [Hid, numsTo]⟩
          case round =>
            obtain ⟨k, hk, rfl, rfl, hnum⟩ := hrel
            have hS := sum_bounds (zv := zv) hk hnum.out
            have hsn := sum_snoc zc k
            obtain ⟨S, hSe⟩ : ∃ S, (zc.take k).sum = S := ⟨_, rfl⟩
            rw [hSe] at hS hsn ⊢
            have HS := hid hSe
            clear hSe hv1 hc1
            by_cases hlt : k < zc.length
            · have hltv : k < zv.length := by omega
              obtain ⟨bv, ov, rfl, hbv, hcv⟩ := hvi (by omega)
              obtain ⟨bc, oc, rfl, hbc, hcc'⟩ := hci (by omega)
              have ev := (hB1.cell (p := ⟨bv, ov + k, none⟩) hbv).trans (hcv k hltv)
              have ec := (hB1.cell (p := ⟨bc, oc + k, none⟩) hbc).trans (hcc' k hlt)
              have hgr := hid (numsTo_succ zv zc k)
              have hnp := numB_parts (zv := zv) (zc := zc) (k := k)
              have hnn := numB_no (zv := zv) (zc := zc) (k := k)
              have hsn' := hsn hlt
              obtain ⟨x, hx⟩ : ∃ x, zc.getD k 0 = x := ⟨_, rfl⟩
              obtain ⟨y, hy⟩ : ∃ y, zv.getD k 0 = y := ⟨_, rfl⟩
              rw [hx, hy] at hnp hnn
              rw [hx] at ec hsn'
              rw [hy] at ev
              have HSN := hid hsn'
              clear hcv hcc' hvi hci hsn hsn' hx hy
              by_cases hok : (0 ≤ y ∧ y ≤ 20) ∧ (1 ≤ x ∧ x ≤ 20)
              · have HK := hid (hnp.2 hok)
                obtain ⟨⟨y0, y1⟩, x0, x1⟩ := hok
                clear hnp hnn
                go_wp2
                go_round
                case rel => exact ⟨k + 1, by omega, by go_num, by rw [HSN.out, Int.add_assoc], by rw [Hid, hgr.out, hnum.out, HK.out]; rfl⟩
                case measure => simp [intOf]; omega
              · have HK := hid (HN.out (numsTo_not (by rw [HLe.out]; omega) (hnn hok)))
                have hcs := num_cases hok
                clear hnp hnn hok
                rcases hcs with x0 | ⟨x0, x1⟩ | ⟨x0, x1, y0⟩ | ⟨x0, x1, y0, y1⟩
                all_goals
                  go_wp2
                  go_ret
                  exact ⟨ret_bool HK.out.symm, hB1⟩
            · have hkk : zc.length = k := by omega
              have HF : Hid (okT L.data.toList zv zc b = decide (b + S ≤ 120)) := by
                rw [Hid, HY.out (by rw [HLe.out, show L.size = k by omega]; exact hnum.out), ← HS.out, List.take_of_length_le (by omega)]
              clear hkk hsn hvi hci
              go_wp2
              go_ret
              exact ⟨ret_bool HF.out.symm, hB1⟩
        · have HN := hid (okT_blanks (l := L.data.toList) (zv := zv) (zc := zc) (b := b) (inB_no hb))
          have hb' : b < 0 ∨ 4 < b := by omega
          clear hb hvn hcn
          rcases hb' with hb' | hb'
          all_goals
            go_enter Tryd.func26, Tryd.ntmps26
            go_wp2_with fail
            refine (validLetters_any L _).mono ?_
            rw [HV.out]
            rintro e w1 ⟨rfl, hb1⟩
            have p0 := hid ((Blk.made w _ _).kept hb1 (by simp))
            have c0 := p0.out.cells
            have hB1 := ((Below.refl w.heap.size w).alloc (Nat.le_refl _) _).trans (hb1.mono (by simp))
            go_wp2
            go_ret
            exact ⟨ret_bool HN.out.symm, hB1⟩
      · have HN := hid (okT_counts (l := L.data.toList) (zv := zv) (zc := zc) (b := b) (by omega))
        have t1 : ((zv.length : Int) != (L.size : Int)) = false := bne_no (by omega)
        have t2 : ((zc.length : Int) != (L.size : Int)) = true := bne_yes (by omega)
        obtain ⟨av, cv, rfl, -⟩ := hv
        obtain ⟨ac, cc, rfl, -⟩ := hc
        have Hx := hid hvn
        clear hvn hcn hLe
        go_enter Tryd.func26, Tryd.ntmps26
        go_wp2_with fail
        refine (validLetters_any L _).mono ?_
        rw [HV.out]
        rintro e w1 ⟨rfl, hb1⟩
        have p0 := hid ((Blk.made w _ _).kept hb1 (by simp))
        have c0 := p0.out.cells
        have hB1 := ((Below.refl w.heap.size w).alloc (Nat.le_refl _) _).trans (hb1.mono (by simp))
        go_wp2
        go_ret
        exact ⟨ret_bool HN.out.symm, hB1⟩
    · have HN := hid (okT_values (l := L.data.toList) (zv := zv) (zc := zc) (b := b) (by omega))
      have t1 : ((zv.length : Int) != (L.size : Int)) = true := bne_yes (by omega)
      obtain ⟨av, cv, rfl, -⟩ := hv
      clear hvn hLe
      go_enter Tryd.func26, Tryd.ntmps26
      go_wp2_with fail
      refine (validLetters_any L _).mono ?_
      rw [HV.out]
      rintro e w1 ⟨rfl, hb1⟩
      have p0 := hid ((Blk.made w _ _).kept hb1 (by simp))
      have c0 := p0.out.cells
      have hB1 := ((Below.refl w.heap.size w).alloc (Nat.le_refl _) _).trans (hb1.mono (by simp))
      go_wp2
      go_ret
      exact ⟨ret_bool HN.out.symm, hB1⟩

end Go.Proofs.YtaipfampkgpnpaaDoor
