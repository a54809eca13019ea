/-
  The contracts of TotalValue and of the model's AllTiles.
-/
import Derived.Test.YtbfilebkmpcepaaR1
namespace Go.Proofs.Ytbfilebkmpcepaa
open Go.RowKit

/-- The value of the tiles of the first k letters. -/
def totTo (zv zc : List Int) : Nat → Int
  | 0 => 0
  | k + 1 => totTo zv zc k + zc.getD k 0 * zv.getD k 0
theorem tot_bounds {zv zc : List Int} : ∀ {k : Nat}, numsTo zv zc k = true → 0 ≤ totTo zv zc k ∧ totTo zv zc k ≤ 400 * (k : Int)
  | 0, _ => by simp [totTo]
  | k + 1, h => by
    rw [numsTo_succ, Bool.and_eq_true] at h
    have ih := tot_bounds h.1
    have h2 := numB_parts.1 h.2
    have h3 : 0 ≤ zc.getD k 0 * zv.getD k 0 := Int.mul_nonneg (by omega) (by omega)
    have h4 : zc.getD k 0 * zv.getD k 0 ≤ 20 * 20 := Int.mul_le_mul (by omega) (by omega) (by omega) (by omega)
    rw [totTo]
    omega
theorem sum_rep (f : UInt8 → Int) (x : UInt8) : ∀ n : Nat, ((List.replicate n x).map f).sum = (n : Int) * f x
  | 0 => by simp
  | n + 1 => by
    rw [List.replicate_succ, List.map_cons, List.sum_cons, sum_rep f x n]
    have : ((n + 1 : Nat) : Int) * f x = (n : Int) * f x + f x := by
      rw [show ((n + 1 : Nat) : Int) = (n : Int) + 1 by omega, Int.add_mul, Int.one_mul]
    omega
theorem look_small {l : List UInt8} {zv : List Int} {n : Nat} (h : lettersTo l n = true) {c : Int} (hc : c < 97) : lookTo l zv n c = 0 := by
  refine lookTo_none (fun i hi e => ?_)
  have h1 : letterB l i = true := by
    cases hb : letterB l i
    · rw [lettersTo_not hi hb] at h; cases h
    · rfl
  simp only [letterB, Bool.and_eq_true, smallB_iff] at h1
  omega
theorem all_sum (L : ByteArray) {zv zc : List Int} {b : Int} (hl : lettersTo L.data.toList L.size = true) (hn : numsTo zv zc L.size = true) : ∀ k, k ≤ L.size →
    ((allTo L zc b k).map fun c => lookTo L.data.toList zv L.size (c.toNat : Int)).sum = totTo zv zc k
  | 0, _ => by
    rw [allTo_zero, sum_rep, look_small hl (by decide), Int.mul_zero]
    rfl
  | k + 1, hk => by
    have hlt : k < L.size := by omega
    rw [allTo_succ L zc b k hlt, List.map_append, List.sum_append, all_sum L hl hn k (by omega), sum_rep, lookTo_at (zs := zv) hl k hlt (byteAt_eq L k hlt), totTo]
    have h2 := (numB_parts.1 (nums_at hn hlt)).2
    rw [Int.toNat_of_nonneg (by omega)]
theorem all_total (L : ByteArray) {zv zc : List Int} {b : Int} (hl : lettersTo L.data.toList L.size = true) (hn : numsTo zv zc L.size = true) (s : ByteArray) (hs : s.data.toList = allTo L zc b L.size) :
    sumTo L.data.toList zv L.size s.data.toList s.size = totTo zv zc L.size := by
  unfold sumTo
  rw [take_all s, hs]
  exact all_sum L hl hn L.size (Nat.le_refl _)

def totalB (L : ByteArray) (zv zc : List Int) (b : Int) : Int := if okT L.data.toList zv zc b = true then totTo zv zc L.size else 0
/-- The code that goes with a tile set. -/
def okCode (L : ByteArray) (zv zc : List Int) (b : Int) : Int := if okT L.data.toList zv zc b = true then 0 else 1
theorem ret_two {a b c d : Int} (h1 : a = c) (h2 : b = d) : Ending.returned (.tuple #[.int .i64 a, .int .i64 b]) = .returned (.tuple #[.int .i64 c, .int .i64 d]) := by rw [h1, h2]

set_option maxHeartbeats 1000000 in
theorem specTotalValue_any (L : ByteArray) {vv vc : Value} {zv zc : List Int} (b : Int) (w : World) (hL : L.size ≤ maxLen) (hv : Ints .i64 w vv zv) (hc : Ints .i64 w vc zc) :
    Calls Try.prog 39 #[.agg #[.string L, vv, vc, .int .i64 b]] w fun e w' => e = .returned (.tuple #[.int .i64 (totalB L zv zc b), .int .i64 (okCode L zv zc b)]) ∧ Below w.heap.size w w' := by
  cases hok : okT L.data.toList zv zc b
  · have HR := hid (show totalB L zv zc b = 0 by simp [totalB, hok])
    have HC := hid (show okCode L zv zc b = 1 by simp [okCode, hok])
    have HK := hid hok
    clear hok
    go_enter Try.func39, Try.ntmps39
    go_wp2_with fail
    refine (l02Ok_any _ L b _ hL (Blk.made _ _ _) (hv.alloc _) (hc.alloc _)).mono ?_
    rw [HK.out]
    rintro e w1 ⟨rfl, n1, rfl⟩
    go_wp2
    go_ret2
    exact ⟨ret_two HR.out.symm HC.out.symm, below_drewN ((Below.refl _ _).alloc (Nat.le_refl _) _) _⟩
  · have HR := hid (show totalB L zv zc b = totTo zv zc L.size by simp [totalB, hok])
    have HC := hid (show okCode L zv zc b = 0 by simp [okCode, hok])
    obtain ⟨h1, h26, hvn, hcn, hb, hlet, hnum, -⟩ := okT_facts hok
    have HVN := hid hvn
    have HCN := hid hcn
    have HLT := hid hlet
    have HNM := hid hnum
    have HB := hid hb
    have HK := hid hok
    have hal := allTo_len L hnum hb L.size (Nat.le_refl _)
    obtain ⟨A, hA⟩ : ∃ A, allTo L zc b L.size = A := ⟨_, rfl⟩
    rw [hA] at hal
    have HA := hid hA
    have HT := hid (all_total L (b := b) hlet hnum ⟨A.toArray⟩ (by rw [hA]))
    clear hok hvn hcn hlet hnum hb hA
    go_enter Try.func39, Try.ntmps39
    go_wp2_with fail
    refine (l02Ok_any _ L b _ hL (Blk.made _ _ _) (hv.alloc _) (hc.alloc _)).mono ?_
    rw [HK.out]
    rintro e w1 ⟨rfl, n1, rfl⟩
    go_wp2_with fail
    refine (l02All_any (zv := zv) _ L b _ hL ((Blk.made w _ _).drewN n1) ((hc.alloc _).drewN n1) h26 HCN.out HB.out HNM.out).mono ?_
    rw [HA.out]
    rintro e w2 ⟨rfl, hb2⟩
    have hB2 := (below_drewN ((Below.refl w.heap.size w).alloc (Nat.le_refl _) (.cells #[.string L, vv, vc, .int .i64 b] 32)) n1).trans (hb2.mono (by show w.heap.size ≤ (w.alloc _).heap.size; simp))
    go_wp2_with fail
    refine (l02Sum_any (zv := zv) (zc := zc) _ L ⟨A.toArray⟩ b w2 hL (by show A.toArray.size ≤ 1048576; simp; omega) (((Blk.made w _ _).drewN n1).kept hb2 (by show w.heap.size < (w.alloc _).heap.size; simp)) (hv.below hB2) (Nat.le_of_eq HVN.out.symm) HLT.out HNM.out).mono ?_
    rw [HT.out]
    rintro e w3 ⟨rfl, rfl⟩
    go_wp2
    go_ret2
    exact ⟨ret_two HR.out.symm HC.out.symm, hB2⟩

set_option maxHeartbeats 2000000 in
theorem implTotalValue_any (L : ByteArray) {vv vc : Value} {zv zc : List Int} (b : Int) (w : World) (hL : L.size ≤ maxLen) (hv : Ints .i64 w vv zv) (hc : Ints .i64 w vc zc) :
    Calls Try.prog 40 #[.agg #[.string L, vv, vc, .int .i64 b]] w fun e w' => e = .returned (.tuple #[.int .i64 (totalB L zv zc b), .int .i64 (okCode L zv zc b)]) ∧ Below w.heap.size w w' := by
  cases hok : okT L.data.toList zv zc b
  · have HR := hid (show totalB L zv zc b = 0 by simp [totalB, hok])
    have HC := hid (show okCode L zv zc b = 1 by simp [okCode, hok])
    have HK := hid hok
    clear hok
    go_enter Try.func40, Try.ntmps40
    go_wp2_with fail
    refine (implValidTiles_any L b _ hL (hv.alloc _) (hc.alloc _)).mono ?_
    rw [HK.out]
    rintro e w1 ⟨rfl, hb1⟩
    have hB1 := ((Below.refl w.heap.size w).alloc (Nat.le_refl _) _).trans (hb1.mono (by simp))
    go_wp2
    go_ret2
    exact ⟨ret_two HR.out.symm HC.out.symm, hB1⟩
  · have HR := hid (show totalB L zv zc b = totTo zv zc L.size by simp [totalB, hok])
    have HC := hid (show okCode L zv zc b = 0 by simp [okCode, hok])
    obtain ⟨h1, h26, hvn, hcn, hb, hlet, hnum, -⟩ := okT_facts hok
    have nv1 : zv.length ≤ L.size := by omega
    have nv2 : L.size ≤ zv.length := by omega
    have nc1 : zc.length ≤ L.size := by omega
    have nc2 : L.size ≤ zc.length := by omega
    have HNM := hid hnum
    have HK := hid hok
    have hv0 := hv
    have hc0 := hc
    obtain ⟨av, cv, rfl, hvc, hvm, hvi, -⟩ := hv
    obtain ⟨ac, cc, rfl, hcc, hcm, hci, -⟩ := hc
    unfold maxLen at hvm hcm
    clear hok hvn hcn hlet hnum hb
    go_enter Try.func40, Try.ntmps40
    go_wp2_with fail
    refine (implValidTiles_any L b _ hL (hv0.alloc _) (hc0.alloc _)).mono ?_
    rw [HK.out]
    rintro e w1 ⟨rfl, hb1⟩
    have p0 := hid ((Blk.made w _ _).kept hb1 (by simp))
    have c0 := p0.out.cells
    have hB1 := ((Below.refl w.heap.size w).alloc (Nat.le_refl _) _).trans (hb1.mono (by simp))
    go_wp2
    go_loop [4, 13] (fun s i => ∃ k : Nat, k ≤ zc.length ∧ i = .int .i64 k ∧ s = .int .i64 (totTo zv zc k)) (fun _ i => zc.length - (intOf i).toNat)
    case atStart => exact ⟨0, Nat.zero_le _, rfl, rfl⟩
    case round =>
      obtain ⟨k, hk, rfl, rfl⟩ := hrel
      have hkn : numsTo zv zc k = true := by
        cases h : numsTo zv zc k
        · exfalso
          have h2 := HNM.out
          unfold numsTo at h h2
          rw [List.all_eq_true] at h2
          rw [List.all_eq_false] at h
          obtain ⟨x, hx, hx2⟩ := h
          exact hx2 (h2 x (List.mem_range.2 (by have := List.mem_range.1 hx; omega)))
        · rfl
      have hS := tot_bounds hkn
      have hsu := hid (show totTo zv zc (k + 1) = totTo zv zc k + zc.getD k 0 * zv.getD k 0 from rfl)
      obtain ⟨S, hSe⟩ : ∃ S, totTo zv zc k = S := ⟨_, rfl⟩
      rw [hSe] at hS hsu ⊢
      have HS := hid hSe
      clear hSe hkn
      by_cases hlt : k < zc.length
      · obtain ⟨bv, ov, rfl, hbv, hcv⟩ := hvi (by omega)
        obtain ⟨bc, oc, rfl, hbc, hcc'⟩ := hci (by omega)
        have ev := (hB1.cell (p := ⟨bv, ov + k, none⟩) hbv).trans (hcv k (by omega))
        have ec := (hB1.cell (p := ⟨bc, oc + k, none⟩) hbc).trans (hcc' k hlt)
        have hnp := numB_parts.1 (nums_at HNM.out (by omega : k < L.size))
        obtain ⟨x, hx⟩ : ∃ x, zc.getD k 0 = x := ⟨_, rfl⟩
        obtain ⟨y, hy⟩ : ∃ y, zv.getD k 0 = y := ⟨_, rfl⟩
        rw [hx, hy] at hnp hsu
        rw [hx] at ec
        rw [hy] at ev
        obtain ⟨⟨y0, y1⟩, x0, x1⟩ := hnp
        have hm0 : 0 ≤ x * y := Int.mul_nonneg (by omega) (by omega)
        have hm1 : x * y ≤ 20 * 20 := Int.mul_le_mul (by omega) (by omega) (by omega) (by omega)
        clear hcv hcc' hvi hci hx hy
        go_wp2
        go_round
        case rel => exact ⟨k + 1, by omega, by go_num, by rw [hsu.out]⟩
        case measure => simp [intOf]; omega
      · have hkk : k = L.size := by omega
        have HF : Hid (S = totalB L zv zc b) := by rw [Hid, HR.out, ← HS.out, hkk]
        clear hkk hvi hci
        go_wp2
        go_ret2
        exact ⟨ret_two HF.out HC.out.symm, hB1⟩

end Go.Proofs.Ytbfilebkmpcepaa
