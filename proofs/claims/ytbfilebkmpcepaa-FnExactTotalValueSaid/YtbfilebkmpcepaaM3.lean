/-
  The contracts of LettersValue.
-/
import Derived.Test.YtbfilebkmpcepaaM2
namespace Go.Proofs.Ytbfilebkmpcepaa
open Go.RowKit Go.Maps

theorem look_bounds {l : List UInt8} {zv zc : List Int} {c : Int} : ∀ {n : Nat}, numsTo zv zc n = true → (0 ≤ lookTo l zv n c ∧ lookTo l zv n c ≤ 20) ∧ (0 ≤ lookTo l zc n c ∧ lookTo l zc n c ≤ 20)
  | 0, _ => by simp [lookTo]
  | n + 1, h => by
    rw [numsTo_succ, Bool.and_eq_true] at h
    have ih := look_bounds (l := l) (c := c) h.1
    have h2 := numB_parts.1 h.2
    unfold lookTo
    by_cases hc : c = byteAt l n
    · rw [if_pos hc, if_pos hc]
      omega
    · rw [if_neg hc, if_neg hc]
      exact ih

/-- The value of the first k bytes of a text. -/
def sumTo (l : List UInt8) (zv : List Int) (n : Nat) (s : List UInt8) (k : Nat) : Int := ((s.take k).map fun c => lookTo l zv n (c.toNat : Int)).sum
theorem sumTo_zero (l : List UInt8) (zv : List Int) (n : Nat) (s : List UInt8) : sumTo l zv n s 0 = 0 := by simp [sumTo]
theorem sumTo_succ (l : List UInt8) (zv : List Int) (n : Nat) (s : ByteArray) (k : Nat) (h : k < s.size) : sumTo l zv n s.data.toList (k + 1) = sumTo l zv n s.data.toList k + lookTo l zv n ((s[k]'h).toNat : Int) := by
  unfold sumTo
  rw [take_grows s k h]
  simp
theorem sumTo_bounds {l : List UInt8} {zv zc : List Int} {n : Nat} (h : numsTo zv zc n = true) (s : ByteArray) : ∀ k, k ≤ s.size → 0 ≤ sumTo l zv n s.data.toList k ∧ sumTo l zv n s.data.toList k ≤ 20 * (k : Int)
  | 0, _ => by rw [sumTo_zero]; omega
  | k + 1, hk => by
    have ih := sumTo_bounds (l := l) h s k (by omega)
    rw [sumTo_succ l zv n s k (by omega)]
    have hb := (look_bounds (l := l) (c := ((s[k]'(by omega)).toNat : Int)) h).1
    omega
def lettersB (L : ByteArray) (zv zc : List Int) (b : Int) (s : ByteArray) : Int := if okT L.data.toList zv zc b = true then sumTo L.data.toList zv L.size s.data.toList s.size else 0

set_option maxHeartbeats 1000000 in
theorem l02Sum_any (B : Nat) (L s : ByteArray) {vv vc : Value} {zv zc : List Int} (b : Int) (w : World) (hL : L.size ≤ maxLen) (hs : s.size ≤ 1048576) (hp : Blk w B 32 #[.string L, vv, vc, .int .i64 b]) (hv : Ints .i64 w vv zv)
    (hz : L.size ≤ zv.length) (ho : lettersTo L.data.toList L.size = true) (hn : numsTo zv zc L.size = true) :
    Calls Try.prog 69 #[.pointer (some ⟨B, 0, none⟩), .string s] w fun e w' => e = .returned (.int .i64 (sumTo L.data.toList zv L.size s.data.toList s.size)) ∧ w = w' := by
  have HO := hid ho
  have HN := hid hn
  have HP := hid hp
  clear ho hn hp
  go_enter Try.func69, Try.ntmps69
  go_wp2
  go_loop [5, 6] (fun x i => ∃ k : Nat, k ≤ s.size ∧ i = .int .i64 k ∧ x = .int .i64 (sumTo L.data.toList zv L.size s.data.toList k)) (fun _ i => s.size - (intOf i).toNat)
  case atStart => exact ⟨0, Nat.zero_le _, rfl, by rw [sumTo_zero]⟩
  case round =>
    obtain ⟨k, hk, rfl, rfl⟩ := hrel
    have hb := sumTo_bounds (l := L.data.toList) HN.out s k hk
    have hsu := sumTo_succ L.data.toList zv L.size s k
    obtain ⟨S, hS⟩ : ∃ S, sumTo L.data.toList zv L.size s.data.toList k = S := ⟨_, rfl⟩
    rw [hS] at hb hsu ⊢
    have HS := hid hS
    clear hS
    by_cases hlt : k < s.size
    · have hlb := (look_bounds (l := L.data.toList) (c := ((s[k]'hlt).toNat : Int)) HN.out).1
      have hsu' := hsu hlt
      have hcall := l02Value_any B L b ((s[k]'hlt).toNat : Int) w hL HP.out hv hz HO.out
      obtain ⟨y, hy⟩ : ∃ y, lookTo L.data.toList zv L.size ((s[k]'hlt).toNat : Int) = y := ⟨_, rfl⟩
      rw [hy] at hlb hsu' hcall
      have HSU := hid hsu'
      have HC := hid hcall
      clear hsu hsu' hy hcall
      go_wp2_with fail
      refine HC.out.mono ?_
      rintro e w' ⟨rfl, rfl⟩
      go_wp2
      go_round
      case rel => exact ⟨k + 1, by omega, by go_num, by rw [HSU.out]⟩
      case measure => simp [intOf]; omega
    · have hk' : k = s.size := by omega
      have HF : Hid (S = sumTo L.data.toList zv L.size s.data.toList s.size) := by rw [Hid, ← HS.out, hk']
      clear hk' hsu
      go_wp2
      go_ret
      exact ⟨ret_i64 HF.out, rfl⟩

set_option maxHeartbeats 1000000 in
theorem specLettersValue_any (L : ByteArray) {vv vc : Value} {zv zc : List Int} (b : Int) (s : ByteArray) (hs : s.size ≤ 1048576) (w : World) (hL : L.size ≤ maxLen) (hv : Ints .i64 w vv zv) (hc : Ints .i64 w vc zc) :
    Calls Try.prog 41 #[.agg #[.string L, vv, vc, .int .i64 b], .string s] w fun e w' => e = .returned (.int .i64 (lettersB L zv zc b s)) ∧ Below w.heap.size w w' := by
  cases hok : okT L.data.toList zv zc b
  · have HR := hid (show lettersB L zv zc b s = 0 by simp [lettersB, hok])
    have HK := hid hok
    clear hok
    go_enter Try.func41, Try.ntmps41
    go_wp2_with fail
    refine (l02Ok_any _ L b _ hL (Blk.made _ _ _) (hv.alloc _) (hc.alloc _)).mono ?_
    rw [HK.out]
    rintro e w1 ⟨rfl, n1, rfl⟩
    go_wp2
    go_ret
    exact ⟨ret_i64 HR.out.symm, below_drewN ((Below.refl _ _).alloc (Nat.le_refl _) _) _⟩
  · have HR := hid (show lettersB L zv zc b s = sumTo L.data.toList zv L.size s.data.toList s.size by simp [lettersB, hok])
    obtain ⟨h1, h26, hvn, hcn, -, hlet, hnum, -⟩ := okT_facts hok
    have HVN := hid hvn
    have HLT := hid hlet
    have HNM := hid hnum
    have HK := hid hok
    clear hok hvn hcn hlet hnum
    go_enter Try.func41, Try.ntmps41
    go_wp2_with fail
    refine (l02Ok_any _ L b _ hL (Blk.made _ _ _) (hv.alloc _) (hc.alloc _)).mono ?_
    rw [HK.out]
    rintro e w1 ⟨rfl, n1, rfl⟩
    go_wp2_with fail
    refine (l02Sum_any (zv := zv) _ L s b _ hL hs ((Blk.made w _ _).drewN n1) ((hv.alloc _).drewN n1) (Nat.le_of_eq HVN.out.symm) HLT.out HNM.out).mono ?_
    rintro e w1 ⟨rfl, rfl⟩
    go_wp2
    go_ret
    exact ⟨ret_i64 HR.out.symm, below_drewN ((Below.refl _ _).alloc (Nat.le_refl _) _) _⟩

set_option maxHeartbeats 2000000 in
theorem implLettersValue_any (L : ByteArray) {vv vc : Value} {zv zc : List Int} (b : Int) (s : ByteArray) (hs : s.size ≤ 1048576) (w : World) (hL : L.size ≤ maxLen) (hv : Ints .i64 w vv zv) (hc : Ints .i64 w vc zc) :
    Calls Try.prog 42 #[.agg #[.string L, vv, vc, .int .i64 b], .string s] w fun e w' => e = .returned (.int .i64 (lettersB L zv zc b s)) ∧ Below w.heap.size w w' := by
  cases hok : okT L.data.toList zv zc b
  · have HR := hid (show lettersB L zv zc b s = 0 by simp [lettersB, hok])
    have HK := hid hok
    clear hok
    go_enter Try.func42, Try.ntmps42
    go_wp2_with fail
    refine (implValidTiles_any L b _ hL (hv.alloc _) (hc.alloc _)).mono ?_
    rw [HK.out]
    rintro e w1 ⟨rfl, hb1⟩
    have hB1 := ((Below.refl w.heap.size w).alloc (Nat.le_refl _) _).trans (hb1.mono (by simp))
    go_wp2
    go_ret
    exact ⟨ret_i64 HR.out.symm, hB1⟩
  · have HR := hid (show lettersB L zv zc b s = sumTo L.data.toList zv L.size s.data.toList s.size by simp [lettersB, hok])
    obtain ⟨h1, h26, hvn, hcn, -, hlet, hnum, -⟩ := okT_facts hok
    have HVN := hid hvn
    have HNM := hid hnum
    have HK := hid hok
    clear hok hvn hcn hlet hnum
    go_enter Try.func42, Try.ntmps42
    go_wp2_with fail
    refine (implValidTiles_any L b _ hL (hv.alloc _) (hc.alloc _)).mono ?_
    rw [HK.out]
    rintro e w1 ⟨rfl, hb1⟩
    have p0 := hid ((Blk.made w _ _).kept hb1 (by simp))
    have c0 := p0.out.cells
    have hB1 := ((Below.refl w.heap.size w).alloc (Nat.le_refl _) _).trans (hb1.mono (by simp))
    go_wp2_with fail
    refine (byLetter_any L w1 hL (hv.below hB1) (Nat.le_of_eq HVN.out) h26).mono ?_
    rintro e w2 ⟨rfl, hmap, hb2⟩
    have hB2 := hB1.trans (hb2.mono hB1.size)
    rw [HVN.out] at hmap
    obtain ⟨D, hD, hown, hat⟩ := hmap
    have HOWN := hid hown
    have HAT := hid hat
    clear hat hown hD c0
    go_wp2
    go_loop [6, 18] (fun x i => ∃ k : Nat, k ≤ s.size ∧ i = .int .i64 k ∧ x = .int .i64 (sumTo L.data.toList zv L.size s.data.toList k)) (fun _ i => s.size - (intOf i).toNat)
    case atStart => exact ⟨0, Nat.zero_le _, rfl, by rw [sumTo_zero]⟩
    case round =>
      obtain ⟨k, hk, rfl, rfl⟩ := hrel
      have hb := sumTo_bounds (l := L.data.toList) HNM.out s k hk
      have hsu := sumTo_succ L.data.toList zv L.size s k
      obtain ⟨S, hS⟩ : ∃ S, sumTo L.data.toList zv L.size s.data.toList k = S := ⟨_, rfl⟩
      rw [hS] at hb hsu ⊢
      have HS := hid hS
      clear hS
      by_cases hlt : k < s.size
      · have hlb := (look_bounds (l := L.data.toList) (c := ((s[k]'hlt).toNat : Int)) HNM.out).1
        have hsu' := hsu hlt
        have hA := HAT.out ((s[k]'hlt).toNat : Int) (byte_wf _)
        obtain ⟨y, hy⟩ : ∃ y, lookTo L.data.toList zv L.size ((s[k]'hlt).toNat : Int) = y := ⟨_, rfl⟩
        rw [hy] at hlb hsu' hA
        have HSU := hid hsu'
        have HA := hid hA
        have HBW := hid (byte_wf (s[k]'hlt))
        clear hsu hsu' hy hA
        go_wp2_with (at_lookup; refine wpList_lookup_own_int _ rfl _ _ 64 rfl 5 2 .i64 law8 Try.underlying64 Try.underlying2 (zero64 _) w1.heap.size _ _ rfl HOWN.out _ _ rfl (keyOf_int_mk Try.underlying5 HBW.out) ?_; intro x hax hwx; obtain rfl : x = y := (by have h := hax.symm.trans HA.out; injection h with h; injection h); clear hax)
        go_round
        case rel => exact ⟨k + 1, by omega, by go_num, by rw [HSU.out]⟩
        case measure => simp [intOf]; omega
      · have hk' : k = s.size := by omega
        have HF : Hid (S = sumTo L.data.toList zv L.size s.data.toList s.size) := by rw [Hid, ← HS.out, hk']
        clear hk' hsu
        go_wp2
        go_ret
        exact ⟨ret_i64 (HF.out.trans HR.out.symm), hB2⟩

end Go.Proofs.Ytbfilebkmpcepaa
