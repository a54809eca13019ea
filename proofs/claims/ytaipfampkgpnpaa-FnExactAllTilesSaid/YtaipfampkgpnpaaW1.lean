/-
  All tiles of a tile set: the program's text of them, and that it is a pile.
-/
import Derived.Test.YtaipfampkgpnpaaR1
import Derived.Test.YtaipfampkgpnpaaQ4
import Derived.Test.YtaipfampkgpnpaaN2
namespace Go.Proofs.Ytaipfampkgpnpaa
open Go.RowKit

theorem letter_at {L : ByteArray} {n k : Nat} (h : lettersTo L.data.toList n = true) (hk : k < n) (hn : n ≤ L.size) : 97 ≤ (L[k]'(by omega)).toNat ∧ (L[k]'(by omega)).toNat ≤ 122 ∧ lastAt L.data.toList k < ((L[k]'(by omega)).toNat : Int) := by
  have h1 : letterB L.data.toList k = true := by
    cases hb : letterB L.data.toList k
    · rw [lettersTo_not hk hb] at h; cases h
    · rfl
  simp only [letterB, Bool.and_eq_true, smallB_iff, decide_eq_true_eq, byteAt_eq L k (by omega)] at h1
  omega
theorem all_tiles {L : ByteArray} {zc : List Int} {b : Int} (h : lettersTo L.data.toList L.size = true) : ∀ k, k ≤ L.size → allTiles (allTo L zc b k) = true
  | 0, _ => by
    rw [allTo_zero]
    unfold allTiles
    rw [List.all_eq_true]
    intro x hx
    rw [(List.mem_replicate.1 hx).2]
    rfl
  | k + 1, hk => by
    rw [allTo_succ L zc b k (by omega), tiles_cat, all_tiles h k (by omega), Bool.true_and]
    unfold allTiles
    rw [List.all_eq_true]
    intro x hx
    rw [(List.mem_replicate.1 hx).2]
    have := letter_at h (show k < L.size by omega) (Nat.le_refl _)
    rw [tileB_iff]
    omega
theorem all_under {L : ByteArray} {zc : List Int} {b : Int} (h : lettersTo L.data.toList L.size = true) : ∀ k, (hk : k < L.size) → ∀ x ∈ allTo L zc b k, x ≤ L[k]'hk
  | 0, hk => by
    intro x hx
    rw [allTo_zero] at hx
    rw [(List.mem_replicate.1 hx).2]
    have := letter_at h hk (Nat.le_refl _)
    rw [UInt8.le_iff_toNat_le]
    show 63 ≤ _
    omega
  | k + 1, hk => by
    intro x hx
    have h1 := letter_at h hk (Nat.le_refl _)
    rw [lastAt_succ, byteAt_eq L k (by omega)] at h1
    rw [allTo_succ L zc b k (by omega), List.mem_append] at hx
    rw [UInt8.le_iff_toNat_le]
    rcases hx with hx | hx
    · have := all_under h k (by omega) x hx
      rw [UInt8.le_iff_toNat_le] at this
      omega
    · rw [(List.mem_replicate.1 hx).2]
      omega
theorem all_asc {L : ByteArray} {zc : List Int} {b : Int} (h : lettersTo L.data.toList L.size = true) : ∀ k, k ≤ L.size → Asc (allTo L zc b k)
  | 0, _ => by
    rw [allTo_zero]
    exact List.pairwise_replicate.2 (.inr (UInt8.le_refl _))
  | k + 1, hk => by
    rw [allTo_succ L zc b k (by omega)]
    unfold Asc
    rw [List.pairwise_append]
    refine ⟨all_asc h k (by omega), List.pairwise_replicate.2 (.inr (UInt8.le_refl _)), fun x hx y hy => ?_⟩
    rw [(List.mem_replicate.1 hy).2]
    exact all_under h k (by omega) x hx
theorem all_len {L : ByteArray} {zv zc : List Int} {b : Int} (hn : numsTo zv zc L.size = true) (hc : zc.length = L.size) (hb : 0 ≤ b) : ∀ k, k ≤ L.size → ((allTo L zc b k).length : Int) = b + (zc.take k).sum
  | 0, _ => by
    rw [allTo_zero]
    simp
    omega
  | k + 1, hk => by
    have ih := all_len hn hc hb k (by omega)
    have h2 := (numB_parts.1 (nums_at hn (show k < L.size by omega))).2
    rw [allTo_succ L zc b k (by omega), List.length_append, List.length_replicate, sum_snoc zc k (by omega)]
    omega
theorem all_pile {L : ByteArray} {zv zc : List Int} {b : Int} (hok : okT L.data.toList zv zc b = true) : pileB (allTo L zc b L.size) = true := by
  obtain ⟨h1, h26, hvn, hcn, hb, hlet, hnum, hsum⟩ := okT_facts hok
  rw [pileB_iff]
  refine ⟨all_tiles hlet _ (Nat.le_refl _), all_asc hlet _ (Nat.le_refl _), ?_⟩
  have := all_len hnum hcn hb.1 L.size (Nat.le_refl _)
  rw [List.take_of_length_le (by omega)] at this
  omega

/-- All tiles and a code. -/
def allOut (L : ByteArray) (zv zc : List Int) (b : Int) : List UInt8 × Int := if okT L.data.toList zv zc b = true then (allTo L zc b L.size, 0) else ([], 1)
theorem allOut_no {L : ByteArray} {zv zc : List Int} {b : Int} (h : okT L.data.toList zv zc b = false) : allOut L zv zc b = ([], 1) := by
  unfold allOut
  rw [if_neg (by rw [h]; exact fun e => by cases e)]
theorem allOut_yes {L : ByteArray} {zv zc : List Int} {b : Int} (h : okT L.data.toList zv zc b = true) : allOut L zv zc b = (allTo L zc b L.size, 0) := by
  unfold allOut
  rw [if_pos h]

theorem repeat_of {c : UInt8} {X : List UInt8} (s : ByteArray) (n : Int) (w : World) (hs : s.data.toList = [c]) (hX : List.replicate n.toNat c = X) (h0 : 0 ≤ n) (hn : n ≤ 1000) :
    Calls Try.prog 22 #[.string s, .int .i64 n] w fun e w' => e = .returned (.string (txt X)) ∧ Below w.heap.size w w' := by
  obtain ⟨m, rfl⟩ := Int.eq_ofNat_of_zero_le h0
  rw [Int.toNat_natCast] at hX
  have h1 : s.size = 1 := by
    have : s.data.toList.length = s.size := by simp
    rw [← this, hs]
    rfl
  refine (Try.strings_Repeat s m w (by omega) (by rw [h1]; omega)).mono ?_
  rintro e w' ⟨rfl, hb⟩
  rw [hs, repeat_one, hX]
  exact ⟨rfl, hb⟩
theorem ext_at {s : ByteArray} {k : Nat} (h : k < s.size) : (s.extract k (k + 1)).data.toList = [s[k]'h] := by
  have e1 : (s.extract k (k + 1)).data.toList = (s.data.toList.drop k).take 1 := by simp [ByteArray.data_extract]
  rw [e1, drop_at s h]
  rfl

set_option maxRecDepth 100000 in
set_option maxHeartbeats 4000000 in
theorem implAllTiles_any (L : ByteArray) {vv vc : Value} {zv zc : List Int} (b : Int) (w : World) (hL : L.size ≤ maxLen) (hv : Ints .i64 w vv zv) (hc : Ints .i64 w vc zc) :
    Calls Try.prog 11 #[.agg #[.string L, vv, vc, .int .i64 b]] w fun e w' => e = .returned (ret2 (allOut L zv zc b)) ∧ Below w.heap.size w w' := by
  cases hok : okT L.data.toList zv zc b
  · have HR := hid (allOut_no hok)
    have HK := hid hok
    clear hok
    go_enter Try.func11, Try.ntmps11
    go_wp2_with fail
    refine (implValidTiles_any L b _ hL (hv.alloc _) (hc.alloc _)).mono ?_
    rw [HK.out]
    rintro e w1 ⟨rfl, hb1⟩
    have hB1 := ((Below.refl w.heap.size w).alloc (Nat.le_refl _) _).trans (hb1.mono (by simp))
    go_wp2
    go_ret2
    exact ⟨ret2_nil HR.out, hB1⟩
  · have HR := Shh.mk (allOut_yes hok)
    obtain ⟨h1, h26, hvn, hcn, hb, hlet, hnum, -⟩ := okT_facts hok
    have nc1 : zc.length ≤ L.size := by omega
    have nc2 : L.size ≤ zc.length := by omega
    have HNM := Shh.mk hnum
    have HK := hid hok
    have HBB := Shh.mk hb
    have hc0 := hc
    have hz := hc.len
    obtain ⟨b0, b4⟩ := hb
    obtain ⟨ac, cc, rfl, hcc, hcm, hci, -⟩ := hc
    unfold maxLen at hcm
    obtain ⟨A0, hA0⟩ : ∃ A, List.replicate b.toNat (63 : UInt8) = A := ⟨_, rfl⟩
    have HA0 := Shh.mk hA0
    have hl0 : A0.length ≤ 4 := by rw [← hA0]; simp; omega
    clear hok hvn hcn hlet hnum hA0
    go_enter Try.func11, Try.ntmps11
    go_wp2_with fail
    refine (implValidTiles_any L b _ hL (hv.alloc _) (hc0.alloc _)).mono ?_
    rw [HK.out]
    rintro e w1 ⟨rfl, hb1⟩
    have p0 := hid ((Blk.made w _ _).kept hb1 (by simp))
    have c0 := p0.out.cells
    have hB1 := ((Below.refl w.heap.size w).alloc (Nat.le_refl _) _).trans (hb1.mono (by simp))
    have hsz1 : w.heap.size < w1.heap.size := by have := hb1.size; simp at this; omega
    have HFB := hid (fresh_builder w1)
    go_wp2_with fail
    refine (repeat_of _ b _ rfl HA0.out b0 (by omega)).mono ?_
    rintro e w2 ⟨rfl, hb2⟩
    go_wp2_with fail
    refine (writeString_any w1.heap.size w1.heap.size [] (txt A0) _ (HFB.out.kept hb2) (by rw [txt_size]; simp; omega) (by have := hb2.size; simp at this; omega)).mono ?_
    rw [txt_list, List.nil_append]
    rintro e w3 ⟨rfl, hI3, hb3⟩
    have hB3 : Below w1.heap.size w1 w3 := ((Below.refl w1.heap.size w1).alloc (Nat.le_refl _) _).trans ((hb2.mono (by simp)).trans hb3)
    have HI3 := hid hI3
    have p3 := hid (p0.out.kept hB3 hsz1)
    have c3 := p3.out.cells
    have hB13 := hid (hB1.trans (hB3.mono (by omega)))
    clear hI3 c0
    go_wp2
    go_loopw [17] (fun i wr => ∃ k : Nat, k ≤ zc.length ∧ i = .int .i64 k ∧ Hid (IsB w1.heap.size w1.heap.size (allTo L zc b k) wr) ∧ Below w1.heap.size w1 wr) (fun i _ => zc.length - (intOf i).toNat)
    case atStart => exact ⟨0, Nat.zero_le _, rfl, by rw [allTo_zero, HA0.out]; exact HI3.out, hB3⟩
    case round =>
      obtain ⟨k, hk, rfl, hI, hBq⟩ := hrel
      have hzq := hBq.size
      have pq := hid (p0.out.kept hBq hsz1)
      have cq := pq.out.cells
      have hal := allTo_len L HNM.out HBB.out k (by omega)
      by_cases hlt : k < zc.length
      · have hltL : k < L.size := by omega
        obtain ⟨bc, oc, rfl, hbc, hcc'⟩ := hci (by omega)
        have ec := (hBq.cell (p := ⟨bc, oc + k, none⟩) (show bc < w1.heap.size by omega)).trans ((hB1.cell (p := ⟨bc, oc + k, none⟩) hbc).trans (hcc' k hlt))
        have hnb := (numB_parts.1 (nums_at HNM.out hltL)).2
        have hsu := allTo_succ L zc b k hltL
        have hone := Shh.mk (ext_at hltL)
        obtain ⟨A, hA⟩ : ∃ A, allTo L zc b k = A := ⟨_, rfl⟩
        rw [hA] at hal hsu hI
        obtain ⟨y, hy⟩ : ∃ y, zc.getD k 0 = y := ⟨_, rfl⟩
        rw [hy] at ec hnb hsu
        obtain ⟨n0, n1⟩ := hnb
        obtain ⟨X, hX⟩ : ∃ X, List.replicate y.toNat (L[k]'hltL) = X := ⟨_, rfl⟩
        rw [hX] at hsu
        have hxl : X.length ≤ 20 := by rw [← hX]; simp; omega
        have HX := Shh.mk hX
        have HSU := Shh.mk hsu
        have hk0 : (0 : Int) ≤ (k : Int) := by omega
        have hk1 : (k : Int) < (zc.length : Int) := by omega
        have hk2 : (k : Int) + 1 ≤ (L.size : Int) := by omega
        clear hcc' hci hA hy hX hsu
        go_wp2_with fail
        refine (repeat_of _ y _ hone.out HX.out (by omega) (by omega)).mono ?_
        rintro e w4 ⟨rfl, hb4⟩
        go_wp2_with fail
        refine (writeString_any w1.heap.size w1.heap.size A (txt X) _ (hI.out.kept hb4) (by rw [txt_size]; omega) (by have := hb4.size; omega)).mono ?_
        rw [txt_list, ← HSU.out]
        rintro e w5 ⟨rfl, hI5, hb5⟩
        have HI5 := hid hI5
        clear hI5
        go_wp2
        go_roundw
        case rel => exact ⟨k + 1, by omega, by go_num, HI5.out, hBq.trans ((hb4.mono hzq).trans hb5)⟩
        case measure => simp [intOf]; omega
      · have hkk : k = L.size := by omega
        have HI : Hid (IsB w1.heap.size w1.heap.size (allTo L zc b L.size) wr) := by rw [← hkk]; exact hI.out
        clear hkk hci hI hal
        obtain ⟨A, hA⟩ : ∃ A, allTo L zc b L.size = A := ⟨_, rfl⟩
        rw [hA] at HI
        have HR2 := Shh.mk (HR.out.trans (by rw [hA]))
        clear hA
        go_wp2_with (go_at_call 23; refine (Try.Builder_String_any w1.heap.size w1.heap.size A _ HI.out hzq).mono ?_; rintro e w4 ⟨rfl, hb4⟩)
        go_ret2
        exact ⟨ret2_is HR2.out, hB1.trans ((hBq.trans hb4).mono (by omega))⟩
end Go.Proofs.Ytaipfampkgpnpaa
