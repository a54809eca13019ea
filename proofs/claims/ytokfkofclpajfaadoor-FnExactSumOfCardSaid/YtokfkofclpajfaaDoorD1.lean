/-
  Decimal numerals: the model's loop and the library's function write the same digits.
-/
import Derived.Test.YtokfkofclpajfaaDoorRows
import Derived.Test.YtokfkofclpajfaaDoorA
import Derived.Test.YtokfkofclpajfaaDoorShelfI
import Derived.Lib.ItoaNum
import Derived.Lib.AppendIntMem
namespace Go.Proofs.YtokfkofclpajfaaDoor
open Go.RowKit

/-- The digits of a number, none for 0. -/
def ddp (m : Nat) : List UInt8 := if m = 0 then [] else Lib.decDigits m
theorem ddp_zero : ddp 0 = [] := rfl
theorem ddp_step {m : Nat} (h : 0 < m) : ddp m = ddp (m / 10) ++ [UInt8.ofNat (48 + m % 10)] := by
  unfold ddp
  rw [if_neg (by omega)]
  by_cases h10 : m < 10
  · rw [if_pos (by omega), Lib.decDigits_one h10, Nat.mod_eq_of_lt h10]
    rfl
  · rw [if_neg (by omega)]
    conv => lhs; rw [Lib.decDigits, dif_neg h10]
theorem half_pow {m n : Nat} (h : m * 2 ^ n < 2 ^ 64) : (m / 10) * 2 ^ (n + 1) < 2 ^ 64 := by
  have h1 : (m / 10) * 2 ≤ m := by omega
  have h2 : (m / 10) * 2 ^ (n + 1) = ((m / 10) * 2) * 2 ^ n := by rw [Nat.pow_succ, Nat.mul_assoc, Nat.mul_comm 2]
  rw [h2]
  exact Nat.lt_of_le_of_lt (Nat.mul_le_mul_right _ h1) h
theorem few {m n : Nat} (h : m * 2 ^ n < 2 ^ 64) (hm : 0 < m) : n < 64 := by
  have h1 : 2 ^ n < 2 ^ 64 := Nat.lt_of_le_of_lt (Nat.le_mul_of_pos_left _ hm) h
  exact (Nat.pow_lt_pow_iff_right (by omega)).1 h1

/-- Bytes as cells. -/
def rowB (l : List UInt8) : List Value := l.map fun x => .int .u8 (x.toNat : Int)
theorem rowB_cons (x : UInt8) (l : List UInt8) : rowB (x :: l) = [.int .u8 (x.toNat : Int)] ++ rowB l := rfl
theorem rowB_one (l : List UInt8) : ∀ u ∈ rowB l, u.oneCell' = true := by
  intro u hu
  unfold rowB at hu
  rw [List.mem_map] at hu
  obtain ⟨x, _, rfl⟩ := hu
  rfl
theorem own_formD {B n : Nat} {e : TypeId} {w : World} {v : Value} {xs : List Value} (h : w.ownsRow B e 1 v n xs) :
    ∃ (a : Option Addr) (cap : Nat), v = .slice a n cap ∧ n ≤ cap ∧ cap ≤ maxLen ∧ (0 < n → ∃ g, a = some ⟨g, 0, none⟩ ∧ B ≤ g ∧ g < w.heap.size) := by
  rcases h.2 with ⟨rfl, rfl⟩ | ⟨g, cap, cur, rfl, hB, hg, hn, hm, _⟩
  · exact ⟨none, 0, rfl, Nat.le_refl _, Nat.zero_le _, fun h => absurd h (by omega)⟩
  · exact ⟨_, cap, rfl, hn, hm, fun _ => ⟨g, rfl, hB, (Array.getElem?_eq_some_iff.1 hg).1⟩⟩
theorem fold_pushD : ∀ (l : List UInt8) (s : ByteArray), (l.map fun x => (x.toNat : Int)).foldl (fun r n => r.push (UInt8.ofNat n.toNat)) s = ⟨(s.data.toList ++ l).toArray⟩
  | [], s => by simp
  | x :: l, s => by
    rw [List.map_cons, List.foldl_cons, fold_pushD l]
    apply Go.WideShapes.bytes_inj
    simp
/-- A text out of a row of bytes of the call's own. -/
theorem conv_rowD {B g cap : Nat} {l : List UInt8} {W : World} (h : W.ownsRow B 5 1 (.slice (some ⟨g, 0, none⟩) l.length cap) l.length (rowB l)) :
    (convert 96 9 (.slice (some ⟨g, 0, none⟩) l.length cap)).run Tryd.prog W = .ok (.string ⟨l.toArray⟩) W := by
  rw [run_convert_bytes_string _ 96 9 5 _ _ _ Tryd.underlying96 Tryd.underlying5 Tryd.underlying9]
  have hl := run_loadCells_list (P := Tryd.prog) (w := W) ⟨g, 0, none⟩ (rowB l) (by
    intro j v hj
    have hjl : j < l.length := by
      rcases Nat.lt_or_ge j l.length with h | h
      · exact h
      · rw [List.getElem?_eq_none (by simpa [rowB] using h)] at hj; cases hj
    rw [show (⟨g, 0, none⟩ : Addr).add j = ⟨g, j, none⟩ by unfold Addr.add; split <;> simp_all]
    rw [h.cellAt j (by omega)]
    exact hj)
  have e := run_bytesToString (P := Tryd.prog) W ⟨g, 0, none⟩ l.length cap (l.map fun x => (x.toNat : Int)) (by simpa [rowB, Function.comp_def] using hl)
  rw [e, fold_pushD]
  rfl
theorem info8D : (Tryd.prog.info? 5).map (fun i => (i.zero, i.size, i.bytes)) = some (some (.int .u8 0), 1, 1) := by kernel_rfl
theorem cat_oneD (c : UInt8) (s : List UInt8) : (⟨#[c]⟩ ++ ⟨s.toArray⟩ : ByteArray) = ⟨(c :: s).toArray⟩ := by
  apply Go.WideShapes.bytes_inj
  simp
theorem digit_byte {d : Nat} (h : d < 10) : ((UInt8.ofNat (48 + d)).toNat : Int) = 48 + (d : Int) := by
  rw [UInt8.toNat_ofNat']
  omega

/-- What the loop over the digits keeps. -/
def DecRel (B N m : Nat) (v : Value) (w : World) : Prop :=
  ∃ (l : List UInt8) (g cap : Nat), v = .slice (some ⟨g, 0, none⟩) l.length cap ∧ w.ownsRow B 5 1 v l.length (rowB l) ∧ ddp N = ddp m ++ l ∧ m * 2 ^ l.length < 2 ^ 64
theorem own_blockD {B n : Nat} {e : TypeId} {w : World} {v : Value} {xs : List Value} (h : w.ownsRow B e 1 v n xs) : ∀ k, v.ownBlock = some k → B ≤ k := by
  intro k hk
  rcases h.2 with ⟨rfl, _⟩ | ⟨g, cap, cur, rfl, hB, _⟩
  · simp [Value.ownBlock] at hk
  · simp [Value.ownBlock] at hk
    omega
theorem dec_step {B N m : Nat} {l : List UInt8} {v' : Value} {w1 : World} {d : Int} (hm : 0 < m) (hd : d = ((m % 10 : Nat) : Int)) (hdd : ddp N = ddp m ++ l) (hpw : m * 2 ^ l.length < 2 ^ 64)
    (ho : w1.ownsRow B 5 1 v' (1 + l.length) ([.int .u8 (48 + d)] ++ rowB l)) : DecRel B N (m / 10) v' w1 := by
  subst hd
  obtain ⟨a, cap, rfl, _, _, h⟩ := own_formD ho
  obtain ⟨g, rfl, _, _⟩ := h (by omega)
  have e : 1 + l.length = (UInt8.ofNat (48 + m % 10) :: l).length := by simp; omega
  rw [← digit_byte (d := m % 10) (by omega), ← rowB_cons] at ho
  rw [e] at ho ⊢
  refine ⟨UInt8.ofNat (48 + m % 10) :: l, g, cap, rfl, ho, ?_, ?_⟩
  · rw [hdd, ddp_step hm, List.append_assoc]
    rfl
  · rw [List.length_cons]
    exact half_pow hpw
theorem lit_row (w wr : World) (x : Value) (h : w.heap.size ≤ wr.heap.size) : (wr.alloc (.cells #[x] 5)).ownsRow w.heap.size 5 1 (.slice (some ⟨wr.heap.size, 0, none⟩) 1 1) 1 [x] :=
  World.ownsRow_lit wr #[x] 1 h (by decide) rfl
theorem old_row {B g cap : Nat} {l : List UInt8} {W : World} (o : Obj) (h : W.ownsRow B 5 1 (.slice (some ⟨g, 0, none⟩) l.length cap) l.length (rowB l)) :
    ∀ j u, (rowB l)[j]? = some u → (W.alloc o).cell? ((⟨g, 0, none⟩ : Addr).add j) = some u := by
  intro j u hj
  have hjl : j < l.length := by
    rcases Nat.lt_or_ge j l.length with h | h
    · exact h
    · rw [List.getElem?_eq_none (by simpa [rowB] using h)] at hj; cases hj
  rw [show (⟨g, 0, none⟩ : Addr).add j = ⟨g, j, none⟩ by unfold Addr.add; split <;> simp_all]
  rw [(h.alloc o).cellAt j (by omega)]
  exact hj
theorem decrel_zero {B N : Nat} {v : Value} {w : World} (h : DecRel B N 0 v w) : ∃ (g cap : Nat), v = .slice (some ⟨g, 0, none⟩) (ddp N).length cap ∧ w.ownsRow B 5 1 v (ddp N).length (rowB (ddp N)) := by
  obtain ⟨l, g, cap, rfl, ho, hdd, _⟩ := h
  rw [ddp_zero, List.nil_append] at hdd
  subst hdd
  exact ⟨g, cap, rfl, ho⟩
theorem ddp_len : ∀ (n m : Nat), m < 10 ^ n → (ddp m).length ≤ n
  | 0, m, h => by
    obtain rfl : m = 0 := by simp at h; exact h
    simp [ddp_zero]
  | n + 1, m, h => by
    rcases Nat.eq_zero_or_pos m with rfl | hm
    · simp [ddp_zero]
    · rw [ddp_step hm, List.length_append]
      have h2 : m / 10 < 10 ^ n := by
        rw [Nat.pow_succ] at h
        omega
      have := ddp_len n (m / 10) h2
      simp
      omega
theorem itoa_zeroD : Lib.itoa ((0 : Nat) : Int) = [48] := by
  unfold Lib.itoa
  rw [if_neg (by decide)]
  exact Lib.decDigits_one (by decide)
theorem ddp_pos {N : Nat} (h : 0 < N) : 0 < (ddp N).length := by
  rw [ddp_step h]
  simp

set_option maxRecDepth 100000 in
set_option maxHeartbeats 4000000 in
theorem l01Dec_pos (N : Nat) (hN : N < 9223372036854775808) (w : World) :
    Calls Tryd.prog 116 #[.int .i64 N] w fun e w' => e = .returned (.string ⟨(Lib.itoa N).toArray⟩) ∧ Below w.heap.size w w' := by
  obtain ⟨i0, hi, hz0, hz1, hz2⟩ := info_parts info8D
  go_enter Tryd.func116, Tryd.ntmps116
  go_wp2
  go_loopw [3, 4, 5] (fun v k _ wr => ∃ m : Nat, m ≤ N ∧ k = .int .i64 m ∧ DecRel w.heap.size N m v wr ∧ Below w.heap.size w wr) (fun _ k _ _ => (intOf k).toNat)
  case atStart => exact ⟨N, Nat.le_refl _, rfl, ⟨[], w.heap.size, 0, rfl, World.ownsRow_lit w _ 0 (Nat.le_refl _) (by unfold maxLen; omega) rfl, by simp, by simp; omega⟩, (Below.refl _ _).alloc (Nat.le_refl _) _⟩
  case round =>
    obtain ⟨m, hm, rfl, hrl, hb⟩ := hrel
    by_cases h0 : 0 < m
    · obtain ⟨l, g, cap, rfl, ho, hdd, hpw⟩ := hrl
      have hlf := few hpw h0
      have HST := hid (fun v' w1 d hd ho => dec_step (B := w.heap.size) (v' := v') (w1 := w1) (d := d) h0 hd hdd hpw ho)
      have HO := hid ho
      have h0b : ((m : Int) != 0) = true := by simp; omega
      have hd0 : ¬ ((m : Int) % 10 < 0) := by omega
      clear hpw hdd ho
      go_wp2_with (at_builtin; refine wpList_append_own _ rfl _ _ 96 rfl w.heap.size 5 i0 (.int .u8 0) 1 1 Tryd.underlying96 hi hz0 hz1 hz2 rfl (by decide) _ _ _ rfl (lit_row w wr _ hb.size) ⟨g, 0, none⟩ l.length cap (rowB l) rfl ?c0 (old_row _ HO.out) (rowB_one l) ?c3 ?c4 ?c5 ?_)
      case c0 => simp [rowB]
      case c3 => simp [maxLen]; omega
      case c4 => first | omega | (simp; omega)
      case c5 => have := hb.size; simp; omega
      intro v' w1 hown' hgrow _
      have hsz := hb.size
      have hB1 : Below w.heap.size w w1 := (hb.alloc hb.size _).grown hgrow (by simp; omega) (own_blockD (lit_row w wr (.int .u8 0) hb.size))
      have HR := hid (HST.out v' w1 ((m : Int) % 10) (by omega) hown')
      clear hown' hgrow HST
      go_wp2
      go_roundw
      case rel => exact ⟨m / 10, by omega, by go_num, HR.out, hB1⟩
      case measure => simp [intOf]; omega
    · obtain rfl : m = 0 := by omega
      obtain ⟨g, cap, rfl, ho⟩ := decrel_zero hrl
      by_cases hN0 : 0 < N
      · have hl := ddp_pos hN0
        have hcv := conv_rowD ho
        have hit : Lib.itoa N = ddp N := by
          unfold Lib.itoa ddp
          rw [if_neg (by omega), if_neg (by omega)]
          simp
        have HIT := hid hit
        have hlb : (((ddp N).length : Int) == 0) = false := by simp; intro h; rw [h] at hl; simp at hl
        have hn0 : ¬ ((N : Int) < 0) := by omega
        clear hit
        go_wp2
        go_ret
        exact ⟨by rw [HIT.out]; rfl, hb⟩
      · obtain rfl : N = 0 := by omega
        go_wp2
        go_ret
        exact ⟨by rw [itoa_zeroD]; rfl, hb⟩

set_option maxRecDepth 100000 in
set_option maxHeartbeats 4000000 in
theorem l01Dec_neg (N : Nat) (h1 : 0 < N) (hN : N ≤ 9223372036854775808) (w : World) :
    Calls Tryd.prog 116 #[.int .i64 (-(N : Int))] w fun e w' => e = .returned (.string ⟨(Lib.itoa (-(N : Int))).toArray⟩) ∧ Below w.heap.size w w' := by
  obtain ⟨i0, hi, hz0, hz1, hz2⟩ := info_parts info8D
  go_enter Tryd.func116, Tryd.ntmps116
  go_wp2
  go_loopw [3, 4, 5] (fun v k _ wr => ∃ m : Nat, m ≤ N ∧ k = .int .i64 (-(m : Int)) ∧ DecRel w.heap.size N m v wr ∧ Below w.heap.size w wr) (fun _ k _ _ => (intOf k).natAbs)
  case atStart => exact ⟨N, Nat.le_refl _, rfl, ⟨[], w.heap.size, 0, rfl, World.ownsRow_lit w _ 0 (Nat.le_refl _) (by unfold maxLen; omega) rfl, by simp, by simp; omega⟩, (Below.refl _ _).alloc (Nat.le_refl _) _⟩
  case round =>
    obtain ⟨m, hm, rfl, hrl, hb⟩ := hrel
    by_cases h0 : 0 < m
    · obtain ⟨l, g, cap, rfl, ho, hdd, hpw⟩ := hrl
      have hlf := few hpw h0
      have HST := hid (fun v' w1 d hd ho => dec_step (B := w.heap.size) (v' := v') (w1 := w1) (d := d) h0 hd hdd hpw ho)
      have HO := hid ho
      have h0b : (-(m : Int) != 0) = true := by simp; omega
      by_cases hdz : m % 10 = 0
      · have hd0 : ¬ (0 < (m : Int) % 10) := by omega
        clear hpw hdd ho
        go_wp2_with (at_builtin; refine wpList_append_own _ rfl _ _ 96 rfl w.heap.size 5 i0 (.int .u8 0) 1 1 Tryd.underlying96 hi hz0 hz1 hz2 rfl (by decide) _ _ _ rfl (lit_row w wr _ hb.size) ⟨g, 0, none⟩ l.length cap (rowB l) rfl ?c0 (old_row _ HO.out) (rowB_one l) ?c3 ?c4 ?c5 ?_)
        case c0 => simp [rowB]
        case c3 => simp [maxLen]; omega
        case c4 => first | omega | (simp; omega)
        case c5 => have := hb.size; simp; omega
        intro v' w1 hown' hgrow _
        have hsz := hb.size
        have hB1 : Below w.heap.size w w1 := (hb.alloc hb.size _).grown hgrow (by simp; omega) (own_blockD (lit_row w wr (.int .u8 0) hb.size))
        have HR := hid (HST.out v' w1 (-((m : Int) % 10)) (by omega) hown')
        clear hown' hgrow HST
        go_wp2
        go_roundw
        case rel => exact ⟨m / 10, by omega, by go_num, HR.out, hB1⟩
        case measure => simp [intOf]; omega
      · have hd0 : 0 < (m : Int) % 10 := by omega
        clear hpw hdd ho
        go_wp2_with (at_builtin; refine wpList_append_own _ rfl _ _ 96 rfl w.heap.size 5 i0 (.int .u8 0) 1 1 Tryd.underlying96 hi hz0 hz1 hz2 rfl (by decide) _ _ _ rfl (lit_row w wr _ hb.size) ⟨g, 0, none⟩ l.length cap (rowB l) rfl ?c0 (old_row _ HO.out) (rowB_one l) ?c3 ?c4 ?c5 ?_)
        case c0 => simp [rowB]
        case c3 => simp [maxLen]; omega
        case c4 => first | omega | (simp; omega)
        case c5 => have := hb.size; simp; omega
        intro v' w1 hown' hgrow _
        have hsz := hb.size
        have hB1 : Below w.heap.size w w1 := (hb.alloc hb.size _).grown hgrow (by simp; omega) (own_blockD (lit_row w wr (.int .u8 0) hb.size))
        have HR := hid (HST.out v' w1 ((m : Int) % 10) (by omega) hown')
        clear hown' hgrow HST
        go_wp2
        go_roundw
        case rel => exact ⟨m / 10, by omega, by go_num, HR.out, hB1⟩
        case measure => simp [intOf]; omega
    · obtain rfl : m = 0 := by omega
      obtain ⟨g, cap, rfl, ho⟩ := decrel_zero hrl
      have hl := ddp_pos h1
      have hcv := conv_rowD ho
      have hit : Lib.itoa (-(N : Int)) = 45 :: ddp N := by
        unfold Lib.itoa ddp
        rw [if_pos (by omega), if_neg (by omega)]
        simp
      have HIT := hid hit
      have hlb : (((ddp N).length : Int) == 0) = false := by simp; intro h; rw [h] at hl; simp at hl
      have hn0 : (-(N : Int) < 0) := by omega
      have hl20 : (ddp N).length ≤ 20 := ddp_len 20 N (by omega)
      clear hit
      go_wp2
      go_ret
      exact ⟨by rw [HIT.out]; exact congrArg (fun b => Ending.returned (.string b)) (cat_oneD 45 _), hb⟩

theorem l01Dec_any (n : Int) (h0 : -9223372036854775808 ≤ n) (h1 : n ≤ 9223372036854775807) (w : World) :
    Calls Tryd.prog 116 #[.int .i64 n] w fun e w' => e = .returned (.string ⟨(Lib.itoa n).toArray⟩) ∧ Below w.heap.size w w' := by
  by_cases hn : 0 ≤ n
  · obtain ⟨N, rfl⟩ := Int.eq_ofNat_of_zero_le hn
    exact l01Dec_pos N (by omega) w
  · obtain ⟨N, rfl⟩ : ∃ N : Nat, n = -(N : Int) := ⟨n.natAbs, by omega⟩
    exact l01Dec_neg N (by omega) (by omega) w


set_option maxRecDepth 100000 in
theorem implDecimal_any (n : Int) (h0 : -9223372036854775808 ≤ n) (h1 : n ≤ 9223372036854775807) (w : World) (htab : Lib.TabIs Tryd.prog w "internal/strconv.uint64pow10" .u64 Lib.pow10Tab) :
    Calls Tryd.prog 118 #[.int .i64 n] w fun e w' => e = .returned (.string ⟨(Lib.itoa n).toArray⟩) ∧ Below w.heap.size w w' := by
  go_enter Tryd.func118, Tryd.ntmps118
  go_wp2_with (go_at_call 133; refine (Tryd.strconv_FormatInt_10 n h0 h1 _ htab).mono ?_; rintro e we ⟨rfl, k, os, rfl⟩)
  go_ret
  exact ⟨rfl, Lib.below_grow _ _ (Nat.le_refl _) _ _⟩

end Go.Proofs.YtokfkofclpajfaaDoor
