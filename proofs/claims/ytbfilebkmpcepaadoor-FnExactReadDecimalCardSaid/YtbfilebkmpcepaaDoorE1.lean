/-
  Reading a decimal numeral: what the model accepts is what the library's parser accepts and Decimal writes again.
-/
import Derived.Test.YtbfilebkmpcepaaDoorRows
import Derived.Test.YtbfilebkmpcepaaDoorA
import Derived.Test.YtbfilebkmpcepaaDoorD1
import Derived.Lib.AtoiTie
import Derived.Lib.ParseIntBTie
import Derived.Lib.Strings
import Derived.Lib.ItoaMem
namespace Go.Proofs.YtbfilebkmpcepaaDoor
open Go.RowKit

/-- A text without its minus. -/
def tl (l : List UInt8) : List UInt8 := if l.head? = some 45 then l.tail else l
theorem tl_minus (r : List UInt8) : tl (45 :: r) = r := rfl
theorem tl_other {c : UInt8} (r : List UInt8) (h : c ≠ 45) : tl (c :: r) = c :: r := by
  unfold tl
  rw [if_neg (by simpa using h)]
theorem trim_tl (l : List UInt8) : Lib.trimPrefix l [45] = tl l := by
  cases l with
  | nil => rfl
  | cons c r =>
    by_cases h : c = 45
    · subst h; rfl
    · rw [tl_other r h]
      unfold Lib.trimPrefix Lib.hasPrefix
      have : ((45 : UInt8) == c) = false := by simpa using fun e => h e.symm
      simp [List.isPrefixOf, this]

/-- The number that the model reads. -/
def rdS (l : List UInt8) : Option Int :=
  if 1 ≤ (tl l).length ∧ (tl l).length ≤ 18 then
    match Lib.decFrom 0 (tl l) with
    | some v => if Lib.itoa (if (tl l).length < l.length then -(v : Int) else v) = l then some (if (tl l).length < l.length then -(v : Int) else v) else none
    | none => none
  else none

theorem decFrom_append : ∀ (a b : List UInt8) (acc : Nat), Lib.decFrom acc (a ++ b) = (Lib.decFrom acc a).bind fun m => Lib.decFrom m b
  | [], b, acc => rfl
  | c :: r, b, acc => by
    simp only [List.cons_append, Lib.decFrom]
    cases Lib.digitVal c with
    | none => rfl
    | some d => exact decFrom_append r b _
theorem digit_val {d : Nat} (h : d < 10) : Lib.digitVal (UInt8.ofNat (48 + d)) = some d := by
  unfold Lib.digitVal
  rw [UInt8.toNat_ofNat', Nat.mod_eq_of_lt (by omega), if_pos (by omega)]
  congr 1
  omega
theorem decFrom_one {d : Nat} (acc : Nat) (h : d < 10) : Lib.decFrom acc [UInt8.ofNat (48 + d)] = some (acc * 10 + d) := by
  rw [Lib.decFrom, digit_val h]
  rfl
theorem decFrom_digits (u : Nat) : Lib.decFrom 0 (Lib.decDigits u) = some u := by
  induction u using Nat.strongRecOn with
  | _ u ih =>
    by_cases h : u < 10
    · rw [Lib.decDigits_one h]
      rw [decFrom_one 0 h]
      congr 1
      omega
    · rw [Lib.decDigits, dif_neg h, decFrom_append, ih (u / 10) (by omega)]
      rw [Option.bind_some, decFrom_one (u / 10) (d := u % 10) (by omega)]
      congr 1
      omega
theorem digits_head {u : Nat} {c : UInt8} {r : List UInt8} (h : Lib.decDigits u = c :: r) : 48 ≤ c.toNat ∧ c.toNat ≤ 57 := by
  obtain ⟨d, hd⟩ := Lib.digit_of_decFrom _ 0 u (decFrom_digits u) 0 c (by rw [h]; rfl)
  unfold Lib.digitVal at hd
  split at hd
  · assumption
  · cases hd
theorem itoa_head {n : Int} {c : UInt8} {r : List UInt8} (h : Lib.itoa n = c :: r) : c.toNat ≠ 43 := by
  unfold Lib.itoa at h
  split at h
  · simp only [List.cons.injEq] at h
    rw [← h.1]
    decide
  · have := digits_head h
    omega
theorem uint_short {l : List UInt8} (h0 : l ≠ []) (h : l.length ≤ 18) : Lib.parseUintB 64 l = Lib.NumEnd.ofOption (Lib.decFrom 0 l) := by
  unfold Lib.parseUintB
  rw [if_neg h0, show (2 ^ 64 - 1 : Nat) = 18446744073709551615 from rfl, Lib.parseUintM_64]
  exact Lib.parseUint10_short l 0 0 (by decide) (by omega)

/-- What the parser gives where the numeral is short: the number that the model reads, or none that Decimal writes so. -/
theorem rd_ok {l : List UInt8} {n : Int} (hs : (tl l).length ≤ 18) (h : Lib.parseIntB 64 l = .ok n) : rdS l = if Lib.itoa n = l then some n else none := by
  cases l with
  | nil => cases h
  | cons c r =>
    by_cases h45 : c = 45
    · subst h45
      rw [Lib.parseIntB_minus] at h
      rw [tl_minus] at hs
      by_cases hr : r = []
      · subst hr; cases h
      · rw [uint_short hr hs] at h
        have hl : 1 ≤ r.length := by cases r with | nil => exact absurd rfl hr | cons a b => simp
        unfold rdS
        rw [tl_minus, if_pos ⟨hl, hs⟩]
        cases hd : Lib.decFrom 0 r with
        | none => rw [hd] at h; cases h
        | some v =>
          have hv := Lib.decFrom_lt18 hd hs
          rw [hd] at h
          simp only [Lib.NumEnd.ofOption, Lib.signedC] at h
          rw [if_neg (by omega)] at h
          injection h with h
          subst h
          simp
    · by_cases h43 : c.toNat = 43
      · have hno : ¬ Lib.itoa n = c :: r := fun e => itoa_head e h43
        rw [if_neg hno]
        unfold rdS
        rw [tl_other r h45]
        have : Lib.decFrom 0 (c :: r) = none := by
          unfold Lib.decFrom Lib.digitVal
          rw [if_neg (by omega)]
        rw [this]
        simp
      · rw [Lib.parseIntB_plain 64 c r h43 (fun e => h45 (UInt8.toNat_inj.1 e))] at h
        rw [tl_other r h45] at hs
        rw [uint_short (by simp) hs] at h
        unfold rdS
        rw [tl_other r h45, if_pos ⟨by simp, hs⟩]
        cases hd : Lib.decFrom 0 (c :: r) with
        | none => rw [hd] at h; cases h
        | some v =>
          have hv := Lib.decFrom_lt18 hd hs
          rw [hd] at h
          simp only [Lib.NumEnd.ofOption, Lib.signlessC] at h
          rw [if_neg (by omega)] at h
          injection h with h
          subst h
          simp
theorem rd_long {l : List UInt8} (hs : 18 < (tl l).length) : rdS l = none := by
  unfold rdS
  rw [if_neg (by omega)]
theorem rd_bad {l : List UInt8} (h : ∀ n, Lib.parseIntB 64 l ≠ .ok n) : rdS l = none := by
  cases hr : rdS l with
  | none => rfl
  | some m =>
    exfalso
    unfold rdS at hr
    split at hr
    · rename_i hl
      cases hd : Lib.decFrom 0 (tl l) with
      | none => rw [hd] at hr; cases hr
      | some v =>
        have hv := Lib.decFrom_lt18 hd hl.2
        cases l with
        | nil => simp [tl] at hl
        | cons c r =>
          by_cases h45 : c = 45
          · subst h45
            rw [tl_minus] at hd hl
            refine h (-(v : Int)) ?_
            rw [Lib.parseIntB_minus, uint_short (by intro e; subst e; simp at hl) hl.2, hd]
            simp only [Lib.NumEnd.ofOption, Lib.signedC]
            rw [if_neg (by omega)]
          · rw [tl_other r h45] at hd hl
            have hc : c.toNat ≠ 43 := by
              obtain ⟨d, hd'⟩ := Lib.digit_of_decFrom _ 0 v hd 0 c rfl
              unfold Lib.digitVal at hd'
              split at hd'
              · omega
              · cases hd'
            refine h (v : Int) ?_
            rw [Lib.parseIntB_plain 64 c r hc (fun e => h45 (UInt8.toNat_inj.1 e)), uint_short (by simp) hl.2, hd]
            simp only [Lib.NumEnd.ofOption, Lib.signlessC]
            rw [if_neg (by omega)]
    · cases hr

/-! ### The model's reader -/
def digB (c : Int) : Bool := decide (48 ≤ c ∧ c ≤ 57)
set_option maxHeartbeats 400000 in
theorem l01DigitE (c : Int) (w : World) : Calls Tryd.prog 45 #[.int .u8 c] w fun e w' => e = .returned (.bool (digB c)) ∧ w = w' := by
  unfold digB
  by_cases h1 : 48 ≤ c
  · by_cases h2 : c ≤ 57
    · rw [decide_eq_true ⟨h1, h2⟩]
      go_enter Tryd.func45, Tryd.ntmps45
      go_wp2
      go_ret
      exact ⟨rfl, rfl⟩
    · rw [decide_eq_false (fun h => h2 h.2)]
      go_enter Tryd.func45, Tryd.ntmps45
      go_wp2
      go_ret
      exact ⟨rfl, rfl⟩
  · rw [decide_eq_false (fun h => h1 h.1)]
    go_enter Tryd.func45, Tryd.ntmps45
    go_wp2
    go_ret
    exact ⟨rfl, rfl⟩

/-- The pair that a reader answers. -/
def rdV : Option Int → Value
  | some n => .tuple #[.int .i64 n, .bool true]
  | none => .tuple #[.int .i64 0, .bool false]

theorem list_of_pos {s : ByteArray} (h : 0 < s.size) : s.data.toList = s[0] :: s.data.toList.tail := by
  have hl : 0 < s.data.toList.length := by simpa using h
  cases hs : s.data.toList with
  | nil => rw [hs] at hl; simp at hl
  | cons c r =>
    have : s[0] = s.data.toList[0]'hl := by simp [ByteArray.getElem_eq_getElem_data]
    simp only [this, hs, List.getElem_cons_zero, List.tail_cons]
theorem tail_list (s : ByteArray) : (s.extract 1 s.size).data.toList = s.data.toList.tail := by
  simp only [ByteArray.data_extract, Array.toList_extract, List.extract_eq_take_drop, List.drop_one]
  exact List.take_of_length_le (by simp)
theorem digit_some {c : UInt8} (h : digB (c.toNat : Int) = true) : 48 ≤ (c.toNat : Int) ∧ (c.toNat : Int) ≤ 57 ∧ Lib.digitVal c = some (c.toNat - 48) := by
  unfold digB at h
  have h := of_decide_eq_true h
  refine ⟨h.1, h.2, ?_⟩
  unfold Lib.digitVal
  rw [if_pos (by omega)]
theorem digit_none {c : UInt8} (h : digB (c.toNat : Int) = false) : Lib.digitVal c = none := by
  unfold digB at h
  have h := of_decide_eq_false h
  unfold Lib.digitVal
  rw [if_neg (by omega)]
theorem byte_list (t : ByteArray) (i : Nat) (h : i < t.size) : t.data.toList[i]? = some (t[i]'h) := by
  rw [List.getElem?_eq_getElem (by simpa using h)]
  simp [ByteArray.getElem_eq_getElem_data]
theorem dec_all {t : ByteArray} {i m : Nat} (hi : i = t.size) (h : Lib.decFrom 0 (t.data.toList.take i) = some m) : Lib.decFrom 0 t.data.toList = some m := by
  rw [List.take_of_length_le (by simp [hi])] at h
  exact h
theorem dec_bad {t : ByteArray} {i : Nat} (h : i < t.size) (hd : digB ((t[i]'h).toNat : Int) = false) : Lib.decFrom 0 t.data.toList = none := by
  cases hx : Lib.decFrom 0 t.data.toList with
  | none => rfl
  | some v =>
    obtain ⟨d, e⟩ := Lib.digit_of_decFrom _ 0 v hx i _ (byte_list t i h)
    rw [digit_none hd] at e
    cases e
theorem rdS_none {l t : List UInt8} (ht : tl l = t) (h : Lib.decFrom 0 t = none) : rdS l = none := by
  unfold rdS
  rw [ht, h]
  simp
theorem rdS_some {l t : List UInt8} {m : Nat} {n : Int} (ht : tl l = t) (h1 : 1 ≤ t.length) (h2 : t.length ≤ 18) (h : Lib.decFrom 0 t = some m) (hn : n = if t.length < l.length then -(m : Int) else m) :
    rdS l = if Lib.itoa n = l then some n else none := by
  subst hn
  unfold rdS
  rw [ht, if_pos ⟨h1, h2⟩, h]
theorem rdS_size {l t : List UInt8} (ht : tl l = t) (h : t.length < 1 ∨ 18 < t.length) : rdS l = none := by
  unfold rdS
  rw [ht, if_neg (by omega)]

set_option maxRecDepth 100000 in
set_option maxHeartbeats 4000000 in
theorem l01Number_plain (s : ByteArray) (w : World) (hs : s.size ≤ 1048576) (h0 : 0 < s.size) (h45 : s[0] ≠ 45) :
    Calls Tryd.prog 29 #[.string s] w fun e w' => e = .returned (rdV (rdS s.data.toList)) ∧ Below w.heap.size w w' := by
  have hE := empty_no h0
  have hm : ((s[0].toNat : Int) == 45) = false := by
    simp only [beq_eq_false_iff_ne, ne_eq]
    intro e
    have e45 : (45 : UInt8).toNat = 45 := rfl
    exact h45 (UInt8.toNat_inj.1 (by omega))
  have HTL := hid (show tl s.data.toList = s.data.toList by rw [list_of_pos h0]; exact tl_other _ h45)
  have h0t : 1 ≤ s.size := h0
  have hlen : ¬ s.size < s.size := by omega
  by_cases h18 : s.size ≤ 18
  · go_enter Tryd.func29, Tryd.ntmps29
    go_wp2_with fail
    go_loopw [5, 6] (fun n k wr => ∃ i m : Nat, i ≤ s.size ∧ k = .int .i64 i ∧ n = .int .i64 m ∧ Lib.decFrom 0 (s.data.toList.take i) = some m ∧ wr = w) (fun _ k _ => s.size - (intOf k).toNat)
    case atStart => exact ⟨0, 0, Nat.zero_le _, rfl, rfl, rfl, rfl⟩
    case round =>
      obtain ⟨i, m, hi, rfl, rfl, hdec, rfl⟩ := hrel
      by_cases hlt : i < s.size
      · have hmb := Lib.decFrom_take_lt hdec (by omega)
        cases hd : digB ((s[i]'hlt).toNat : Int) with
        | true =>
          obtain ⟨hd1, hd2, hd3⟩ := digit_some hd
          have HN := hid (Lib.decFrom_take _ _ _ _ _ _ hdec (byte_list s i hlt) hd3)
          have HD := hid hd
          clear hd hdec hd3
          go_wp2_with (go_at_call 45; refine (l01DigitE _ _).mono ?_; rw [HD.out]; rintro e w' ⟨rfl, rfl⟩)
          go_roundw
          case rel => exact ⟨i + 1, m * 10 + ((s[i]'hlt).toNat - 48), by omega, by go_num, by go_num, HN.out, trivial⟩
          case measure => simp [intOf]; omega
        | false =>
          have HB := hid (rdS_none HTL.out (dec_bad hlt hd))
          have HD := hid hd
          clear hd hdec
          go_wp2_with (go_at_call 45; refine (l01DigitE _ _).mono ?_; rw [HD.out]; rintro e w' ⟨rfl, rfl⟩)
          go_ret2
          exact ⟨by rw [HB.out]; rfl, Below.refl _ _⟩
      · have hii : i = s.size := by omega
        have HR := hid (rdS_some (n := (m : Int)) HTL.out (by simpa using h0t) (by simpa using h18) (dec_all hii hdec) (by simp [hlen]))
        have hmb := Lib.decFrom_lt18 (dec_all hii hdec) (by simpa using h18)
        skip
        clear hdec hlen
        by_cases hc : Lib.itoa (m : Int) = s.data.toList
        · have hcb : (Lib.itoa (m : Int) == s.toList) = true := by rw [ByteArray.toList_eq]; exact beq_iff_eq.2 hc
          rw [Hid, if_pos hc] at HR
          have HR := hid HR
          clear hc
          go_wp2_with (go_at_call 27; refine (l01Dec_any (m : Int) (by omega) (by omega) _).mono ?_; rintro e we ⟨rfl, hbe⟩)
          go_ret2
          exact ⟨by rw [HR.out]; rfl, hbe⟩
        · have hcb : (Lib.itoa (m : Int) == s.toList) = false := by rw [ByteArray.toList_eq]; exact beq_eq_false_iff_ne.2 hc
          rw [Hid, if_neg hc] at HR
          have HR := hid HR
          clear hc
          go_wp2_with (go_at_call 27; refine (l01Dec_any (m : Int) (by omega) (by omega) _).mono ?_; rintro e we ⟨rfl, hbe⟩)
          go_ret2
          exact ⟨by rw [HR.out]; rfl, hbe⟩
  · have HB := hid (rdS_size HTL.out (Or.inr (by simpa using h18)))
    go_enter Tryd.func29, Tryd.ntmps29
    go_wp2_with fail
    go_ret2
    exact ⟨by rw [HB.out]; rfl, Below.refl _ _⟩

set_option maxRecDepth 100000 in
set_option maxHeartbeats 4000000 in
theorem l01Number_minus (s : ByteArray) (w : World) (hs : s.size ≤ 1048576) (h0 : 0 < s.size) (h45 : s[0] = 45) :
    Calls Tryd.prog 29 #[.string s] w fun e w' => e = .returned (rdV (rdS s.data.toList)) ∧ Below w.heap.size w w' := by
  have hE := empty_no h0
  have hm : ((s[0].toNat : Int) == 45) = true := by rw [h45]; rfl
  have HTL0 : tl s.data.toList = (s.extract 1 s.size).data.toList := by rw [tail_list, list_of_pos h0, h45]; rfl
  have htz : (s.extract 1 s.size).size = s.size - 1 := by simp
  by_cases h18 : s.size - 1 ≤ 18
  · by_cases h01 : 1 ≤ s.size - 1
    · go_enter Tryd.func29, Tryd.ntmps29
      go_wp2_with fail
      obtain ⟨t, ht⟩ : ∃ t, s.extract 1 s.size = t := ⟨_, rfl⟩
      rw [ht] at HTL0 htz
      simp only [ht]
      have HTL := hid HTL0
      rw [← htz] at h18
      have h0t : 1 ≤ t.size := by omega
      have hlen : t.size < s.size := by omega
      clear ht HTL0
      go_loopw [5, 6] (fun n k wr => ∃ i m : Nat, i ≤ t.size ∧ k = .int .i64 i ∧ n = .int .i64 m ∧ Lib.decFrom 0 (t.data.toList.take i) = some m ∧ wr = w) (fun _ k _ => t.size - (intOf k).toNat)
      case atStart => exact ⟨0, 0, Nat.zero_le _, rfl, rfl, rfl, rfl⟩
      case round =>
        obtain ⟨i, m, hi, rfl, rfl, hdec, rfl⟩ := hrel
        by_cases hlt : i < t.size
        · have hmb := Lib.decFrom_take_lt hdec (by omega)
          cases hd : digB ((t[i]'hlt).toNat : Int) with
          | true =>
            obtain ⟨hd1, hd2, hd3⟩ := digit_some hd
            have HN := hid (Lib.decFrom_take _ _ _ _ _ _ hdec (byte_list t i hlt) hd3)
            have HD := hid hd
            clear hd hdec hd3
            go_wp2_with (go_at_call 45; refine (l01DigitE _ _).mono ?_; rw [HD.out]; rintro e w' ⟨rfl, rfl⟩)
            go_roundw
            case rel => exact ⟨i + 1, m * 10 + ((t[i]'hlt).toNat - 48), by omega, by go_num, by go_num, HN.out, trivial⟩
            case measure => simp [intOf]; omega
          | false =>
            have HB := hid (rdS_none HTL.out (dec_bad hlt hd))
            have HD := hid hd
            clear hd hdec
            go_wp2_with (go_at_call 45; refine (l01DigitE _ _).mono ?_; rw [HD.out]; rintro e w' ⟨rfl, rfl⟩)
            go_ret2
            exact ⟨by rw [HB.out]; rfl, Below.refl _ _⟩
        · have hii : i = t.size := by omega
          have HR := hid (rdS_some (n := (-(m : Int))) HTL.out (by simpa using h0t) (by simpa using h18) (dec_all hii hdec) (by simp [hlen]))
          have hmb := Lib.decFrom_lt18 (dec_all hii hdec) (by simpa using h18)
          have hts : (t.size : Int) < (s.size : Int) := by omega
          clear hdec hlen
          by_cases hc : Lib.itoa (-(m : Int)) = s.data.toList
          · have hcb : (Lib.itoa (-(m : Int)) == s.toList) = true := by rw [ByteArray.toList_eq]; exact beq_iff_eq.2 hc
            rw [Hid, if_pos hc] at HR
            have HR := hid HR
            clear hc
            go_wp2_with (go_at_call 27; refine (l01Dec_any (-(m : Int)) (by omega) (by omega) _).mono ?_; rintro e we ⟨rfl, hbe⟩)
            go_ret2
            exact ⟨by rw [HR.out]; rfl, hbe⟩
          · have hcb : (Lib.itoa (-(m : Int)) == s.toList) = false := by rw [ByteArray.toList_eq]; exact beq_eq_false_iff_ne.2 hc
            rw [Hid, if_neg hc] at HR
            have HR := hid HR
            clear hc
            go_wp2_with (go_at_call 27; refine (l01Dec_any (-(m : Int)) (by omega) (by omega) _).mono ?_; rintro e we ⟨rfl, hbe⟩)
            go_ret2
            exact ⟨by rw [HR.out]; rfl, hbe⟩
    · have HB := hid (rdS_size HTL0 (Or.inl (by simp only [Array.length_toList, ByteArray.size_data, htz]; omega)))
      clear HTL0
      go_enter Tryd.func29, Tryd.ntmps29
      go_wp2_with fail
      go_ret2
      exact ⟨by rw [HB.out]; rfl, Below.refl _ _⟩
  · have HB := hid (rdS_size HTL0 (Or.inr (by simp only [Array.length_toList, ByteArray.size_data, htz]; omega)))
    clear HTL0
    go_enter Tryd.func29, Tryd.ntmps29
    go_wp2_with fail
    go_ret2
    exact ⟨by rw [HB.out]; rfl, Below.refl _ _⟩

end Go.Proofs.YtbfilebkmpcepaaDoor
