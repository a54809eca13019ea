/-
  Bytes of forms in rising order: the program's answer. The line of a node, as bytes: two nodes with the same line are the same.
  The line of a node: the program's. The line of a node: the program's answer, whole.
-/
import Derived.Test.YtokfkofclpajfaaDoorVT
import Derived.Test.YtokfkofclpajfaaDoorN2
import Derived.Test.YtokfkofclpajfaaDoorT1
import Derived.Test.YtokfkofclpajfaaDoorB
import Derived.Test.YtokfkofclpajfaaDoorRA
import Derived.Test.YtokfkofclpajfaaDoorD1
import Derived.Test.YtokfkofclpajfaaDoorVO
import Derived.Test.YtokfkofclpajfaaDoorP0
import Derived.Deep.RegionHeld3
import Derived.Deep.AppendLies
import Derived.Lib.LaidTab
import Derived.Lib.ItoaLen
namespace Go.Proofs.YtokfkofclpajfaaDoor
open Go.RowKit

/-- A byte of forms, as a number. -/
def formI (c : Int) : Bool := smallB c || decide (c = 62)
theorem formI_yes1 {c : Int} (h1 : 97 ≤ c) (h2 : c ≤ 122) : formI c = true := by unfold formI; rw [smallB_yes h1 h2]; rfl
theorem formI_cases {c : Int} : formI c = true ↔ (97 ≤ c ∧ c ≤ 122) ∨ c = 62 := by
  unfold formI
  rw [Bool.or_eq_true, smallB_iff, decide_eq_true_eq]
theorem formI_not {c : Int} (h : ¬ ((97 ≤ c ∧ c ≤ 122) ∨ c = 62)) : formI c = false := by
  rw [Bool.eq_false_iff]
  exact fun e => h (formI_cases.1 e)
theorem formI_byte (c : UInt8) : formI (c.toNat : Int) = formB c := by
  unfold formI formB
  rw [Bool.or_comm]
  congr 1
  rw [Bool.eq_iff_iff, decide_eq_true_eq, beq_iff_eq]
  constructor
  · intro h
    exact UInt8.toNat_inj.1 (by show c.toNat = 62; omega)
  · rintro rfl
    rfl
set_option maxHeartbeats 1000000 in
theorem isFormByte_any (c : Int) (w : World) : Calls Tryd.prog 128 #[.int .i32 c] w fun e w' => e = .returned (.bool (formI c)) ∧ w = w' := by
  by_cases h : 97 ≤ c ∧ c ≤ 122
  · rw [formI_yes1 h.1 h.2]
    have HS := Shh.mk (smallB_yes h.1 h.2)
    go_enter Tryd.func128, Tryd.ntmps128
    go_wp2_with (go_at_call 138; refine (isSmall_any _ _).mono ?_; rw [HS.out]; rintro e w' ⟨rfl, rfl⟩)
    go_ret
    exact ⟨rfl, rfl⟩
  · have HS := Shh.mk (smallB_no h)
    by_cases h2 : c = 62
    · subst h2
      go_enter Tryd.func128, Tryd.ntmps128
      go_wp2_with (go_at_call 138; refine (isSmall_any _ _).mono ?_; rw [HS.out]; rintro e w' ⟨rfl, rfl⟩)
      go_ret
      exact ⟨rfl, rfl⟩
    · rw [formI_not (fun e => e.elim h h2)]
      have hb : (c == 62) = false := beq_eq_false_iff_ne.2 h2
      go_enter Tryd.func128, Tryd.ntmps128
      go_wp2_with (go_at_call 138; refine (isSmall_any _ _).mono ?_; rw [HS.out]; rintro e w' ⟨rfl, rfl⟩)
      go_ret
      exact ⟨rfl, rfl⟩

def formAt (l : List UInt8) (k : Nat) : Bool := formI (byteAt l k) && decide (lastAt l k < byteAt l k)
def formsTo (l : List UInt8) (k : Nat) : Bool := (List.range k).all (formAt l)
theorem formsTo_succ (l : List UInt8) (k : Nat) : formsTo l (k + 1) = (formsTo l k && formAt l k) := by simp [formsTo, List.range_succ]
theorem formsTo_not {l : List UInt8} {k n : Nat} (hk : k < n) (h : formAt l k = false) : formsTo l n = false := by
  rw [Bool.eq_false_iff]
  intro ha
  unfold formsTo at ha
  rw [List.all_eq_true] at ha
  have := ha k (List.mem_range.2 hk)
  rw [h] at this
  cases this
theorem byteAt_getH {l : List UInt8} {k : Nat} (h : k < l.length) : byteAt l k = ((l[k]'h).toNat : Int) := by
  unfold byteAt
  rw [List.getD_eq_getElem?_getD, List.getElem?_eq_getElem h]
  rfl
theorem formsTo_iff {l : List UInt8} : formsTo l l.length = true ↔ (∀ c ∈ l, formB c = true) ∧ l.Pairwise (· < ·) := by
  unfold formsTo
  rw [List.all_eq_true]
  constructor
  · intro h
    have h1 : ∀ k (hk : k < l.length), formB l[k] = true ∧ lastAt l k < ((l[k]'hk).toNat : Int) := fun k hk => by
      have := h k (List.mem_range.2 hk)
      unfold formAt at this
      rw [Bool.and_eq_true, decide_eq_true_eq, byteAt_getH hk, formI_byte] at this
      exact this
    refine ⟨fun c hc => ?_, ?_⟩
    · obtain ⟨k, hk, rfl⟩ := List.mem_iff_getElem.1 hc
      exact (h1 k hk).1
    · have h2 : ∀ (d i : Nat) (hi : i + 1 + d < l.length), ((l[i]'(by omega)).toNat : Int) < ((l[i + 1 + d]'hi).toNat : Int) := by
        intro d
        induction d with
        | zero =>
          intro i hi
          have := (h1 (i + 1) (by omega)).2
          rw [lastAt_succ, byteAt_getH (by omega)] at this
          exact this
        | succ d ih =>
          intro i hi
          have h3 := ih i (by omega)
          have h4 := (h1 (i + 1 + d + 1) (by omega)).2
          rw [lastAt_succ, byteAt_getH (by omega)] at h4
          have : ((l[i + 1 + (d + 1)]'hi).toNat : Int) = ((l[i + 1 + d + 1]'(by omega)).toNat : Int) := by congr 2
          omega
      rw [List.pairwise_iff_getElem]
      intro i j hi hj hij
      have h3 := h2 (j - i - 1) i (by omega)
      have h4 : ((l[i + 1 + (j - i - 1)]'(by omega)).toNat : Int) = ((l[j]'hj).toNat : Int) := by congr 2; congr 1; omega
      rw [UInt8.lt_iff_toNat_lt]
      omega
  · rintro ⟨h1, h2⟩ k hk
    have hk := List.mem_range.1 hk
    unfold formAt
    rw [Bool.and_eq_true, decide_eq_true_eq, byteAt_getH hk, formI_byte]
    refine ⟨h1 _ (List.getElem_mem hk), ?_⟩
    cases k with
    | zero =>
      rw [lastAt_zero]
      rcases form_cases (h1 _ (List.getElem_mem hk)) with h | h
      · rw [h]; decide
      · omega
    | succ k =>
      rw [lastAt_succ, byteAt_getH (by omega)]
      have := List.pairwise_iff_getElem.1 h2 k (k + 1) (by omega) hk (by omega)
      rw [UInt8.lt_iff_toNat_lt] at this
      omega
theorem decode_form (s : ByteArray) (pos : Nat) (h : pos < s.size) : formI ((Utf8.decode s pos).1 : Int) = formI ((s[pos]'h).toNat : Int) := by
  by_cases ha : (s[pos]'h).toNat < 128
  · rw [decode_ascii s pos h ha]
  · have := (decode_high s pos h (by omega)).1
    rw [formI_not (by omega), formI_not (by omega)]
theorem formAt_no1 {s : ByteArray} {k : Nat} (h : k < s.size) (hs : formI ((s[k]'h).toNat : Int) = false) : formAt s.data.toList k = false := by
  unfold formAt
  rw [byteAt_eq s k h, hs]
  rfl
theorem formAt_no2 {s : ByteArray} {k : Nat} (h : k < s.size) (hs : ((s[k]'h).toNat : Int) ≤ lastAt s.data.toList k) : formAt s.data.toList k = false := by
  unfold formAt
  rw [byteAt_eq s k h, decide_eq_false (by omega)]
  simp
theorem formAt_yes {s : ByteArray} {k : Nat} (h : k < s.size) (h1 : formI ((s[k]'h).toNat : Int) = true) (h2 : ¬ ((s[k]'h).toNat : Int) ≤ lastAt s.data.toList k) : formAt s.data.toList k = true := by
  unfold formAt
  rw [byteAt_eq s k h, h1, decide_eq_true (by omega)]
  rfl

set_option maxHeartbeats 2000000 in
theorem areFormBytes_any (s : ByteArray) (w : World) :
    Calls Tryd.prog 107 #[.string s] w fun e w' => e = .returned (.bool (formsTo s.data.toList s.size)) ∧ Below w.heap.size w w' := by
  go_enter Tryd.func107, Tryd.ntmps107
  go_wp2
  go_loopw [3, 5] (fun last _ w' => ∃ k : Nat, k ≤ s.size ∧ w' = w.iter s k ∧ last = .int .i32 (lastAt s.data.toList k) ∧ Hid (formsTo s.data.toList k = true)) (fun _ _ w' => s.size - w'.iterPos w.heap.size)
  case atStart => exact ⟨0, Nat.zero_le _, rfl, rfl, by simp [Hid, formsTo]⟩
  case round =>
    obtain ⟨k, hk, rfl, rfl, ha⟩ := hrel
    have hl0 := lastAt_nonneg s.data.toList k
    have hl1 := lastAt_lt s.data.toList k
    have hsuc := hid (lastAt_succ s.data.toList k)
    have hgro := hid (formsTo_succ s.data.toList k)
    obtain ⟨la, hla⟩ : ∃ la, lastAt s.data.toList k = la := ⟨_, rfl⟩
    rw [hla] at hl0 hl1
    by_cases hp : k < s.size
    · have hnx : ∀ ty, (Instr.next (.pointer (some ⟨w.heap.size, 0, none⟩)) true ty).run Tryd.prog (w.iter s k) = _ := fun ty => run_next_any w s k ty hp
      have hbe := hid (byteAt_eq s k hp)
      cases hb : formI ((Utf8.decode s k).1 : Int)
      · have hN := hid (formsTo_not hp (formAt_no1 hp ((decode_form s k hp).symm.trans hb)))
        have HB := hid hb
        have HL := hid hla
        rw [hla]
        clear hb hla
        go_wp2_with (go_at_call 128; refine (isFormByte_any _ _).mono ?_; rw [HB.out]; rintro e w' ⟨rfl, rfl⟩)
        go_ret
        exact ⟨ret_bool (by rw [hN.out]), below_iter _ _⟩
      · have hb' : formI ((s[k]'hp).toNat : Int) = true := (decode_form s k hp).symm.trans hb
        have hlt : (s[k]'hp).toNat < 128 := by rcases formI_cases.1 hb' with h | h <;> omega
        have hd1 := hid (show (Utf8.decode s k).2 = 1 by rw [decode_ascii s k hp hlt])
        have hdv : (Utf8.decode s k).1 = (s[k]'hp).toNat := by rw [decode_ascii s k hp hlt]
        have HB := hid hb
        have HV := hid hdv
        by_cases hle : ((Utf8.decode s k).1 : Int) ≤ la
        · have hN := hid (formsTo_not hp (formAt_no2 hp (by rw [hla]; omega)))
          have HL := hid hla
          rw [hla]
          clear hb hla hb' hdv
          go_wp2_with (go_at_call 128; refine (isFormByte_any _ _).mono ?_; rw [HB.out]; rintro e w' ⟨rfl, rfl⟩)
          go_ret
          exact ⟨ret_bool (by rw [hN.out]), below_iter _ _⟩
        · have hY := hid (formAt_yes hp hb' (by rw [hla]; omega))
          have HL := hid hla
          rw [hla]
          clear hb hla hb' hdv
          go_wp2_with (go_at_call 128; refine (isFormByte_any _ _).mono ?_; rw [HB.out]; rintro e w' ⟨rfl, rfl⟩)
          go_roundw
          case rel => exact ⟨k + 1, by omega, by rw [hd1.out], by rw [hsuc.out, hbe.out, HV.out], by rw [Hid, hgro.out, ha.out, hY.out]; rfl⟩
          case measure => simp [hd1.out]; omega
    · have hnx : ∀ ty, (Instr.next (.pointer (some ⟨w.heap.size, 0, none⟩)) true ty).run Tryd.prog (w.iter s k) = _ := fun ty => run_next_end w s k ty hp
      have hk' : s.size = k := by omega
      have HW : Hid (formsTo s.data.toList s.size = true) := by rw [hk']; exact ha
      have HL := hid hla
      rw [hla]
      clear hk' ha hla
      go_wp2
      go_ret
      exact ⟨ret_bool (by rw [HW.out]), below_iter _ _⟩
end Go.Proofs.YtokfkofclpajfaaDoor

namespace Go.Proofs.YtokfkofclpajfaaDoor
open Go.RowKit

/-! ### Numerals -/
def decV (l : List UInt8) : Nat := l.foldl (fun a c => a * 10 + (c.toNat - 48)) 0
theorem decV_snoc (l : List UInt8) (c : UInt8) : decV (l ++ [c]) = decV l * 10 + (c.toNat - 48) := by unfold decV; rw [List.foldl_append]; rfl
theorem ddp_val : ∀ (m : Nat), decV (ddp m) = m := by
  intro m
  induction m using Nat.strongRecOn with
  | _ m ih =>
    rcases Nat.eq_zero_or_pos m with rfl | h
    · rfl
    · rw [ddp_step h, decV_snoc, ih (m / 10) (by omega)]
      have h2 := digit_byte (d := m % 10) (Nat.mod_lt _ (by omega))
      omega
theorem itoa_val (m : Nat) : decV (Lib.itoa (m : Int)) = m := by
  rcases Nat.eq_zero_or_pos m with rfl | h
  · rw [itoa_zeroD]; rfl
  · have e := Lib.itoa_nonneg m
    have h2 := ddp_val m
    unfold ddp at h2
    rw [if_neg (by omega)] at h2
    rw [e]
    exact h2
theorem itoa_inj {a b : Int} (ha : 0 ≤ a) (hb : 0 ≤ b) (h : Lib.itoa a = Lib.itoa b) : a = b := by
  obtain ⟨m, rfl⟩ : ∃ m : Nat, a = (m : Int) := ⟨a.toNat, by omega⟩
  obtain ⟨n, rfl⟩ : ∃ n : Nat, b = (n : Int) := ⟨b.toNat, by omega⟩
  have := congrArg decV h
  rw [itoa_val, itoa_val] at this
  omega
theorem ddp_digit : ∀ (m : Nat), ∀ c ∈ ddp m, 48 ≤ c.toNat ∧ c.toNat ≤ 57 := by
  intro m
  induction m using Nat.strongRecOn with
  | _ m ih =>
    rcases Nat.eq_zero_or_pos m with rfl | h
    · intro c hc; simp [ddp] at hc
    · intro c hc
      rw [ddp_step h] at hc
      rcases List.mem_append.1 hc with hc | hc
      · exact ih (m / 10) (by omega) c hc
      · simp only [List.mem_singleton] at hc
        subst hc
        have h2 := digit_byte (d := m % 10) (Nat.mod_lt _ (by omega))
        have h3 := Nat.mod_lt m (show 0 < 10 by omega)
        omega
theorem itoa_digit {a : Int} (ha : 0 ≤ a) : ∀ c ∈ Lib.itoa a, 48 ≤ c.toNat ∧ c.toNat ≤ 57 := by
  obtain ⟨m, rfl⟩ : ∃ m : Nat, a = (m : Int) := ⟨a.toNat, by omega⟩
  rcases Nat.eq_zero_or_pos m with rfl | h
  · rw [itoa_zeroD]
    intro c hc
    simp at hc
    subst hc
    decide
  · have e := Lib.itoa_nonneg m
    have h2 := ddp_digit m
    unfold ddp at h2
    rw [if_neg (by omega)] at h2
    rw [e]
    exact h2

/-! ### Lines -/
theorem splitL_joinW {c : UInt8} : ∀ {xs : List (List UInt8)}, 0 < xs.length → (∀ x ∈ xs, c ∉ x) → splitL c (Lib.join xs [c]) = xs
  | [], h, _ => by simp at h
  | [x], _, h => by rw [Lib.join_one]; exact splitL_free (h x (by simp))
  | x :: y :: r, _, h => by
    have e : Lib.join (x :: y :: r) [c] = x ++ c :: Lib.join (y :: r) [c] := by
      rw [Lib.join_cons, Lib.join_cons]
      simp [Lib.joinTail]
    rw [e, splitL_cat _ (h x (by simp)), splitL_joinW (xs := y :: r) (by simp) (fun z hz => h z (by simp at hz ⊢; right; exact hz))]
/-- The words of a node's line: its mark, and each letter with its number. -/
def wordW (x : Nod) (j : Nat) : List UInt8 := x.ls.data.toList.getD j 0 :: Lib.itoa (x.ns.getD j 0)
def wordsW (x : Nod) (k : Nat) : List (List UInt8) := [if x.f = true then 43 else 45] :: (List.range k).map (wordW x)
def lineW (x : Nod) : List UInt8 := Lib.join (wordsW x x.ns.length) [32] ++ [10]
/-- Nodes whose lines tell them apart. -/
structure Lnd (x : Nod) : Prop where
  form : ∀ c ∈ x.ls.data.toList, formB c = true
  len : x.ls.size = x.ns.length
  nat : ∀ z ∈ x.ns, 0 ≤ z
theorem wordW_free {x : Nod} (h : Lnd x) {j : Nat} (hj : j < x.ns.length) : (32 : UInt8) ∉ wordW x j := by
  unfold wordW
  intro hm
  rcases List.mem_cons.1 hm with hm | hm
  · have hl : j < x.ls.data.toList.length := by rw [list_size, h.len]; exact hj
    have h2 : x.ls.data.toList.getD j 0 ∈ x.ls.data.toList := by rw [List.getD_eq_getElem?_getD, List.getElem?_eq_getElem hl]; exact List.getElem_mem hl
    have h1 := h.form _ h2
    rw [← hm] at h1
    rcases form_cases h1 with e | e
    · cases e
    · have e32 : (32 : UInt8).toNat = 32 := rfl
      omega
  · have h2 : x.ns.getD j 0 ∈ x.ns := by rw [List.getD_eq_getElem?_getD, List.getElem?_eq_getElem hj]; exact List.getElem_mem hj
    have := itoa_digit (h.nat _ h2) 32 hm
    have e32 : (32 : UInt8).toNat = 32 := rfl
    omega
theorem wordsW_free {x : Nod} (h : Lnd x) : ∀ w ∈ wordsW x x.ns.length, (32 : UInt8) ∉ w := by
  intro w hw
  unfold wordsW at hw
  rcases List.mem_cons.1 hw with rfl | hw
  · cases x.f <;> decide
  · obtain ⟨j, hj, rfl⟩ := List.mem_map.1 hw
    exact wordW_free h (List.mem_range.1 hj)
theorem lineW_inj {x y : Nod} (hx : Lnd x) (hy : Lnd y) (h : lineW x = lineW y) : contD x = contD y := by
  unfold lineW at h
  have h1 := (List.append_inj' h rfl).1
  have h2 := congrArg (splitL 32) h1
  rw [splitL_joinW (by simp [wordsW]) (wordsW_free hx), splitL_joinW (by simp [wordsW]) (wordsW_free hy)] at h2
  unfold wordsW at h2
  simp only [List.cons.injEq] at h2
  obtain ⟨h3, h4⟩ := h2
  have hf : x.f = y.f := by
    cases hfx : x.f <;> cases hfy : y.f <;> rw [hfx, hfy] at h3 <;> first | rfl | simp at h3
  have hl : x.ns.length = y.ns.length := by simpa using congrArg List.length h4
  have hw : ∀ j, j < x.ns.length → wordW x j = wordW y j := fun j hj => by
    have := congrArg (·[j]?) h4
    simpa [hj, hl ▸ hj] using this
  have hls : x.ls.data.toList = y.ls.data.toList := by
    refine List.ext_getElem? fun j => ?_
    rcases Nat.lt_or_ge j x.ns.length with hj | hj
    · have h5 := hw j hj
      unfold wordW at h5
      simp only [List.cons.injEq] at h5
      have a1 : j < x.ls.data.toList.length := by rw [list_size, hx.len]; exact hj
      have a2 : j < y.ls.data.toList.length := by rw [list_size, hy.len, ← hl]; exact hj
      rw [List.getElem?_eq_getElem a1, List.getElem?_eq_getElem a2]
      rw [List.getD_eq_getElem?_getD, List.getD_eq_getElem?_getD, List.getElem?_eq_getElem a1, List.getElem?_eq_getElem a2] at h5
      simpa using h5.1
    · rw [List.getElem?_eq_none (by rw [list_size, hx.len]; exact hj), List.getElem?_eq_none (by rw [list_size, hy.len, ← hl]; exact hj)]
  have hns : x.ns = y.ns := by
    refine List.ext_getElem? fun j => ?_
    rcases Nat.lt_or_ge j x.ns.length with hj | hj
    · have h5 := hw j hj
      unfold wordW at h5
      simp only [List.cons.injEq] at h5
      have hj2 := hl ▸ hj
      have e1 : x.ns.getD j 0 = x.ns[j] := by rw [List.getD_eq_getElem?_getD, List.getElem?_eq_getElem hj]; rfl
      have e2 : y.ns.getD j 0 = y.ns[j] := by rw [List.getD_eq_getElem?_getD, List.getElem?_eq_getElem hj2]; rfl
      rw [e1, e2] at h5
      rw [List.getElem?_eq_getElem hj, List.getElem?_eq_getElem hj2, itoa_inj (hx.nat _ (List.getElem_mem hj)) (hy.nat _ (List.getElem_mem hj2)) h5.2]
    · rw [List.getElem?_eq_none hj, List.getElem?_eq_none (hl ▸ hj)]
  unfold contD
  rw [hf, hls, hns]
theorem lineW_of {x y : Nod} (h : contD x = contD y) : lineW x = lineW y := by
  unfold contD at h
  simp only [Prod.mk.injEq] at h
  obtain ⟨h1, h2, h3⟩ := h
  unfold lineW wordsW
  have e : (List.range x.ns.length).map (wordW x) = (List.range y.ns.length).map (wordW y) := by
    rw [h3]
    exact List.map_congr_left fun j _ => by unfold wordW; rw [h2, h3]
  rw [e, h1]
theorem join_bound {b : Nat} : ∀ (l : List (List UInt8)), (∀ w ∈ l, w.length ≤ b) → (Lib.join l [32]).length ≤ l.length * (b + 1)
  | [], _ => by simp [Lib.join_nil]
  | x :: r, h => by
    have h1 := h x (by simp)
    rw [Lib.join_cons, List.length_append, List.length_cons, Nat.succ_mul]
    have h2 : (Lib.joinTail [32] r).length ≤ r.length * (b + 1) := by
      have h3 : ∀ w ∈ r, w.length ≤ b := fun w hw => h w (by simp [hw])
      clear h h1
      unfold Lib.joinTail
      induction r with
      | nil => simp
      | cons y r ih =>
        have h4 := h3 y (by simp)
        have h5 := ih fun w hw => h3 w (by simp [hw])
        rw [List.map_cons, List.flatten_cons, List.length_append, List.length_cons, Nat.succ_mul]
        simp only [List.length_append, List.length_cons, List.length_nil]
        omega
    omega
theorem wordsW_succ (x : Nod) (k : Nat) : wordsW x (k + 1) = wordsW x k ++ [wordW x k] := by unfold wordsW; rw [List.range_succ, List.map_append]; simp
end Go.Proofs.YtokfkofclpajfaaDoor

namespace Go.Proofs.YtokfkofclpajfaaDoor
open Go.RowKit

/-- The table of powers that the library's numerals read. -/
def TabW (w : World) : Prop := Shh (Lib.TabIs Tryd.prog w "internal/strconv.uint64pow10" .u64 Lib.pow10Tab)
theorem TabW.on {w w' : World} (h : TabW w) (hb : Below w.heap.size w w') : TabW w' := ⟨Lib.tabBelow_of_tabIs h.out w' hb⟩
theorem info_strW : (Tryd.prog.info? 9).map (fun i => (i.zero, i.size, i.bytes)) = some (some (.string ByteArray.empty), 1, 16) := by kernel_rfl
theorem step_append_str {ops : Array Oper} {o : Oper} {a : Act} {K : Act → World → Prop} {Q : Exit → Act → World → Prop} {E : Prop} {B H : Nat} {W : World} (hgd : o.guard = none) (s x : Operand)
    (ho : o.op = .call { callee := .builtin .append, args := #[s, x], argTypes := #[38, 38] })
    (u : Value) (ss : List ByteArray) (c : ByteArray) (hs : a.eval s = u) (hx : a.eval x = .slice (some ⟨H, 0, none⟩) 1 1) (hH : W.heap.size = H)
    (hown : OwnS B W u ss) (n : Nat) (hn : ss.length = n) (hlen : n ≤ 1000000) (hB : B ≤ W.heap.size)
    (h : ∀ g cap w', OwnS B w' (.slice (some ⟨g, 0, none⟩) (n + 1) cap) (ss ++ [c]) → Below B W w' → K (a.put o.dst (.slice (some ⟨g, 0, none⟩) (n + 1) cap)) w') :
    if Region.wanted o (yielded ops a.tmps) = true then Oper.wp Tryd.prog o a (W.alloc (.cells #[.string c] 9)) K Q else E := by
  subst hn hH
  obtain ⟨i0, hi, hz0, hz1, hz2⟩ := info_parts info_strW
  refine step_append_lies _ hgd s x 38 ho B 9 i0 (.string ByteArray.empty) 1 16 Tryd.underlying38 hi hz0 hz1 hz2 rfl (by decide) u ss.length (ss.map Value.string) hs (World.ownsRow.alloc hown _) ⟨W.heap.size, 0, none⟩ 1 1 [.string c] hx rfl (cell_one_new _ _ _) ?_ (by decide) ?_ ?_ (by simp; omega) _ rfl ?_
  · intro y hy; simp at hy; subst hy; rfl
  · simp [maxLen]; omega
  · omega
  · intro g cap w' ho' hg hl _
    refine h g cap w' ?_ (((Below.refl B W).alloc hB _).grown hg (by simp; omega) (own_block hown))
    unfold OwnS
    rw [List.map_append, List.length_append]
    exact ho'
theorem join_longW : ∀ (l : List (List UInt8)), l.length ≤ (Lib.join l [32]).length + 1
  | [] => by simp
  | [x] => by simp
  | x :: y :: r => by
    have ih := join_longW (y :: r)
    have e : Lib.join (x :: y :: r) [32] = x ++ [32] ++ Lib.join (y :: r) [32] := by first | rfl | simp [Lib.join]
    rw [e]
    simp only [List.length_append, List.length_cons, List.length_nil] at ih ⊢
    omega
theorem join_strsW {v : Value} {xs : List ByteArray} {T : List UInt8} (W : World) (h : Strs W v xs) (h0 : 0 < xs.length) (hT : Lib.join (xs.map (·.data.toList)) [32] = T) (hlen : T.length ≤ 1000000000) :
    Calls Tryd.prog 121 #[v, .string ⟨#[32]⟩] W fun e w' => e = .returned (.string (txt T)) ∧ Below W.heap.size W w' := by
  subst hT
  obtain ⟨a, cap, rfl, h1, h2, h3⟩ := h
  obtain ⟨b, off, rfl, h4, h5⟩ := h3 h0
  by_cases hn : xs.length ≤ 140737488355328
  · exact Tryd.strings_Join b off cap xs ⟨#[32]⟩ W (fun j x hj => by
      have hjl : j < xs.length := by
        rcases Nat.lt_or_ge j xs.length with h | h
        · exact h
        · rw [List.getElem?_eq_none h] at hj; cases hj
      rw [h5 j hjl]
      unfold strAt
      rw [List.getD_eq_getElem?_getD, hj]
      rfl) h4 hn h1 (Nat.le_trans hlen (by decide))
  · exfalso
    have := join_longW (xs.map (·.data.toList))
    simp only [List.length_map] at this
    omega
set_option maxHeartbeats 1000000 in
theorem lineOfW {v : Value} {xs : List ByteArray} {T : List UInt8} (W : World) (h : Strs W v xs) (h0 : 0 < xs.length) (hT : Lib.join (xs.map (·.data.toList)) [32] = T) (hlen : T.length ≤ 1000000000) :
    Calls Tryd.prog 100 #[v] W fun e w' => e = .returned (.string (txt (T ++ [10]))) ∧ Below W.heap.size W w' := by
  have HJ := Shh.mk (join_strsW W h h0 hT hlen)
  have hz : (txt T).size ≤ 1000000000 := by rw [txt_size]; exact hlen
  have hcat : txt T ++ (⟨#[10]⟩ : ByteArray) = txt (T ++ [10]) := by
    apply Go.WideShapes.bytes_inj
    simp [txt]
  obtain ⟨a, cap, rfl, -⟩ := h
  obtain ⟨TT, hTT⟩ : ∃ TT, txt T = TT := ⟨_, rfl⟩
  rw [hTT] at HJ hz hcat
  have HCAT := Shh.mk hcat
  clear hTT hcat
  go_enter Tryd.func100, Tryd.ntmps100
  go_wp2_with fail
  refine HJ.out.mono ?_
  rintro e w1 ⟨rfl, hb1⟩
  go_wp2
  go_ret
  exact ⟨congrArg (fun x => Ending.returned (.string x)) HCAT.out, hb1⟩
end Go.Proofs.YtokfkofclpajfaaDoor

namespace Go.Proofs.YtokfkofclpajfaaDoor
open Go.RowKit

theorem one_letter {ls : ByteArray} {k : Nat} (h : k < ls.size) : (ls.extract k (k + 1)).data.toList = [ls.data.toList.getD k 0] := by
  have hl : k < ls.data.toList.length := by rw [list_size]; exact h
  rw [show (ls.extract k (k + 1)).data.toList = (ls.data.toList.take (k + 1)).drop k by simp [ByteArray.data_extract, List.extract_eq_take_drop, List.drop_take], List.take_succ_eq_append_getElem hl, List.drop_append_of_le_length (by simp; omega), List.drop_of_length_le (by simp; omega), List.getD_eq_getElem?_getD, List.getElem?_eq_getElem hl]
  rfl
theorem lit_row1 (w : World) (s : ByteArray) : OwnS w.heap.size (w.alloc (.cells #[.string s] 9)) (.slice (some ⟨w.heap.size, 0, none⟩) 1 1) [s] :=
  World.ownsRow_lit w #[.string s] 1 (Nat.le_refl _) (by unfold maxLen; omega) rfl

set_option maxRecDepth 100000 in
set_option maxHeartbeats 4000000 in
theorem line_any {f : Bool} {ls : ByteArray} {ns : List Int} {u : Value} (W : World) (hT : TabW W) (hu : Ints .i64 W u ns) (hl : ls.size = ns.length) (hfew : ns.length ≤ 3000) (hnat : ∀ z ∈ ns, 0 ≤ z ∧ z ≤ 3000) :
    Calls Tryd.prog 88 #[.agg #[.bool f, .string ls, u]] W fun e w' => e = .returned (.string (txt (lineW ⟨f, ls, ns⟩))) ∧ Below W.heap.size W w' := by
  have HT := Shh.mk (hT.on ((Below.refl _ _).alloc (Nat.le_refl _) (.cells #[.bool f, .string ls, u] 71)))
  have HL := Shh.mk hl
  have HNAT := Shh.mk hnat
  have HBD := Shh.mk (Blk.made W 71 #[.bool f, .string ls, u])
  have HU := Shh.mk (hu.alloc (.cells #[.bool f, .string ls, u] 71))
  have hul := hu.len
  obtain ⟨ua, uc, rfl, -⟩ := hu
  have HSTART := fun s => Shh.mk (show OwnS (W.heap.size + 1) ((W.alloc (.cells #[.bool f, .string ls, .slice ua ns.length uc] 71)).alloc (.cells #[.string s] 9)) (.slice (some ⟨W.heap.size + 1, 0, none⟩) 1 1) [s] from by
    have h := lit_row1 (W.alloc (.cells #[.bool f, .string ls, .slice ua ns.length uc] 71)) s
    rw [World.size_alloc] at h
    exact h)
  clear hT hl hnat
  cases f
  case' false =>
    have HS0 := Shh.mk (show OwnS (W.heap.size + 1) _ (.slice (some ⟨W.heap.size + 1, 0, none⟩) 1 1) ((wordsW ⟨false, ls, ns⟩ 0).map txt) from (HSTART ⟨#[45]⟩).out)
    obtain ⟨f, hf⟩ : ∃ f : Bool, f = false := ⟨_, rfl⟩
    clear HSTART
    go_enter Tryd.func88, Tryd.ntmps88
    go_wp2
    rw [← hf] at HBD HU HT
  case' true =>
    have HS0 := Shh.mk (show OwnS (W.heap.size + 1) _ (.slice (some ⟨W.heap.size + 1, 0, none⟩) 1 1) ((wordsW ⟨true, ls, ns⟩ 0).map txt) from (HSTART ⟨#[43]⟩).out)
    obtain ⟨f, hf⟩ : ∃ f : Bool, f = true := ⟨_, rfl⟩
    clear HSTART
    go_enter Tryd.func88, Tryd.ntmps88
    go_wp2
    rw [← hf] at HBD HU HT
  all_goals
    go_loopw [3, 4, 5, 14] (fun s _ _ z wr => ∃ k : Nat, k ≤ ns.length ∧ z = .int .i64 k ∧ Shh (OwnS (W.heap.size + 1) wr s ((wordsW ⟨f, ls, ns⟩ k).map txt)) ∧ Below (W.alloc (.cells #[.bool f, .string ls, .slice ua ns.length uc] 71)).heap.size (W.alloc (.cells #[.bool f, .string ls, .slice ua ns.length uc] 71)) wr) (fun _ _ _ z _ => ns.length - (intOf z).toNat)
    case atStart => exact ⟨0, Nat.zero_le _, rfl, by rw [hf]; exact HS0, by rw [hf]; exact (Below.refl _ _).alloc (Nat.le_refl _) _⟩
    case round =>
      obtain ⟨k, hkl, rfl, ho, hb⟩ := hrel
      have HF := Shh.mk hf
      clear HS0 hf
      have hB1 : W.heap.size + 1 ≤ wr.heap.size := by have := hb.size; simpa using this
      have c1 : wr.cell? ⟨W.heap.size, 1, none⟩ = some (.string ls) := (HBD.out.kept hb (by simp)).cells 1
      by_cases hk : k < ns.length
      · obtain ⟨a2, cap2, e2, h3, h4, h5, h6⟩ := HU.out
        obtain ⟨bu, ou, rfl, hbu, hcu⟩ := h5 (by omega)
        simp only [Value.slice.injEq] at e2
        obtain ⟨rfl, -, rfl⟩ := e2
        have cu := (hb.cell (p := ⟨bu, ou + k, none⟩) hbu).trans (hcu k hk)
        have hzz : 0 ≤ ns.getD k 0 ∧ ns.getD k 0 ≤ 3000 := by rw [List.getD_eq_getElem?_getD, List.getElem?_eq_getElem hk]; exact HNAT.out _ (List.getElem_mem hk)
        obtain ⟨z, hz⟩ : ∃ z, ns.getD k 0 = z := ⟨_, rfl⟩
        rw [hz] at cu hzz
        have hkl2 : k < ls.size := by have := HL.out; omega
        obtain ⟨E, hE⟩ : ∃ E, ls.extract k (k + 1) = E := ⟨_, rfl⟩
        obtain ⟨X, hX⟩ : ∃ X, txt (Lib.itoa z) = X := ⟨_, rfl⟩
        have hEl : E.data.toList = [ls.data.toList.getD k 0] := by rw [← hE]; exact one_letter hkl2
        have hEs : E.size = 1 := by rw [← list_size, hEl]; rfl
        have hXs : X.size ≤ 21 := by rw [← hX, txt_size]; exact Lib.itoa_length_le z (by omega) (by omega)
        have HDEC := Shh.mk (fun w1 (hb1 : Below wr.heap.size wr w1) => show Calls Tryd.prog 118 #[.int .i64 z] w1 (fun e w' => e = .returned (.string X) ∧ Below wr.heap.size wr w') from by
          refine (implDecimal_any z (by omega) (by omega) w1 ((HT.out.on (hb.trans (hb1.mono (by simpa using hB1)))).out)).mono ?_
          rintro e w' ⟨rfl, hb2⟩
          exact ⟨by rw [← hX]; rfl, hb1.trans (hb2.mono hb1.size)⟩)
        have HW := Shh.mk (show (wordsW ⟨f, ls, ns⟩ (k + 1)).map txt = (wordsW ⟨f, ls, ns⟩ k).map txt ++ [E ++ X] from by
          rw [wordsW_succ, List.map_append]
          congr 1
          simp only [List.map_cons, List.map_nil, List.cons.injEq, and_true]
          unfold wordW
          apply Go.WideShapes.bytes_inj
          rw [ByteArray.data_append, Array.toList_append, hEl, ← hX]
          simp only [hz]
          simp [txt])
        have K := Shh.mk (fun w' (hb' : Below (W.alloc (.cells #[.bool f, .string ls, .slice (some ⟨bu, ou, none⟩) ns.length uc] 71)).heap.size (W.alloc (.cells #[.bool f, .string ls, .slice (some ⟨bu, ou, none⟩) ns.length uc] 71)) w') => show w'.cell? ⟨W.heap.size, 1, none⟩ = some (.string ls) from (HBD.out.kept hb' (by simp)).cells 1)
        obtain ⟨oa, oc, rfl, -⟩ := own_form ho.out
        have hwl : ((wordsW ⟨f, ls, ns⟩ k).map txt).length = k + 1 := by simp [wordsW]
        have HO := ho
        have HWL := Shh.mk hwl
        rw [hwl]
        rw [hwl] at HO
        obtain ⟨SS, hSS⟩ : ∃ SS, (wordsW ⟨f, ls, ns⟩ k).map txt = SS := ⟨_, rfl⟩
        rw [hSS] at HO HW HWL
        have hlk : (k : Int) + 1 ≤ (ls.size : Int) := by omega
        have hwr : IntKind.i64.wrap ((k : Int) + 1) = (k : Int) + 1 := IntWalk.i64_in _ (by omega)
        have hlo : (0 : Int) ≤ (k : Int) + 1 := by omega
        have hup : (k : Int) ≤ (k : Int) + 1 := by omega
        have hnn : ((k : Int) + 1).toNat = k + 1 := by omega
        have hmx : ¬ 9223372036854775807 < E.size + X.size := by omega
        clear ho hwl hSS hz hX hEl h5 h6 hcu h3 h4 hEs hXs
        have HBS := Shh.mk hb.size
        have HSB := Shh.mk (World.size_alloc W (.cells #[.bool f, .string ls, .slice (some ⟨bu, ou, none⟩) ns.length uc] 71))
        have hk9 : k + 1 ≤ 1000000 := by omega
        go_wp2_with fail
        go_region_held3 (fun w' => w'.cell? ⟨W.heap.size, 1, none⟩ = some (.string ls))
          (first | exact K.out _ hb.drew | exact K.out _ (hb.trans (hb2.mono HBS.out)) | exact K.out _ ((hb.trans (hb2.mono HBS.out)).alloc (Nat.le_trans HBS.out hb2.size) _) | exact K.out _ HB4.out)
          (first
            | (go_at_call 118; with_reducible refine (HDEC.out _ (by first | exact Below.refl _ _ | exact (Below.refl _ _).drew)).mono ?_; rintro e w2 ⟨rfl, hb2⟩)
            | (refine step_append_str (B := W.heap.size + 1) (by rfl) _ _ (by rfl) (.slice oa (k + 1) oc) SS (E ++ X) (by rfl) (by rfl) (by rfl) (own_kept HO.out hb2) (k + 1) HWL.out hk9 (Nat.le_trans hB1 hb2.size) ?_; intro g4 c4 w4 ho4 hb4; have HB4 := Shh.mk ((hb.trans (hb2.mono HBS.out)).trans (by rw [HSB.out]; exact hb4)); have HO4 := Shh.mk ho4; clear ho4 hb4))
        all_goals
          go_wp2
          go_roundw
          case rel => exact ⟨k + 1, by omega, by go_num, by rw [HW.out]; exact HO4, HB4.out⟩
          case measure => simp [intOf]; omega
      · obtain rfl : k = ns.length := by omega
        have HJ := Shh.mk (lineOfW (T := Lib.join (wordsW ⟨f, ls, ns⟩ ns.length) [32]) wr (OwnS.strs ho.out) (by simp [wordsW]) (by
          rw [List.map_map]
          congr 1
          conv => rhs; rw [← List.map_id (wordsW ⟨f, ls, ns⟩ ns.length)]
          exact List.map_congr_left fun t _ => by simp [txt]) (by
          have h1 := join_bound (b := 22) (wordsW ⟨f, ls, ns⟩ ns.length) (fun w hw => by
            unfold wordsW at hw
            rcases List.mem_cons.1 hw with rfl | hw
            · simp
            · obtain ⟨j, hj, rfl⟩ := List.mem_map.1 hw
              unfold wordW
              have hj2 := List.mem_range.1 hj
              have hzz : 0 ≤ ns.getD j 0 ∧ ns.getD j 0 ≤ 3000 := by rw [List.getD_eq_getElem?_getD, List.getElem?_eq_getElem hj2]; exact HNAT.out _ (List.getElem_mem hj2)
              have := Lib.itoa_length_le (ns.getD j 0) (by omega) (by omega)
              rw [List.length_cons]
              show (Lib.itoa (ns.getD j 0)).length + 1 ≤ 22
              omega)
          have h2 : (wordsW ⟨f, ls, ns⟩ ns.length).length = ns.length + 1 := by simp [wordsW]
          rw [h2] at h1
          have h3 : (ns.length + 1) * (22 + 1) ≤ 3001 * 23 := Nat.mul_le_mul (by omega) (Nat.le_refl _)
          omega))
        have HB := Shh.mk (show Below W.heap.size W wr from ((Below.refl _ _).alloc (Nat.le_refl _) _).trans (hb.mono (by simp)))
        clear ho
        go_wp2_with (go_at_call 100; refine (HJ.out).mono ?_; rintro e w2 ⟨rfl, hb2⟩)
        go_ret
        exact ⟨by have e := HF.out; subst e; rfl, HB.out.trans (hb2.mono HB.out.size)⟩
end Go.Proofs.YtokfkofclpajfaaDoor
