/-
  Bytes of forms in rising order: the program's answer.
  The line of a node, as bytes: two nodes with the same line are the same.
-/
import Derived.Test.YtabbpnafkgljcaaDoorVT
import Derived.Test.YtabbpnafkgljcaaDoorN2
import Derived.Test.YtabbpnafkgljcaaDoorT1
import Derived.Test.YtabbpnafkgljcaaDoorB
import Derived.Test.YtabbpnafkgljcaaDoorRA
import Derived.Test.YtabbpnafkgljcaaDoorD1
namespace Go.Proofs.YtabbpnafkgljcaaDoor
open Go.RowKit

/-- A byte of forms, as a number. -/
def formI (c : Int) : Bool := smallB c || decide (c = 62)
theorem formI_yes1 {c : Int} (h1 : 97 ≤ c) (h2 : c ≤ 122) : formI c = true := by unfold formI; rw [smallB_yes h1 h2]; rfl
theorem formI_cases {c : Int} : formI c = true ↔ (97 ≤ c ∧ c ≤ 122) ∨ c = 62 := by
  unfold formI
  rw [Bool.or_eq_true, smallB_iff, decide_eq_true_eq]
theorem formI_not {c : Int} (h : ¬ ((97 ≤ c ∧ c ≤ 122) ∨ c = 62)) : formI c = false := by
  rw [Bool.eq_false_iff]
  exact fun e => h (formI_cases.1 e)
theorem formI_byte (c : UInt8) : formI (c.toNat : Int) = formB c := by
  unfold formI formB
  rw [Bool.or_comm]
  congr 1
  rw [Bool.eq_iff_iff, decide_eq_true_eq, beq_iff_eq]
  constructor
  · intro h
    exact UInt8.toNat_inj.1 (by show c.toNat = 62; omega)
  · rintro rfl
    rfl
set_option maxHeartbeats 1000000 in
theorem isFormByte_any (c : Int) (w : World) : Calls Tryd.prog 162 #[.int .i32 c] w fun e w' => e = .returned (.bool (formI c)) ∧ w = w' := by
  by_cases h : 97 ≤ c ∧ c ≤ 122
  · rw [formI_yes1 h.1 h.2]
    have HS := Shh.mk (smallB_yes h.1 h.2)
    go_enter Tryd.func162, Tryd.ntmps162
    go_wp2_with (go_at_call 168; refine (isSmall_any _ _).mono ?_; rw [HS.out]; rintro e w' ⟨rfl, rfl⟩)
    go_ret
    exact ⟨rfl, rfl⟩
  · have HS := Shh.mk (smallB_no h)
    by_cases h2 : c = 62
    · subst h2
      go_enter Tryd.func162, Tryd.ntmps162
      go_wp2_with (go_at_call 168; refine (isSmall_any _ _).mono ?_; rw [HS.out]; rintro e w' ⟨rfl, rfl⟩)
      go_ret
      exact ⟨rfl, rfl⟩
    · rw [formI_not (fun e => e.elim h h2)]
      have hb : (c == 62) = false := beq_eq_false_iff_ne.2 h2
      go_enter Tryd.func162, Tryd.ntmps162
      go_wp2_with (go_at_call 168; refine (isSmall_any _ _).mono ?_; rw [HS.out]; rintro e w' ⟨rfl, rfl⟩)
      go_ret
      exact ⟨rfl, rfl⟩

def formAt (l : List UInt8) (k : Nat) : Bool := formI (byteAt l k) && decide (lastAt l k < byteAt l k)
def formsTo (l : List UInt8) (k : Nat) : Bool := (List.range k).all (formAt l)
theorem formsTo_succ (l : List UInt8) (k : Nat) : formsTo l (k + 1) = (formsTo l k && formAt l k) := by simp [formsTo, List.range_succ]
theorem formsTo_not {l : List UInt8} {k n : Nat} (hk : k < n) (h : formAt l k = false) : formsTo l n = false := by
  rw [Bool.eq_false_iff]
  intro ha
  unfold formsTo at ha
  rw [List.all_eq_true] at ha
  have := ha k (List.mem_range.2 hk)
  rw [h] at this
  cases this
theorem byteAt_get {l : List UInt8} {k : Nat} (h : k < l.length) : byteAt l k = ((l[k]'h).toNat : Int) := by
  unfold byteAt
  rw [List.getD_eq_getElem?_getD, List.getElem?_eq_getElem h]
  rfl
theorem formsTo_iff {l : List UInt8} : formsTo l l.length = true ↔ (∀ c ∈ l, formB c = true) ∧ l.Pairwise (· < ·) := by
  unfold formsTo
  rw [List.all_eq_true]
  constructor
  · intro h
    have h1 : ∀ k (hk : k < l.length), formB l[k] = true ∧ lastAt l k < ((l[k]'hk).toNat : Int) := fun k hk => by
      have := h k (List.mem_range.2 hk)
      unfold formAt at this
      rw [Bool.and_eq_true, decide_eq_true_eq, byteAt_get hk, formI_byte] at this
      exact this
    refine ⟨fun c hc => ?_, ?_⟩
    · obtain ⟨k, hk, rfl⟩ := List.mem_iff_getElem.1 hc
      exact (h1 k hk).1
    · have h2 : ∀ (d i : Nat) (hi : i + 1 + d < l.length), ((l[i]'(by omega)).toNat : Int) < ((l[i + 1 + d]'hi).toNat : Int) := by
        intro d
        induction d with
        | zero =>
          intro i hi
          have := (h1 (i + 1) (by omega)).2
          rw [lastAt_succ, byteAt_get (by omega)] at this
          exact this
        | succ d ih =>
          intro i hi
          have h3 := ih i (by omega)
          have h4 := (h1 (i + 1 + d + 1) (by omega)).2
          rw [lastAt_succ, byteAt_get (by omega)] at h4
          have : ((l[i + 1 + (d + 1)]'hi).toNat : Int) = ((l[i + 1 + d + 1]'(by omega)).toNat : Int) := by congr 2
          omega
      rw [List.pairwise_iff_getElem]
      intro i j hi hj hij
      have h3 := h2 (j - i - 1) i (by omega)
      have h4 : ((l[i + 1 + (j - i - 1)]'(by omega)).toNat : Int) = ((l[j]'hj).toNat : Int) := by congr 2; congr 1; omega
      rw [UInt8.lt_iff_toNat_lt]
      omega
  · rintro ⟨h1, h2⟩ k hk
    have hk := List.mem_range.1 hk
    unfold formAt
    rw [Bool.and_eq_true, decide_eq_true_eq, byteAt_get hk, formI_byte]
    refine ⟨h1 _ (List.getElem_mem hk), ?_⟩
    cases k with
    | zero =>
      rw [lastAt_zero]
      rcases form_cases (h1 _ (List.getElem_mem hk)) with h | h
      · rw [h]; decide
      · omega
    | succ k =>
      rw [lastAt_succ, byteAt_get (by omega)]
      have := List.pairwise_iff_getElem.1 h2 k (k + 1) (by omega) hk (by omega)
      rw [UInt8.lt_iff_toNat_lt] at this
      omega
theorem decode_form (s : ByteArray) (pos : Nat) (h : pos < s.size) : formI ((Utf8.decode s pos).1 : Int) = formI ((s[pos]'h).toNat : Int) := by
  by_cases ha : (s[pos]'h).toNat < 128
  · rw [decode_ascii s pos h ha]
  · have := (decode_high s pos h (by omega)).1
    rw [formI_not (by omega), formI_not (by omega)]
theorem formAt_no1 {s : ByteArray} {k : Nat} (h : k < s.size) (hs : formI ((s[k]'h).toNat : Int) = false) : formAt s.data.toList k = false := by
  unfold formAt
  rw [byteAt_eq s k h, hs]
  rfl
theorem formAt_no2 {s : ByteArray} {k : Nat} (h : k < s.size) (hs : ((s[k]'h).toNat : Int) ≤ lastAt s.data.toList k) : formAt s.data.toList k = false := by
  unfold formAt
  rw [byteAt_eq s k h, decide_eq_false (by omega)]
  simp
theorem formAt_yes {s : ByteArray} {k : Nat} (h : k < s.size) (h1 : formI ((s[k]'h).toNat : Int) = true) (h2 : ¬ ((s[k]'h).toNat : Int) ≤ lastAt s.data.toList k) : formAt s.data.toList k = true := by
  unfold formAt
  rw [byteAt_eq s k h, h1, decide_eq_true (by omega)]
  rfl

set_option maxHeartbeats 2000000 in
theorem areFormBytes_any (s : ByteArray) (w : World) :
    Calls Tryd.prog 143 #[.string s] w fun e w' => e = .returned (.bool (formsTo s.data.toList s.size)) ∧ Below w.heap.size w w' := by
  go_enter Tryd.func143, Tryd.ntmps143
  go_wp2
  go_loopw [3, 5] (fun last _ w' => ∃ k : Nat, k ≤ s.size ∧ w' = w.iter s k ∧ last = .int .i32 (lastAt s.data.toList k) ∧ Hid (formsTo s.data.toList k = true)) (fun _ _ w' => s.size - w'.iterPos w.heap.size)
  case atStart => exact ⟨0, Nat.zero_le _, rfl, rfl, by simp [Hid, formsTo]⟩
  case round =>
    obtain ⟨k, hk, rfl, rfl, ha⟩ := hrel
    have hl0 := lastAt_nonneg s.data.toList k
    have hl1 := lastAt_lt s.data.toList k
    have hsuc := hid (lastAt_succ s.data.toList k)
    have hgro := hid (formsTo_succ s.data.toList k)
    obtain ⟨la, hla⟩ : ∃ la, lastAt s.data.toList k = la := ⟨_, rfl⟩
    rw [hla] at hl0 hl1
    by_cases hp : k < s.size
    · have hnx : ∀ ty, (Instr.next (.pointer (some ⟨w.heap.size, 0, none⟩)) true ty).run Tryd.prog (w.iter s k) = _ := fun ty => run_next_any w s k ty hp
      have hbe := hid (byteAt_eq s k hp)
      cases hb : formI ((Utf8.decode s k).1 : Int)
      · have hN := hid (formsTo_not hp (formAt_no1 hp ((decode_form s k hp).symm.trans hb)))
        have HB := hid hb
        have HL := hid hla
        rw [hla]
        clear hb hla
        go_wp2_with (go_at_call 162; refine (isFormByte_any _ _).mono ?_; rw [HB.out]; rintro e w' ⟨rfl, rfl⟩)
        go_ret
        exact ⟨ret_bool (by rw [hN.out]), below_iter _ _⟩
      · have hb' : formI ((s[k]'hp).toNat : Int) = true := (decode_form s k hp).symm.trans hb
        have hlt : (s[k]'hp).toNat < 128 := by rcases formI_cases.1 hb' with h | h <;> omega
        have hd1 := hid (show (Utf8.decode s k).2 = 1 by rw [decode_ascii s k hp hlt])
        have hdv : (Utf8.decode s k).1 = (s[k]'hp).toNat := by rw [decode_ascii s k hp hlt]
        have HB := hid hb
        have HV := hid hdv
        by_cases hle : ((Utf8.decode s k).1 : Int) ≤ la
        · have hN := hid (formsTo_not hp (formAt_no2 hp (by rw [hla]; omega)))
          have HL := hid hla
          rw [hla]
          clear hb hla hb' hdv
          go_wp2_with (go_at_call 162; refine (isFormByte_any _ _).mono ?_; rw [HB.out]; rintro e w' ⟨rfl, rfl⟩)
          go_ret
          exact ⟨ret_bool (by rw [hN.out]), below_iter _ _⟩
        · have hY := hid (formAt_yes hp hb' (by rw [hla]; omega))
          have HL := hid hla
          rw [hla]
          clear hb hla hb' hdv
          go_wp2_with (go_at_call 162; refine (isFormByte_any _ _).mono ?_; rw [HB.out]; rintro e w' ⟨rfl, rfl⟩)
          go_roundw
          case rel => exact ⟨k + 1, by omega, by rw [hd1.out], by rw [hsuc.out, hbe.out, HV.out], by rw [Hid, hgro.out, ha.out, hY.out]; rfl⟩
          case measure => simp [hd1.out]; omega
    · have hnx : ∀ ty, (Instr.next (.pointer (some ⟨w.heap.size, 0, none⟩)) true ty).run Tryd.prog (w.iter s k) = _ := fun ty => run_next_end w s k ty hp
      have hk' : s.size = k := by omega
      have HW : Hid (formsTo s.data.toList s.size = true) := by rw [hk']; exact ha
      have HL := hid hla
      rw [hla]
      clear hk' ha hla
      go_wp2
      go_ret
      exact ⟨ret_bool (by rw [HW.out]), below_iter _ _⟩
end Go.Proofs.YtabbpnafkgljcaaDoor

namespace Go.Proofs.YtabbpnafkgljcaaDoor
open Go.RowKit

/-! ### Numerals -/
def decV (l : List UInt8) : Nat := l.foldl (fun a c => a * 10 + (c.toNat - 48)) 0
theorem decV_snoc (l : List UInt8) (c : UInt8) : decV (l ++ [c]) = decV l * 10 + (c.toNat - 48) := by unfold decV; rw [List.foldl_append]; rfl
theorem ddp_val : ∀ (m : Nat), decV (ddp m) = m := by
  intro m
  induction m using Nat.strongRecOn with
  | _ m ih =>
    rcases Nat.eq_zero_or_pos m with rfl | h
    · rfl
    · rw [ddp_step h, decV_snoc, ih (m / 10) (by omega)]
      have h2 := digit_byte (d := m % 10) (Nat.mod_lt _ (by omega))
      omega
theorem itoa_val (m : Nat) : decV (Lib.itoa (m : Int)) = m := by
  rcases Nat.eq_zero_or_pos m with rfl | h
  · rw [itoa_zeroD]; rfl
  · have e := Lib.itoa_nonneg m
    have h2 := ddp_val m
    unfold ddp at h2
    rw [if_neg (by omega)] at h2
    rw [e]
    exact h2
theorem itoa_inj {a b : Int} (ha : 0 ≤ a) (hb : 0 ≤ b) (h : Lib.itoa a = Lib.itoa b) : a = b := by
  obtain ⟨m, rfl⟩ : ∃ m : Nat, a = (m : Int) := ⟨a.toNat, by omega⟩
  obtain ⟨n, rfl⟩ : ∃ n : Nat, b = (n : Int) := ⟨b.toNat, by omega⟩
  have := congrArg decV h
  rw [itoa_val, itoa_val] at this
  omega
theorem ddp_digit : ∀ (m : Nat), ∀ c ∈ ddp m, 48 ≤ c.toNat ∧ c.toNat ≤ 57 := by
  intro m
  induction m using Nat.strongRecOn with
  | _ m ih =>
    rcases Nat.eq_zero_or_pos m with rfl | h
    · intro c hc; simp [ddp] at hc
    · intro c hc
      rw [ddp_step h] at hc
      rcases List.mem_append.1 hc with hc | hc
      · exact ih (m / 10) (by omega) c hc
      · simp only [List.mem_singleton] at hc
        subst hc
        have h2 := digit_byte (d := m % 10) (Nat.mod_lt _ (by omega))
        have h3 := Nat.mod_lt m (show 0 < 10 by omega)
        omega
theorem itoa_digit {a : Int} (ha : 0 ≤ a) : ∀ c ∈ Lib.itoa a, 48 ≤ c.toNat ∧ c.toNat ≤ 57 := by
  obtain ⟨m, rfl⟩ : ∃ m : Nat, a = (m : Int) := ⟨a.toNat, by omega⟩
  rcases Nat.eq_zero_or_pos m with rfl | h
  · rw [itoa_zeroD]
    intro c hc
    simp at hc
    subst hc
    decide
  · have e := Lib.itoa_nonneg m
    have h2 := ddp_digit m
    unfold ddp at h2
    rw [if_neg (by omega)] at h2
    rw [e]
    exact h2

/-! ### Lines -/
theorem splitL_joinW {c : UInt8} : ∀ {xs : List (List UInt8)}, 0 < xs.length → (∀ x ∈ xs, c ∉ x) → splitL c (Lib.join xs [c]) = xs
  | [], h, _ => by simp at h
  | [x], _, h => by rw [Lib.join_one]; exact splitL_free (h x (by simp))
  | x :: y :: r, _, h => by
    have e : Lib.join (x :: y :: r) [c] = x ++ c :: Lib.join (y :: r) [c] := by
      rw [Lib.join_cons, Lib.join_cons]
      simp [Lib.joinTail]
    rw [e, splitL_cat _ (h x (by simp)), splitL_joinW (xs := y :: r) (by simp) (fun z hz => h z (by simp at hz ⊢; right; exact hz))]
/-- The words of a node's line: its mark, and each letter with its number. -/
def wordW (x : Nod) (j : Nat) : List UInt8 := x.ls.data.toList.getD j 0 :: Lib.itoa (x.ns.getD j 0)
def wordsW (x : Nod) (k : Nat) : List (List UInt8) := [if x.f = true then 43 else 45] :: (List.range k).map (wordW x)
def lineW (x : Nod) : List UInt8 := Lib.join (wordsW x x.ns.length) [32] ++ [10]
/-- Nodes whose lines tell them apart. -/
structure Lnd (x : Nod) : Prop where
  form : ∀ c ∈ x.ls.data.toList, formB c = true
  len : x.ls.size = x.ns.length
  nat : ∀ z ∈ x.ns, 0 ≤ z
theorem wordW_free {x : Nod} (h : Lnd x) {j : Nat} (hj : j < x.ns.length) : (32 : UInt8) ∉ wordW x j := by
  unfold wordW
  intro hm
  rcases List.mem_cons.1 hm with hm | hm
  · have hl : j < x.ls.data.toList.length := by rw [list_size, h.len]; exact hj
    have h2 : x.ls.data.toList.getD j 0 ∈ x.ls.data.toList := by rw [List.getD_eq_getElem?_getD, List.getElem?_eq_getElem hl]; exact List.getElem_mem hl
    have h1 := h.form _ h2
    rw [← hm] at h1
    rcases form_cases h1 with e | e
    · cases e
    · have e32 : (32 : UInt8).toNat = 32 := rfl
      omega
  · have h2 : x.ns.getD j 0 ∈ x.ns := by rw [List.getD_eq_getElem?_getD, List.getElem?_eq_getElem hj]; exact List.getElem_mem hj
    have := itoa_digit (h.nat _ h2) 32 hm
    have e32 : (32 : UInt8).toNat = 32 := rfl
    omega
theorem wordsW_free {x : Nod} (h : Lnd x) : ∀ w ∈ wordsW x x.ns.length, (32 : UInt8) ∉ w := by
  intro w hw
  unfold wordsW at hw
  rcases List.mem_cons.1 hw with rfl | hw
  · cases x.f <;> decide
  · obtain ⟨j, hj, rfl⟩ := List.mem_map.1 hw
    exact wordW_free h (List.mem_range.1 hj)
theorem lineW_inj {x y : Nod} (hx : Lnd x) (hy : Lnd y) (h : lineW x = lineW y) : contD x = contD y := by
  unfold lineW at h
  have h1 := (List.append_inj' h rfl).1
  have h2 := congrArg (splitL 32) h1
  rw [splitL_joinW (by simp [wordsW]) (wordsW_free hx), splitL_joinW (by simp [wordsW]) (wordsW_free hy)] at h2
  unfold wordsW at h2
  simp only [List.cons.injEq] at h2
  obtain ⟨h3, h4⟩ := h2
  have hf : x.f = y.f := by
    cases hfx : x.f <;> cases hfy : y.f <;> rw [hfx, hfy] at h3 <;> first | rfl | simp at h3
  have hl : x.ns.length = y.ns.length := by simpa using congrArg List.length h4
  have hw : ∀ j, j < x.ns.length → wordW x j = wordW y j := fun j hj => by
    have := congrArg (·[j]?) h4
    simpa [hj, hl ▸ hj] using this
  have hls : x.ls.data.toList = y.ls.data.toList := by
    refine List.ext_getElem? fun j => ?_
    rcases Nat.lt_or_ge j x.ns.length with hj | hj
    · have h5 := hw j hj
      unfold wordW at h5
      simp only [List.cons.injEq] at h5
      have a1 : j < x.ls.data.toList.length := by rw [list_size, hx.len]; exact hj
      have a2 : j < y.ls.data.toList.length := by rw [list_size, hy.len, ← hl]; exact hj
      rw [List.getElem?_eq_getElem a1, List.getElem?_eq_getElem a2]
      rw [List.getD_eq_getElem?_getD, List.getD_eq_getElem?_getD, List.getElem?_eq_getElem a1, List.getElem?_eq_getElem a2] at h5
      simpa using h5.1
    · rw [List.getElem?_eq_none (by rw [list_size, hx.len]; exact hj), List.getElem?_eq_none (by rw [list_size, hy.len, ← hl]; exact hj)]
  have hns : x.ns = y.ns := by
    refine List.ext_getElem? fun j => ?_
    rcases Nat.lt_or_ge j x.ns.length with hj | hj
    · have h5 := hw j hj
      unfold wordW at h5
      simp only [List.cons.injEq] at h5
      have hj2 := hl ▸ hj
      have e1 : x.ns.getD j 0 = x.ns[j] := by rw [List.getD_eq_getElem?_getD, List.getElem?_eq_getElem hj]; rfl
      have e2 : y.ns.getD j 0 = y.ns[j] := by rw [List.getD_eq_getElem?_getD, List.getElem?_eq_getElem hj2]; rfl
      rw [e1, e2] at h5
      rw [List.getElem?_eq_getElem hj, List.getElem?_eq_getElem hj2, itoa_inj (hx.nat _ (List.getElem_mem hj)) (hy.nat _ (List.getElem_mem hj2)) h5.2]
    · rw [List.getElem?_eq_none hj, List.getElem?_eq_none (hl ▸ hj)]
  unfold contD
  rw [hf, hls, hns]
theorem lineW_of {x y : Nod} (h : contD x = contD y) : lineW x = lineW y := by
  unfold contD at h
  simp only [Prod.mk.injEq] at h
  obtain ⟨h1, h2, h3⟩ := h
  unfold lineW wordsW
  have e : (List.range x.ns.length).map (wordW x) = (List.range y.ns.length).map (wordW y) := by
    rw [h3]
    exact List.map_congr_left fun j _ => by unfold wordW; rw [h2, h3]
  rw [e, h1]
theorem join_bound {b : Nat} : ∀ (l : List (List UInt8)), (∀ w ∈ l, w.length ≤ b) → (Lib.join l [32]).length ≤ l.length * (b + 1)
  | [], _ => by simp [Lib.join_nil]
  | x :: r, h => by
    have h1 := h x (by simp)
    rw [Lib.join_cons, List.length_append, List.length_cons, Nat.succ_mul]
    have h2 : (Lib.joinTail [32] r).length ≤ r.length * (b + 1) := by
      have h3 : ∀ w ∈ r, w.length ≤ b := fun w hw => h w (by simp [hw])
      clear h h1
      unfold Lib.joinTail
      induction r with
      | nil => simp
      | cons y r ih =>
        have h4 := h3 y (by simp)
        have h5 := ih fun w hw => h3 w (by simp [hw])
        rw [List.map_cons, List.flatten_cons, List.length_append, List.length_cons, Nat.succ_mul]
        simp only [List.length_append, List.length_cons, List.length_nil]
        omega
    omega
theorem wordsW_succ (x : Nod) (k : Nat) : wordsW x (k + 1) = wordsW x k ++ [wordW x k] := by unfold wordsW; rw [List.range_succ, List.map_append]; simp
end Go.Proofs.YtabbpnafkgljcaaDoor
