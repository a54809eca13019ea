/-
  The laws' helpers on lists of strings: marks, comparisons.
-/
import Derived.Test.YtpjekfebpgjgnaaC1
import Derived.Test.YtpjekfebpgjgnaaK1
import Derived.Test.YtpjekfebpgjgnaaT0
import Derived.Deep.RegionWith
import Derived.Deep.QuietTactic
import Derived.BigQuiet
namespace Go.Proofs.Ytpjekfebpgjgnaa
open Go.RowKit

/-- The digits of a number, the least one last; none for 0. -/
def digs : Nat → Nat → List UInt8
  | 0, _ => []
  | f + 1, n => if n = 0 then [] else digs f (n / 10) ++ [48 + UInt8.ofNat (n % 10)]
theorem digs_more : ∀ (f n : Nat), n ≤ f → digs (f + 1) n = digs f n
  | 0, n, h => by
    obtain rfl : n = 0 := by omega
    rfl
  | f + 1, n, h => by
    unfold digs
    by_cases h0 : n = 0
    · rw [if_pos h0, if_pos h0]
    · rw [if_neg h0, if_neg h0, digs_more f (n / 10) (by omega)]
theorem digs_any : ∀ (g f n : Nat), n ≤ f → digs (f + g) n = digs f n
  | 0, _, _, _ => rfl
  | g + 1, f, n, h => by rw [← Nat.add_assoc, digs_more (f + g) n (by omega), digs_any g f n h]
/-- The digits of a number. -/
def digits (n : Nat) : List UInt8 := digs n n
theorem digits_zero : digits 0 = [] := rfl
theorem digits_step {n : Nat} (h : 0 < n) : digits n = digits (n / 10) ++ [48 + UInt8.ofNat (n % 10)] := by
  obtain ⟨m, rfl⟩ : ∃ m, n = m + 1 := ⟨n - 1, by omega⟩
  have e : digits (m + 1) = digs m ((m + 1) / 10) ++ [48 + UInt8.ofNat ((m + 1) % 10)] := by
    unfold digits
    rw [digs, if_neg (by omega)]
  rw [e]
  congr 1
  unfold digits
  have h2 : (m + 1) / 10 ≤ m := by omega
  obtain ⟨g, hg⟩ : ∃ g, m = (m + 1) / 10 + g := ⟨m - (m + 1) / 10, by omega⟩
  have h3 := digs_any g ((m + 1) / 10) ((m + 1) / 10) (Nat.le_refl _)
  rw [← hg] at h3
  exact h3

/-- One byte ahead of a text. -/
theorem cat_one (c : UInt8) (s : List UInt8) : (⟨#[c]⟩ ++ ⟨s.toArray⟩ : ByteArray) = ⟨(c :: s).toArray⟩ := by
  apply Go.WideShapes.bytes_inj
  simp
/-- A text of one byte out of a row of one cell. -/
theorem one_byte (W : World) (x : Int) : (convert 22 9 (.slice (some ⟨W.heap.size, 0, none⟩) 1 1)).run Try.prog (W.alloc (.cells #[.int .u8 x] 5)) = .ok (.string ⟨#[UInt8.ofNat x.toNat]⟩) (W.alloc (.cells #[.int .u8 x] 5)) := by
  rw [run_convert_bytes_string _ 22 9 5 _ _ _ Try.underlying22 Try.underlying5 Try.underlying9]
  have h := run_bytesToString (P := Try.prog) (W.alloc (.cells #[.int .u8 x] 5)) ⟨W.heap.size, 0, none⟩ 1 1 [x] (by
    have hb : Blk (W.alloc (.cells #[.int .u8 x] 5)) W.heap.size 5 #[.int .u8 x] := heap_alloc_new W _
    have := run_loadCells_list (P := Try.prog) (w := W.alloc (.cells #[.int .u8 x] 5)) ⟨W.heap.size, 0, none⟩ [.int .u8 x] (by
      intro j v hj
      have hj0 : j = 0 := by
        rcases Nat.lt_or_ge j 1 with h | h
        · omega
        · rw [List.getElem?_eq_none (by simpa using h)] at hj; cases hj
      subst hj0
      simp at hj
      subst hj
      show World.cell? _ ⟨W.heap.size, 0, none⟩ = _
      rw [hb.cells 0]
      rfl)
    exact this)
  rw [h]
  rfl

set_option maxRecDepth 100000 in
set_option maxHeartbeats 1000000 in
theorem markText_any (k : Nat) (w : World) (hk : k ≤ 4000000000) (h0 : 0 < k) :
    Calls Try.prog 118 #[.int .i64 k] w fun e w' => e = .returned (.string ⟨(109 :: digits k).toArray⟩) ∧ Below w.heap.size w w' := by
  have hk0 : ¬ (k : Int) ≤ 0 := by omega
  have hcv := one_byte
  go_enter Try.func118, Try.ntmps118
  go_wp2
  go_loopw [0, 3] (fun x out w' => ∃ (n : Nat) (s : List UInt8), s.length + n ≤ k ∧ x = .int .i64 n ∧ out = .string ⟨s.toArray⟩ ∧ Hid (digits k = digits n ++ s) ∧ Below w.heap.size w w') (fun x _ _ => (intOf x).toNat)
  case atStart => exact ⟨k, [], by simp, rfl, rfl, by simp [Hid], Below.refl _ _⟩
  case round =>
    obtain ⟨n, s, hn, rfl, rfl, hd, hb⟩ := hrel
    by_cases hp : 0 < n
    · have hst := hid (digits_step hp)
      go_wp2
      go_roundw
      case rel =>
        refine ⟨n / 10, (48 + UInt8.ofNat (n % 10)) :: s, by simp; omega, by go_num, congrArg Value.string (cat_one _ _), ?_, hb.alloc hb.size _⟩
        rw [Hid, hd.out, hst.out, List.append_assoc]
        rfl
      case measure => simp [intOf]; omega
    · have hn0 : n = 0 := by omega
      have HD : Hid ((⟨#[109]⟩ ++ ⟨s.toArray⟩ : ByteArray) = ⟨(109 :: digits k).toArray⟩) := by
        rw [Hid, hd.out, hn0, digits_zero]
        exact cat_one _ _
      clear hn0
      go_wp2
      go_ret
      exact ⟨congrArg (fun x => Ending.returned (.string x)) HD.out, hb⟩

theorem markText_int (x : Int) (k : Nat) (w : World) (hx : x = (k : Int)) (hk : k ≤ 4000000000) (h0 : 0 < k) :
    Calls Try.prog 118 #[.int .i64 x] w fun e w' => e = .returned (.string ⟨(109 :: digits k).toArray⟩) ∧ Below w.heap.size w w' := by
  subst hx
  exact markText_any k w hk h0

theorem grown_below {w wr w1 : World} {row : Option Nat} (h : w.grownBy wr row) (hb : Below wr.heap.size wr w1) : w.grownBy w1 row :=
  ⟨hb.os.trans h.os, hb.tape.trans h.tape, hb.output.trans h.output, Nat.le_trans h.size hb.size, fun i hi hn => (hb.block i (Nat.lt_of_lt_of_le hi h.size)).trans (h.block i hi hn)⟩
theorem grown_store {w wr : World} {g : Nat} (h : w.grownBy wr (some g)) (j : Nat) (u : Value) : w.grownBy (wr.setCell ⟨g, j, none⟩ u) (some g) :=
  ⟨h.os, h.tape, h.output, by simpa [World.setCell] using h.size, fun i hi hn => (Below.heap_setCell wr ⟨g, j, none⟩ u i (fun e => hn (by rw [e]))).trans (h.block i hi hn)⟩

/-! ### Marks -/
def markB (k : Nat) : ByteArray := ⟨(109 :: digits k).toArray⟩
def marks (k n : Nat) : List ByteArray := (List.range n).map fun i => markB (k + i)
theorem marks_len (k n : Nat) : (marks k n).length = n := by simp [marks]
theorem marks_at (k n j : Nat) (h : j < n) : strAt (marks k n) j = markB (k + j) := by
  unfold strAt marks
  simp [List.getD_eq_getElem?_getD, h]
/-- The row's cells behind j rounds of marking. -/
def markedTo (ss : List ByteArray) (k j : Nat) : List Value := (marks k j ++ ss.drop j).map Value.string
theorem marked_zero (ss : List ByteArray) (k : Nat) : markedTo ss k 0 = ss.map Value.string := by simp [markedTo, marks]
theorem marked_all (ss : List ByteArray) (k : Nat) : markedTo ss k ss.length = (marks k ss.length).map Value.string := by simp [markedTo]
theorem marked_at (ss : List ByteArray) (k j : Nat) (h : j < ss.length) : (markedTo ss k j)[j]? = some (.string (strAt ss j)) := by
  unfold markedTo strAt
  rw [List.getElem?_map, List.getElem?_append_right (by rw [marks_len]; omega), marks_len, Nat.sub_self, List.getElem?_drop]
  simp [List.getD_eq_getElem?_getD, List.getElem?_eq_getElem h]
theorem marked_set (ss : List ByteArray) (k j : Nat) (h : j < ss.length) : (markedTo ss k j).set j (.string (markB (k + j))) = markedTo ss k (j + 1) := by
  have e : marks k (j + 1) = marks k j ++ [markB (k + j)] := by simp [marks, List.range_succ]
  have hd : ss.drop j = strAt ss j :: ss.drop (j + 1) := by
    rw [List.drop_eq_getElem_cons h]
    simp [strAt, List.getD_eq_getElem?_getD, List.getElem?_eq_getElem h]
  unfold markedTo
  rw [hd, e, List.map_append, List.set_append_right _ _ (by simp [marks_len])]
  simp [marks_len]

set_option maxHeartbeats 2000000 in
theorem markStringS_any {B : Nat} {v : Value} {ss : List ByteArray} (k : Nat) (w : World) (h : OwnS B w v ss) (hk : 0 < k) (hkn : k + ss.length ≤ 4000000000) :
    Calls Try.prog 55 #[v, .int .i64 k] w fun e w' => e = .returned (.int .i64 ((k + ss.length : Nat) : Int)) ∧ OwnS B w' v (marks k ss.length) ∧ w.grownBy w' v.ownBlock := by
  obtain ⟨a, cap, hv, h1, h2, h3⟩ := own_form h
  unfold maxLen at h2
  have HV := hid hv
  have h0 : w.ownsRow B 9 1 v ss.length (markedTo ss k 0) := by rw [marked_zero]; exact h
  obtain ⟨row, hrow⟩ : ∃ row, v.ownBlock = row := ⟨_, rfl⟩
  have HR := hid hrow
  rw [hrow]
  clear hrow h
  rw [hv] at h0 ⊢
  have hmk := marked_all ss k
  have HMK := hid hmk
  clear hv hmk
  go_enter Try.func55, Try.ntmps55
  go_wp2
  go_loopw [1, 5] (fun x i wr => ∃ j : Nat, j ≤ ss.length ∧ i = .int .i64 j ∧ x = .int .i64 ((k : Int) + (j : Int)) ∧ wr.ownsRow B 9 1 (.slice a ss.length cap) ss.length (markedTo ss k j) ∧ w.grownBy wr row) (fun _ i _ => ss.length - (intOf i).toNat)
  case atStart => exact ⟨0, Nat.zero_le _, rfl, by simp, h0, World.grownBy.refl w _⟩
  case round =>
    obtain ⟨j, hj, rfl, rfl, ho, hg⟩ := hrel
    clear h0
    by_cases hlt : j < ss.length
    · obtain ⟨g, rfl, hBg, hgl⟩ := h3 (by omega)
      have hrr : row = some g := by rw [← HR.out, HV.out]; rfl
      rw [hrr] at hg
      have HG := hid hg
      have HO := hid ho
      clear hg ho
      go_wp2_with fail
      refine (markText_int _ (k + j) _ (by omega) (by omega) (by omega)).mono ?_
      rintro e w1 ⟨rfl, hb1⟩
      have ho1 := own_kept HO.out hb1
      have hg1 := grown_below HG.out hb1
      have cg : w1.cell? ⟨g, j, none⟩ = some (.string (strAt ss j)) := (ho1.cellAt j (by omega)).trans (marked_at ss k j hlt)
      have cf := ho1.frozenAt j
      have HS := (ho1.stored j (.string (markB (k + j)))).1
      rw [marked_set ss k j hlt] at HS
      have HS' := hid HS
      have HG1 := hid (grown_store hg1 j (.string (markB (k + j))))
      clear HS hg1 ho1
      go_wp2
      go_roundw
      case rel => exact ⟨j + 1, by omega, by go_num, by rw [Int.add_assoc]; rfl, HS'.out, by rw [hrr]; exact HG1.out⟩
      case measure => simp [intOf]; omega
    · have hjn : j = ss.length := by omega
      have HO : Hid (OwnS B wr (.slice a ss.length cap) (marks k ss.length)) := by
        unfold OwnS
        rw [marks_len]
        rw [hjn, HMK.out] at ho
        exact ho
      have HE : Hid ((k : Int) + (j : Int) = ((k + ss.length : Nat) : Int)) := by rw [Hid, hjn]; omega
      clear hjn ho h3
      go_wp2
      go_ret
      exact ⟨ret_i64 HE.out, HO.out, hg⟩

theorem same_str (s : ByteArray) : (s.toList != s.toList) = false := by simp

set_option maxHeartbeats 2000000 in
theorem heldStringS_any {v : Value} (k n : Nat) (w : World) (h : Strs w v (marks k n)) (hk : 0 < k) (hkn : k + n ≤ 4000000000) :
    Calls Try.prog 56 #[v, .int .i64 k] w fun e w' => e = .returned (.int .i64 ((k + n : Nat) : Int)) ∧ Below w.heap.size w w' := by
  obtain ⟨a, cap, rfl, h1, h2, h3⟩ := h
  rw [marks_len] at h1 h3 ⊢
  have hma := marks_at k n
  have HM := hid hma
  clear hma
  unfold maxLen at h2
  go_enter Try.func56, Try.ntmps56
  go_wp2
  go_loopw [1, 5] (fun x i wr => ∃ j : Nat, j ≤ n ∧ i = .int .i64 j ∧ x = .int .i64 ((k : Int) + (j : Int)) ∧ Below w.heap.size w wr) (fun _ i _ => n - (intOf i).toNat)
  case atStart => exact ⟨0, Nat.zero_le _, rfl, by simp, Below.refl _ _⟩
  case round =>
    obtain ⟨j, hj, rfl, rfl, hb⟩ := hrel
    by_cases hlt : j < n
    · obtain ⟨bb, off, rfl, hbl, hc⟩ := h3 (by omega)
      have ca := (hb.cell (p := ⟨bb, off + j, none⟩) hbl).trans (hc j hlt)
      rw [HM.out j hlt] at ca
      have hss := same_str (markB (k + j))
      have hbw : bb < wr.heap.size := Nat.lt_of_lt_of_le hbl hb.size
      obtain ⟨m, hm⟩ : ∃ m, markB (k + j) = m := ⟨_, rfl⟩
      rw [hm] at ca hss
      have HMM := hid hm
      have hmk : ∀ x W, x = (((k + j : Nat) : Nat) : Int) → Calls Try.prog 118 #[.int .i64 x] W fun e w' => e = .returned (.string m) ∧ Below W.heap.size W w' := by
        intro x W hx
        rw [← hm]
        exact markText_int x (k + j) W hx (by omega) (by omega)
      have HMK := hid hmk
      clear hm hmk h3 hc
      go_wp2
      go_region_with (go_at_call 118; refine (HMK.out _ _ (by omega)).mono ?_; rintro e w1 ⟨rfl, hb1⟩; have hc1 := (hb1.cell (p := ⟨bb, off + j, none⟩) hbw); have hB1 := hb.drew.trans (hb1.mono hb.size))
      all_goals
        go_wp2
        go_roundw
        case rel => exact ⟨j + 1, by omega, by go_num, by rw [Int.add_assoc]; rfl, hB1⟩
        case measure => simp [intOf]; omega
    · have hjn : j = n := by omega
      have HE : Hid ((k : Int) + (j : Int) = ((k + n : Nat) : Int)) := by rw [Hid, hjn]; omega
      clear hjn h3
      go_wp2
      go_ret
      exact ⟨ret_i64 HE.out, hb⟩

set_option maxHeartbeats 1000000 in
theorem eqStringS_same {va vb : Value} {ss : List ByteArray} (w : World) (ha : Strs w va ss) (hb : Strs w vb ss) :
    Calls Try.prog 52 #[va, vb] w fun e w' => e = .returned (.bool true) ∧ ∃ n, w' = w.drewN n := by
  have hal := ha.len
  obtain ⟨a, capa, rfl, hla, hma, hca⟩ := ha
  obtain ⟨b, capb, rfl, hlb, hmb, hcb⟩ := hb
  go_enter Try.func52, Try.ntmps52
  go_wp2
  go_loopw [5] (fun i w' => ∃ k n : Nat, k ≤ ss.length ∧ i = .int .i64 k ∧ w' = w.drewN n) (fun i _ => ss.length - (intOf i).toNat)
  case atStart => exact ⟨0, 0, Nat.zero_le _, rfl, rfl⟩
  case round =>
    obtain ⟨k, n, hk, rfl, rfl⟩ := hrel
    by_cases hlt : k < ss.length
    · obtain ⟨ba, oa, rfl, hba, hca'⟩ := hca (by omega)
      obtain ⟨bb, ob, rfl, hbb, hcb'⟩ := hcb (by omega)
      have ca := hca' k hlt
      have cb := hcb' k hlt
      have hss := same_str (strAt ss k)
      obtain ⟨m, hm⟩ : ∃ m, strAt ss k = m := ⟨_, rfl⟩
      rw [hm] at ca cb hss
      clear hca' hcb' hca hcb hm
      go_wp2
      go_quiet (fail)
      go_wp2
      go_roundw
      case rel => exact ⟨k + 1, _, by omega, by go_num, rfl⟩
      case measure => simp [intOf]; omega
    · clear hca hcb
      go_wp2
      go_ret
      exact ⟨rfl, _, rfl⟩

end Go.Proofs.Ytpjekfebpgjgnaa
