/-
  Lists of strings: what is the same, what is greater, sizes, copies; long words.
-/
import Derived.Test.YtpjekfebpgjgnaaC1
import Derived.Test.YtpjekfebpgjgnaaK1
import Derived.Test.YtpjekfebpgjgnaaT0
import Derived.Test.YtpjekfebpgjgnaaF1
import Derived.Deep.RegionWith
import Derived.Deep.QuietTactic
import Derived.BigQuiet
namespace Go.Proofs.Ytpjekfebpgjgnaa
open Go.ChangeShapes Go.WideShapes Go.ChangeAt Go.RowKit Go.Joins Go.Deep
def allTo (p : Nat → Bool) (k : Nat) : Bool := (List.range k).all p
theorem allTo_zero (p : Nat → Bool) : allTo p 0 = true := rfl
theorem allTo_succ (p : Nat → Bool) (k : Nat) : allTo p (k + 1) = (allTo p k && p k) := by simp [allTo, List.range_succ]
theorem allTo_not {p : Nat → Bool} {k n : Nat} (hk : k < n) (h : p k = false) : allTo p n = false := by
  rw [Bool.eq_false_iff]
  intro ha
  unfold allTo at ha
  rw [List.all_eq_true] at ha
  have := ha k (List.mem_range.2 hk)
  rw [h] at this
  cases this
theorem strNe {a b : ByteArray} (h : ¬ a = b) : (a.toList == b.toList) = false := by
  rw [beq_eq_false_iff_ne, ByteArray.toList_eq, ByteArray.toList_eq]
  exact fun e => h (Go.WideShapes.bytes_inj e)
theorem strSame (a : ByteArray) : (a.toList == a.toList) = true := by simp
def sameStrs (us vs : List ByteArray) : Bool := decide (us.length = vs.length) && allTo (fun j => (strAt us j).toList == (strAt vs j).toList) us.length
theorem sameStrs_len {us vs : List ByteArray} (h : ¬ us.length = vs.length) : sameStrs us vs = false := by simp [sameStrs, h]
theorem sameStrs_all {us vs : List ByteArray} (h : us.length = vs.length) : sameStrs us vs = allTo (fun j => (strAt us j).toList == (strAt vs j).toList) us.length := by simp [sameStrs, h]
theorem less_or_same : ∀ x y : List UInt8, (Op.bytesLess x y || x == y) = !Op.bytesLess y x
  | [], [] => rfl
  | [], b :: y => by simp [Op.bytesLess]
  | a :: x, [] => by simp [Op.bytesLess]
  | a :: x, b :: y => by
    have ih := less_or_same x y
    rcases Nat.lt_trichotomy a.toNat b.toNat with h | h | h
    · have h1 : a < b := UInt8.lt_iff_toNat_lt.2 h
      have h2 : ¬ b < a := fun h' => by have := UInt8.lt_iff_toNat_lt.1 h'; omega
      have h3 : ¬ a = b := fun e => by rw [e] at h; omega
      have h4 : ¬ b = a := fun e => h3 e.symm
      simp [Op.bytesLess, h1, h2, h4]
    · have h3 : a = b := UInt8.toNat_inj.1 h
      subst h3
      have h1 : ¬ a < a := fun h' => by have := UInt8.lt_iff_toNat_lt.1 h'; omega
      have e : (a :: x == a :: y) = (x == y) := by simp
      rw [e]
      simp only [Op.bytesLess, h1, decide_false, Bool.false_or, beq_self_eq_true, Bool.true_and]
      exact ih
    · have h1 : b < a := UInt8.lt_iff_toNat_lt.2 h
      have h2 : ¬ a < b := fun h' => by have := UInt8.lt_iff_toNat_lt.1 h'; omega
      have h3 : ¬ a = b := fun e => by rw [e] at h; omega
      simp [Op.bytesLess, h1, h2, h3]
/-- A text is greater than another one. -/
def upS (a b : ByteArray) : Bool := Op.bytesLess a.toList b.toList
theorem not_le {a b : ByteArray} : (Op.bytesLess b.toList a.toList || b.toList == a.toList) = !upS a b := less_or_same _ _
theorem upS_empty {b : ByteArray} (h : 0 < b.size) : upS ⟨#[]⟩ b = true := by
  unfold upS
  rw [ByteArray.toList_eq, ByteArray.toList_eq]
  have hl : b.data.toList.length = b.size := by simp
  cases hb : b.data.toList with
  | nil => rw [hb] at hl; simp at hl; omega
  | cons x l => rfl
/-- The text ahead of place k; the empty one ahead of the first. -/
def lastS (us : List ByteArray) (k : Nat) : ByteArray := if k = 0 then ⟨#[]⟩ else strAt us (k - 1)
theorem lastS_zero (us : List ByteArray) : lastS us 0 = ⟨#[]⟩ := rfl
theorem lastS_succ (us : List ByteArray) (k : Nat) : lastS us (k + 1) = strAt us k := by simp [lastS]
theorem allTo_at {p : Nat → Bool} {k n : Nat} (h : allTo p n = true) (hk : k < n) : p k = true := by
  cases hp : p k
  · rw [allTo_not hk hp] at h; cases h
  · rfl
def sumTo (f : Nat → Nat) : Nat → Nat
  | 0 => 0
  | k + 1 => sumTo f k + f k
theorem sumTo_mono (f : Nat → Nat) {k n : Nat} (h : k ≤ n) : sumTo f k ≤ sumTo f n := by
  induction n with
  | zero => obtain rfl : k = 0 := by omega
            exact Nat.le_refl _
  | succ n ih =>
    rcases Nat.lt_or_ge k (n + 1) with h1 | h1
    · have := ih (by omega)
      show _ ≤ sumTo f n + f n
      omega
    · obtain rfl : k = n + 1 := by omega
      exact Nat.le_refl _
theorem sumTo_at (f : Nat → Nat) {k n : Nat} (h : k < n) : f k ≤ sumTo f n := by
  have := sumTo_mono f (show k + 1 ≤ n by omega)
  have e : sumTo f (k + 1) = sumTo f k + f k := rfl
  omega
def strsW (ss : List ByteArray) : Nat := ss.length + sumTo (fun j => (strAt ss j).size) ss.length
theorem strAt_mem {ss : List ByteArray} {k : Nat} (h : k < ss.length) : strAt ss k ∈ ss := by
  unfold strAt
  rw [List.getD_eq_getElem?_getD, List.getElem?_eq_getElem h]
  exact List.getElem_mem _
set_option maxHeartbeats 1000000 in
theorem szStringS_any {v : Value} {ss : List ByteArray} (left : Int) (w : World) (h : Strs w v ss) (hz : ∀ s ∈ ss, s.size ≤ maxLen) (h0 : 0 ≤ left) (h1 : left ≤ 1048576) :
    Calls Try.prog 113 #[v, .int .i64 left] w fun e w' => e = .returned (.int .i64 (szN left (strsW ss))) ∧ w = w' := by
  obtain ⟨a, cap, rfl, hl, hm, hc⟩ := h
  unfold maxLen at hm hz
  by_cases hA : left - (ss.length : Int) < 0
  · have HR := hid (szN_no (left := left) (n := strsW ss) (by unfold strsW; omega))
    go_enter Try.func113, Try.ntmps113
    go_wp2
    go_ret
    exact ⟨ret_i64 HR.out.symm, rfl⟩
  · obtain ⟨f, hf⟩ : ∃ f : Nat → Nat, (fun j => (strAt ss j).size) = f := ⟨_, rfl⟩
    have hW : strsW ss = ss.length + sumTo f ss.length := by rw [← hf]; rfl
    have hfk : ∀ k, (strAt ss k).size = f k := fun k => by rw [← hf]
    have HW := Shh.mk hW
    have HF := Shh.mk hfk
    have HM := Shh.mk (fun k (hk : k ≤ ss.length) => sumTo_mono f hk)
    clear hf hW hfk
    go_enter Try.func113, Try.ntmps113
    go_wp2
    go_loop [1, 5] (fun x i => ∃ k : Nat, k ≤ ss.length ∧ i = .int .i64 k ∧ x = .int .i64 (left - (ss.length : Int) - (sumTo f k : Nat)) ∧ 0 ≤ left - (ss.length : Int) - (sumTo f k : Nat)) (fun _ i => ss.length - (intOf i).toNat)
    case atStart => exact ⟨0, Nat.zero_le _, rfl, by simp [sumTo], by simp [sumTo]; omega⟩
    case round =>
      obtain ⟨k, hk, rfl, rfl, hp⟩ := hrel
      by_cases hlt : k < ss.length
      · obtain ⟨b, off, rfl, hb, hcc⟩ := hc (by omega)
        have ck := hcc k hlt
        have hsz := hz _ (strAt_mem hlt)
        have hfz := HF.out k
        have hmm := HM.out (k + 1) (by omega)
        have hs1 : sumTo f (k + 1) = sumTo f k + f k := rfl
        have HS1 := Shh.mk hs1
        obtain ⟨s, hs⟩ : ∃ s, strAt ss k = s := ⟨_, rfl⟩
        rw [hs] at ck hsz hfz
        clear hc hcc hs
        by_cases hneg : left - (ss.length : Int) - (sumTo f k : Nat) - (s.size : Int) < 0
        · have HR := Shh.mk (szN_no (left := left) (n := strsW ss) (by rw [HW.out]; omega))
          clear hmm hs1
          go_wp2
          go_ret
          exact ⟨ret_i64 HR.out.symm, rfl⟩
        · clear hmm hs1
          go_wp2
          go_round
          case rel => exact ⟨k + 1, by omega, by go_num, congrArg (Value.int .i64) (by rw [HS1.out]; omega), by rw [HS1.out]; omega⟩
          case measure => simp [intOf]; omega
      · obtain rfl : k = ss.length := by omega
        have HR := Shh.mk ((szN_yes (left := left) (n := strsW ss) (by rw [HW.out]; omega)).trans (show _ = left - (ss.length : Int) - (sumTo f ss.length : Nat) by rw [HW.out]; omega))
        clear hc
        go_wp2
        go_ret
        exact ⟨ret_i64 HR.out.symm, rfl⟩
def rowS (ss : List ByteArray) (k : Nat) : List Value := (ss.take k ++ List.replicate (ss.length - k) ByteArray.empty).map Value.string
theorem rowS_zero (ss : List ByteArray) : rowS ss 0 = List.replicate ss.length (.string ByteArray.empty) := by simp [rowS]
theorem rowS_all (ss : List ByteArray) : rowS ss ss.length = ss.map Value.string := by simp [rowS]
theorem rowS_at (ss : List ByteArray) (k : Nat) (h : k < ss.length) : (rowS ss k)[k]? = some (.string ByteArray.empty) := by
  unfold rowS
  rw [List.getElem?_map, List.getElem?_append_right (by simp; omega), List.length_take_of_le (by omega), Nat.sub_self, List.getElem?_replicate, if_pos (by omega)]
  rfl
theorem takeS_snoc (ss : List ByteArray) (k : Nat) (h : k < ss.length) : ss.take (k + 1) = ss.take k ++ [strAt ss k] := by
  rw [List.take_succ_eq_append_getElem h]
  simp [strAt, List.getD_eq_getElem?_getD, List.getElem?_eq_getElem h]
theorem rowS_set (ss : List ByteArray) (k : Nat) (h : k < ss.length) : (rowS ss k).set k (.string (strAt ss k)) = rowS ss (k + 1) := by
  have e1 : ss.length - k = (ss.length - (k + 1)) + 1 := by omega
  have e2 : k - min k ss.length = 0 := by omega
  unfold rowS
  rw [takeS_snoc ss k h, e1, List.replicate_succ, List.map_append, List.map_append, List.map_append, List.map_cons]
  rw [List.set_append_right _ _ (by simp; omega)]
  simp [e2]
theorem infoS : (Try.prog.info? 9).map (fun i => (i.zero, i.size, i.bytes)) = some (some (.string ByteArray.empty), 1, 16) := by kernel_rfl
set_option maxHeartbeats 2000000 in
theorem toStringS_any {v : Value} {ss : List ByteArray} (w : World) (h : Strs w v ss) (hn : ss.length ≤ 1048576) :
    Calls Try.prog 115 #[v] w fun e w' => ∃ u, e = .returned u ∧ OwnS w.heap.size w' u ss ∧ Below w.heap.size w w' := by
  obtain ⟨i0, hi, hz0, hz1, hz2⟩ := info_parts infoS
  obtain ⟨a, cap, rfl, hl, hm, hc⟩ := h
  unfold maxLen at hm
  go_enter Try.func115, Try.ntmps115
  go_wp2_with (refine wpList_make_full _ rfl _ _ 24 rfl w.heap.size 9 i0 (.string ByteArray.empty) 1 Try.underlying24 hi hz0 hz1 .i64 .i64 _ _ ss.length rfl rfl rfl rfl (by rw [hz2]; omega) (by unfold maxLen; omega) (Nat.le_refl _) ?_; intro w1 hown hgrow)
  have hown0 : w1.ownsRow w.heap.size 9 1 (.slice (some ⟨w.heap.size, 0, none⟩) ss.length ss.length) ss.length (rowS ss 0) := by
    rw [rowS_zero]
    have e := toList_madeCells_one (.string ByteArray.empty) ss.length
    rw [← e]
    simpa [Value.cells] using hown
  have hb0 : Below w.heap.size w w1 := (Below.refl _ _).grown hgrow (Nat.le_refl _) (fun k hk => by cases hk)
  clear hown hgrow
  go_loopw [4] (fun i wr => ∃ k : Nat, k ≤ ss.length ∧ i = .int .i64 k ∧ wr.ownsRow w.heap.size 9 1 (.slice (some ⟨w.heap.size, 0, none⟩) ss.length ss.length) ss.length (rowS ss k) ∧ Below w.heap.size w wr) (fun i _ => ss.length - (intOf i).toNat)
  case atStart => exact ⟨0, Nat.zero_le _, rfl, hown0, hb0⟩
  case round =>
    obtain ⟨k, hk, rfl, ho, hb⟩ := hrel
    clear hown0 hb0
    by_cases hlt : k < ss.length
    · obtain ⟨ba, oa, rfl, hba, hca⟩ := hc (by omega)
      have ca := (hb.cell (p := ⟨ba, oa + k, none⟩) hba).trans (hca k hlt)
      obtain ⟨x, hx⟩ : ∃ x, strAt ss k = x := ⟨_, rfl⟩
      rw [hx] at ca
      have cg : wr.cell? ⟨w.heap.size, k, none⟩ = some (.string ByteArray.empty) := (ho.cellAt k (by omega)).trans (rowS_at ss k hlt)
      have cf := ho.frozenAt k
      have HS := Shh.mk (ho.stored k (.string x))
      have HX := Shh.mk hx
      have HB := Shh.mk (hb.setCell (p := ⟨w.heap.size, k, none⟩) (Nat.le_refl _) (.string x))
      clear hca hc ho hx
      go_wp2
      go_roundw
      case rel =>
        refine ⟨k + 1, by omega, by go_num, ?_, HB.out⟩
        have e := rowS_set ss k hlt
        rw [HX.out] at e
        rw [← e]
        exact HS.out.1
      case measure => simp [intOf]; omega
    · have hk' : k = ss.length := by omega
      have HO : Shh (OwnS w.heap.size wr (.slice (some ⟨w.heap.size, 0, none⟩) ss.length ss.length) ss) := ⟨by unfold OwnS; rw [hk', rowS_all] at ho; exact ho⟩
      clear hk' ho hc
      go_wp2
      go_ret
      exact ⟨_, rfl, HO.out, hb⟩
theorem OwnS.kept {B : Nat} {w w' : World} {v : Value} {ss : List ByteArray} (h : OwnS B w v ss) (hb : Below w.heap.size w w') : OwnS B w' v ss := own_kept h hb
theorem OwnS.lower {B B' : Nat} {w : World} {v : Value} {ss : List ByteArray} (h : OwnS B w v ss) (hB : B' ≤ B) : OwnS B' w v ss := own_lower h hB
theorem OwnS.off {B : Nat} {w : World} {v : Value} {ss : List ByteArray} (h : OwnS B w v ss) {g : Nat} (hg : g < B) (j : Nat) (u : Value) : OwnS B (w.setCell ⟨g, j, none⟩ u) v ss := ownsRow_setCell_below h (a := ⟨g, j, none⟩) hg u
set_option maxHeartbeats 400000 in
theorem l05Long_any (s : ByteArray) (w : World) (hs : s.size ≤ maxLen) :
    Calls Try.prog 132 #[.string s] w fun e w' => e = .returned (.bool (longB s)) ∧ w = w' := by
  have hs' := hs
  unfold maxLen at hs
  by_cases h2 : 2 ≤ s.size
  · have HR := hid (longB_word h2)
    have h21 : (1 : Int) < (s.size : Int) := by omega
    go_enter Try.func132, Try.ntmps132
    go_wp2_with (go_at_call 78; refine (specIsWord_any _ _ hs').mono ?_; rintro e w' ⟨rfl, rfl⟩)
    go_ret
    exact ⟨ret_bool HR.out.symm, rfl⟩
  · have HR := hid (longB_short h2)
    have h21 : ¬ (1 : Int) < (s.size : Int) := by omega
    go_enter Try.func132, Try.ntmps132
    go_wp2
    go_ret
    exact ⟨ret_bool HR.out.symm, rfl⟩
theorem long_is {s : ByteArray} {v : Bool} (h : longB s = v) (W : World) (hs : s.size ≤ maxLen) : Calls Try.prog 132 #[.string s] W fun e w' => e = .returned (.bool v) ∧ W = w' := by
  rw [← h]; exact l05Long_any s W hs
set_option maxHeartbeats 400000 in
theorem isLongWord_any (s : ByteArray) (w : World) (hs : s.size ≤ maxLen) :
    Calls Try.prog 128 #[.string s] w fun e w' => e = .returned (.bool (longB s)) ∧ Below w.heap.size w w' := by
  have hs' := hs
  unfold maxLen at hs
  by_cases h2 : 2 ≤ s.size
  · have HR := hid (longB_word h2)
    have h21 : (2 : Int) ≤ (s.size : Int) := by omega
    go_enter Try.func128, Try.ntmps128
    go_wp2_with fail
    refine (implIsWord_any _ _ hs').mono ?_
    rintro e w' ⟨rfl, hb⟩
    go_wp2
    go_ret
    exact ⟨ret_bool HR.out.symm, hb⟩
  · have HR := hid (longB_short h2)
    have h21 : ¬ (2 : Int) ≤ (s.size : Int) := by omega
    go_enter Try.func128, Try.ntmps128
    go_wp2
    go_ret
    exact ⟨ret_bool HR.out.symm, Below.refl _ _⟩
theorem longI {s : ByteArray} {v : Bool} (h : longB s = v) (w : World) (hs : s.size ≤ maxLen) : Calls Try.prog 128 #[.string s] w fun e w' => e = .returned (.bool v) ∧ Below w.heap.size w w' := by rw [← h]; exact isLongWord_any s w hs
theorem quietF {P : Program} {f : FuncId} {args : Array Value} {w : World} {n : Nat} {v : Value} (h : Calls P f args (w.drewN n) fun e w' => e = .returned v ∧ w.drewN n = w') : Calls P f args (w.drewN n) fun e w'' => e = .returned v ∧ ∃ m, w'' = w.drewN m :=
  h.mono fun _ _ ⟨he, hm⟩ => ⟨he, n, hm.symm⟩
end Go.Proofs.Ytpjekfebpgjgnaa
