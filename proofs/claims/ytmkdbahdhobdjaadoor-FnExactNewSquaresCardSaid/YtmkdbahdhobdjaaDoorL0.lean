/-
  Lists of strings: what is the same, what is greater, sizes, copies; long words.
-/
import Derived.Test.YtmkdbahdhobdjaaDoorC1
import Derived.Test.YtmkdbahdhobdjaaDoorK1
import Derived.Test.YtmkdbahdhobdjaaDoorT0
import Derived.Test.YtmkdbahdhobdjaaDoorF1
import Derived.Deep.RegionWith
import Derived.Deep.QuietTactic
import Derived.BigQuiet
namespace Go.Proofs.YtmkdbahdhobdjaaDoor
open Go.ChangeShapes Go.WideShapes Go.ChangeAt Go.RowKit Go.Joins Go.Deep
def allTo (p : Nat → Bool) (k : Nat) : Bool := (List.range k).all p
theorem allTo_zero (p : Nat → Bool) : allTo p 0 = true := rfl
theorem allTo_succ (p : Nat → Bool) (k : Nat) : allTo p (k + 1) = (allTo p k && p k) := by simp [allTo, List.range_succ]
theorem allTo_not {p : Nat → Bool} {k n : Nat} (hk : k < n) (h : p k = false) : allTo p n = false := by
  rw [Bool.eq_false_iff]
  intro ha
  unfold allTo at ha
  rw [List.all_eq_true] at ha
  have := ha k (List.mem_range.2 hk)
  rw [h] at this
  cases this
theorem strNe {a b : ByteArray} (h : ¬ a = b) : (a.toList == b.toList) = false := by
  rw [beq_eq_false_iff_ne, ByteArray.toList_eq, ByteArray.toList_eq]
  exact fun e => h (Go.WideShapes.bytes_inj e)
theorem strSame (a : ByteArray) : (a.toList == a.toList) = true := by simp
def sameStrs (us vs : List ByteArray) : Bool := decide (us.length = vs.length) && allTo (fun j => (strAt us j).toList == (strAt vs j).toList) us.length
theorem sameStrs_len {us vs : List ByteArray} (h : ¬ us.length = vs.length) : sameStrs us vs = false := by simp [sameStrs, h]
theorem sameStrs_all {us vs : List ByteArray} (h : us.length = vs.length) : sameStrs us vs = allTo (fun j => (strAt us j).toList == (strAt vs j).toList) us.length := by simp [sameStrs, h]
theorem less_or_same : ∀ x y : List UInt8, (Op.bytesLess x y || x == y) = !Op.bytesLess y x
  | [], [] => rfl
  | [], b :: y => by simp [Op.bytesLess]
  | a :: x, [] => by simp [Op.bytesLess]
  | a :: x, b :: y => by
    have ih := less_or_same x y
    rcases Nat.lt_trichotomy a.toNat b.toNat with h | h | h
    · have h1 : a < b := UInt8.lt_iff_toNat_lt.2 h
      have h2 : ¬ b < a := fun h' => by have := UInt8.lt_iff_toNat_lt.1 h'; omega
      have h3 : ¬ a = b := fun e => by rw [e] at h; omega
      have h4 : ¬ b = a := fun e => h3 e.symm
      simp [Op.bytesLess, h1, h2, h4]
    · have h3 : a = b := UInt8.toNat_inj.1 h
      subst h3
      have h1 : ¬ a < a := fun h' => by have := UInt8.lt_iff_toNat_lt.1 h'; omega
      have e : (a :: x == a :: y) = (x == y) := by simp
      rw [e]
      simp only [Op.bytesLess, h1, decide_false, Bool.false_or, beq_self_eq_true, Bool.true_and]
      exact ih
    · have h1 : b < a := UInt8.lt_iff_toNat_lt.2 h
      have h2 : ¬ a < b := fun h' => by have := UInt8.lt_iff_toNat_lt.1 h'; omega
      have h3 : ¬ a = b := fun e => by rw [e] at h; omega
      simp [Op.bytesLess, h1, h2, h3]
/-- A text is greater than another one. -/
def upS (a b : ByteArray) : Bool := Op.bytesLess a.toList b.toList
theorem not_le {a b : ByteArray} : (Op.bytesLess b.toList a.toList || b.toList == a.toList) = !upS a b := less_or_same _ _
theorem upS_empty {b : ByteArray} (h : 0 < b.size) : upS ⟨#[]⟩ b = true := by
  unfold upS
  rw [ByteArray.toList_eq, ByteArray.toList_eq]
  have hl : b.data.toList.length = b.size := by simp
  cases hb : b.data.toList with
  | nil => rw [hb] at hl; simp at hl; omega
  | cons x l => rfl
/-- The text ahead of place k; the empty one ahead of the first. -/
def lastS (us : List ByteArray) (k : Nat) : ByteArray := if k = 0 then ⟨#[]⟩ else strAt us (k - 1)
theorem lastS_zero (us : List ByteArray) : lastS us 0 = ⟨#[]⟩ := rfl
theorem lastS_succ (us : List ByteArray) (k : Nat) : lastS us (k + 1) = strAt us k := by simp [lastS]
theorem allTo_at {p : Nat → Bool} {k n : Nat} (h : allTo p n = true) (hk : k < n) : p k = true := by
  cases hp : p k
  · rw [allTo_not hk hp] at h; cases h
  · rfl
def sumTo (f : Nat → Nat) : Nat → Nat
  | 0 => 0
  | k + 1 => sumTo f k + f k
theorem sumTo_mono (f : Nat → Nat) {k n : Nat} (h : k ≤ n) : sumTo f k ≤ sumTo f n := by
  induction n with
  | zero => obtain rfl : k = 0 := by omega
            exact Nat.le_refl _
  | succ n ih =>
    rcases Nat.lt_or_ge k (n + 1) with h1 | h1
    · have := ih (by omega)
      show _ ≤ sumTo f n + f n
      omega
    · obtain rfl : k = n + 1 := by omega
      exact Nat.le_refl _
theorem sumTo_at (f : Nat → Nat) {k n : Nat} (h : k < n) : f k ≤ sumTo f n := by
  have := sumTo_mono f (show k + 1 ≤ n by omega)
  have e : sumTo f (k + 1) = sumTo f k + f k := rfl
  omega
def strsW (ss : List ByteArray) : Nat := ss.length + sumTo (fun j => (strAt ss j).size) ss.length
theorem strAt_mem {ss : List ByteArray} {k : Nat} (h : k < ss.length) : strAt ss k ∈ ss := by
  unfold strAt
  rw [List.getD_eq_getElem?_getD, List.getElem?_eq_getElem h]
  exact List.getElem_mem _
def rowS (ss : List ByteArray) (k : Nat) : List Value := (ss.take k ++ List.replicate (ss.length - k) ByteArray.empty).map Value.string
theorem rowS_zero (ss : List ByteArray) : rowS ss 0 = List.replicate ss.length (.string ByteArray.empty) := by simp [rowS]
theorem rowS_all (ss : List ByteArray) : rowS ss ss.length = ss.map Value.string := by simp [rowS]
theorem rowS_at (ss : List ByteArray) (k : Nat) (h : k < ss.length) : (rowS ss k)[k]? = some (.string ByteArray.empty) := by
  unfold rowS
  rw [List.getElem?_map, List.getElem?_append_right (by simp; omega), List.length_take_of_le (by omega), Nat.sub_self, List.getElem?_replicate, if_pos (by omega)]
  rfl
theorem takeS_snoc (ss : List ByteArray) (k : Nat) (h : k < ss.length) : ss.take (k + 1) = ss.take k ++ [strAt ss k] := by
  rw [List.take_succ_eq_append_getElem h]
  simp [strAt, List.getD_eq_getElem?_getD, List.getElem?_eq_getElem h]
theorem rowS_set (ss : List ByteArray) (k : Nat) (h : k < ss.length) : (rowS ss k).set k (.string (strAt ss k)) = rowS ss (k + 1) := by
  have e1 : ss.length - k = (ss.length - (k + 1)) + 1 := by omega
  have e2 : k - min k ss.length = 0 := by omega
  unfold rowS
  rw [takeS_snoc ss k h, e1, List.replicate_succ, List.map_append, List.map_append, List.map_append, List.map_cons]
  rw [List.set_append_right _ _ (by simp; omega)]
  simp [e2]
theorem infoS : (Tryd.prog.info? 9).map (fun i => (i.zero, i.size, i.bytes)) = some (some (.string ByteArray.empty), 1, 16) := by kernel_rfl
theorem OwnS.kept {B : Nat} {w w' : World} {v : Value} {ss : List ByteArray} (h : OwnS B w v ss) (hb : Below w.heap.size w w') : OwnS B w' v ss := own_kept h hb
theorem OwnS.lower {B B' : Nat} {w : World} {v : Value} {ss : List ByteArray} (h : OwnS B w v ss) (hB : B' ≤ B) : OwnS B' w v ss := own_lower h hB
theorem OwnS.off {B : Nat} {w : World} {v : Value} {ss : List ByteArray} (h : OwnS B w v ss) {g : Nat} (hg : g < B) (j : Nat) (u : Value) : OwnS B (w.setCell ⟨g, j, none⟩ u) v ss := ownsRow_setCell_below h (a := ⟨g, j, none⟩) hg u
set_option maxHeartbeats 400000 in
theorem isLongWord_any (s : ByteArray) (w : World) (hs : s.size ≤ maxLen) :
    Calls Tryd.prog 151 #[.string s] w fun e w' => e = .returned (.bool (longB s)) ∧ Below w.heap.size w w' := by
  have hs' := hs
  unfold maxLen at hs
  by_cases h2 : 2 ≤ s.size
  · have HR := hid (longB_word h2)
    have h21 : (2 : Int) ≤ (s.size : Int) := by omega
    go_enter Tryd.func151, Tryd.ntmps151
    go_wp2_with fail
    refine (implIsWord_any _ _ hs').mono ?_
    rintro e w' ⟨rfl, hb⟩
    go_wp2
    go_ret
    exact ⟨ret_bool HR.out.symm, hb⟩
  · have HR := hid (longB_short h2)
    have h21 : ¬ (2 : Int) ≤ (s.size : Int) := by omega
    go_enter Tryd.func151, Tryd.ntmps151
    go_wp2
    go_ret
    exact ⟨ret_bool HR.out.symm, Below.refl _ _⟩
theorem longI {s : ByteArray} {v : Bool} (h : longB s = v) (w : World) (hs : s.size ≤ maxLen) : Calls Tryd.prog 151 #[.string s] w fun e w' => e = .returned (.bool v) ∧ Below w.heap.size w w' := by rw [← h]; exact isLongWord_any s w hs
theorem quietF {P : Program} {f : FuncId} {args : Array Value} {w : World} {n : Nat} {v : Value} (h : Calls P f args (w.drewN n) fun e w' => e = .returned v ∧ w.drewN n = w') : Calls P f args (w.drewN n) fun e w'' => e = .returned v ∧ ∃ m, w'' = w.drewN m :=
  h.mono fun _ _ ⟨he, hm⟩ => ⟨he, n, hm.symm⟩
end Go.Proofs.YtmkdbahdhobdjaaDoor
