/-
  Plain facts on placing a word with tiles: how many blanks it needs; no program in sight.
-/
import Derived.Test.YtdleinognmdfmaaDoorN2
namespace Go.Proofs.YtdleinognmdfmaaDoor
open Go.RowKit

/-- One tile of a kind less. -/
def decK (f : Nat → Nat) (k : Nat) : Nat → Nat := fun j => if j = k then f j - 1 else f j
/-- How many blanks a word needs with so many tiles of each kind. -/
def needL : (Nat → Nat) → List UInt8 → Nat
  | _, [] => 0
  | f, c :: l => if f (kindN c) = 0 then needL f l + 1 else needL (decK f (kindN c)) l
theorem needL_congr : ∀ (l : List UInt8) {f g : Nat → Nat}, (∀ k, k < 27 → f k = g k) → (∀ c ∈ l, kindN c < 27) → needL f l = needL g l
  | [], _, _, _, _ => rfl
  | c :: l, f, g, h, hl => by
    have hc := hl c List.mem_cons_self
    have hl' : ∀ c ∈ l, kindN c < 27 := fun x hx => hl x (List.mem_cons_of_mem _ hx)
    rw [needL, needL, h _ hc, needL_congr l h hl', needL_congr l (f := decK f (kindN c)) (g := decK g (kindN c)) (fun k hk => by
      unfold decK
      rw [h k hk]) hl']
theorem needL_le : ∀ (l : List UInt8) (f : Nat → Nat), needL f l ≤ l.length
  | [], _ => Nat.le_refl _
  | c :: l, f => by
    rw [needL]
    split
    · have := needL_le l f; simp; omega
    · have := needL_le l (decK f (kindN c)); simp; omega
theorem small_tile {c : Int} (h : smallB c = true) : tileB c = true := by
  rw [smallB_iff] at h
  rw [tileB_iff]
  omega
theorem small_kind {c : UInt8} (h : smallB (c.toNat : Int) = true) : 1 ≤ kindN c ∧ kindN c < 27 ∧ kindI (c.toNat : Int) = (kindN c : Int) := by
  have h1 := kindI_small h
  rw [smallB_iff] at h
  unfold kindN
  rw [h1]
  omega
theorem word_small {l : List UInt8} (h : isWordB l = true) {c : UInt8} (hc : c ∈ l) : smallB (c.toNat : Int) = true := by
  simp only [isWordB, Bool.and_eq_true, allSmall, List.all_eq_true] at h
  exact h.1.1 c hc
theorem word_len {l : List UInt8} (h : isWordB l = true) : l.length ≤ 12 := by
  simp only [isWordB, Bool.and_eq_true, decide_eq_true_eq] at h
  exact h.2
theorem word_kinds {l : List UInt8} (h : isWordB l = true) : ∀ c ∈ l, kindN c < 27 := fun _ hc => (small_kind (word_small h hc)).2.1

/-! ### Taking one tile -/
theorem takeL_nil (a : List UInt8) : takeL a [] = (a, []) := by
  induction a with
  | nil => rfl
  | cons x a ih => rw [takeL, ih]
theorem take1_miss {c : UInt8} : ∀ {a : List UInt8}, c ∉ a → takeL a [c] = (a, [c])
  | [], _ => rfl
  | x :: a, h => by
    rw [List.mem_cons, not_or] at h
    rw [takeL, if_neg h.1, take1_miss h.2]
theorem take1_hit {c : UInt8} : ∀ {a : List UInt8}, c ∈ a → (takeL a [c]).2 = []
  | [], h => by cases h
  | x :: a, h => by
    by_cases e : c = x
    · rw [takeL, if_pos e, takeL_nil]
    · rw [takeL, if_neg e]
      rcases List.mem_cons.1 h with h | h
      · exact absurd h e
      · exact take1_hit h
theorem take1_cnt {c : UInt8} {a : List UInt8} (h : c ∈ a) (k : Nat) : cnt a k = cnt (takeL a [c]).1 k + if tileOf k = c then 1 else 0 := by
  obtain ⟨u, h1, h2, _⟩ := takeL_parts a [c]
  rw [take1_hit h, List.append_nil] at h1
  subst h1
  unfold cnt
  rw [h2.count_eq, List.count_append, List.count_singleton]
  by_cases e : tileOf k = c
  · rw [if_pos e, e]; simp
  · rw [if_neg e, if_neg (by simpa using fun e2 => e e2.symm)]
theorem take1_len (c : UInt8) (a : List UInt8) : (takeL a [c]).1.length ≤ a.length := takeL_len a [c]
theorem mem_cnt {c : UInt8} (hc : tileB (c.toNat : Int) = true) (a : List UInt8) : c ∈ a ↔ cnt a (kindN c) ≠ 0 := by
  unfold cnt
  rw [tileOf_kind hc, Ne, List.count_eq_zero, Classical.not_not]

/-- How far the model is: n blanks are needed for the first i letters, and A is left. -/
def ND (p w : ByteArray) (i n : Nat) (F : Nat → Nat) : Prop := needL (cnt p.data.toList) w.data.toList = n + needL F (w.data.toList.drop i)
theorem nd_start (p w : ByteArray) : ND p w 0 0 (cnt p.data.toList) := by simp [ND]
theorem nd_miss {p w : ByteArray} {i n : Nat} {F : Nat → Nat} (h : ND p w i n F) (hi : i < w.size) (e : F (kindN (w[i]'hi)) = 0) : ND p w (i + 1) (n + 1) F := by
  unfold ND at h ⊢
  rw [drop_at w hi, needL, if_pos e] at h
  omega
theorem nd_hit {p w : ByteArray} {i n : Nat} {F G : Nat → Nat} (h : ND p w i n F) (hi : i < w.size) (e : F (kindN (w[i]'hi)) ≠ 0) (hw : ∀ c ∈ w.data.toList, kindN c < 27)
    (hG : ∀ k, k < 27 → G k = decK F (kindN (w[i]'hi)) k) : ND p w (i + 1) n G := by
  unfold ND at h ⊢
  rw [drop_at w hi, needL, if_neg e] at h
  rw [h, needL_congr _ hG (fun c hc => hw c (List.mem_of_mem_drop hc))]
theorem nd_end {p w : ByteArray} {n : Nat} {F : Nat → Nat} (h : ND p w w.size n F) : needL (cnt p.data.toList) w.data.toList = n := by
  unfold ND at h
  rw [drop_end w (Nat.le_refl _), needL] at h
  exact h
theorem nd_le {p w : ByteArray} {i n : Nat} {F : Nat → Nat} (h : ND p w i n F) : n ≤ w.size := by
  have := needL_le w.data.toList (cnt p.data.toList)
  unfold ND at h
  rw [len_list] at this
  omega
/-- A word can be placed with a pile. -/
def canL (p w : List UInt8) : Bool := decide (needL (cnt p) w ≤ cnt p 0)
def canB (p w : List UInt8) : Bool := pileB p && isWordB w && canL p w
theorem canB_no1 {p w : List UInt8} (h : pileB p = false) : canB p w = false := by simp [canB, h]
theorem canB_no2 {p w : List UInt8} (h : isWordB w = false) : canB p w = false := by simp [canB, h]
theorem canB_yes {p w : List UInt8} (h1 : pileB p = true) (h2 : isWordB w = true) : canB p w = canL p w := by simp [canB, h1, h2]

/-! ### Blanks -/
theorem cnt0 (l : List UInt8) : cnt l 0 = l.count 63 := rfl
theorem blank_step (s : ByteArray) (k : Nat) (h : k < s.size) : cnt (s.data.toList.take (k + 1)) 0 = cnt (s.data.toList.take k) 0 + if ((s[k]'h).toNat : Int) = 63 then 1 else 0 := by
  rw [take_grows s k h, cnt_snoc]
  have e : (s[k]'h = tileOf 0) ↔ ((s[k]'h).toNat : Int) = 63 := by
    rw [← UInt8.toNat_inj, tileOf_nat (by omega), if_pos rfl]
    omega
  by_cases h1 : ((s[k]'h).toNat : Int) = 63
  · rw [if_pos h1, if_pos (e.2 h1)]
  · rw [if_neg h1, if_neg (fun x => h1 (e.1 x))]
end Go.Proofs.YtdleinognmdfmaaDoor
