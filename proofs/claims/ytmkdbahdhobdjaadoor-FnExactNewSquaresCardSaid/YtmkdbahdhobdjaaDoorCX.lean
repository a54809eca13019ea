/-
  Placements, plain: plays, lines of a board, what a play makes; maps of squares, rows of squares.
-/
import Derived.Test.YtmkdbahdhobdjaaDoorBS
import Derived.Test.YtmkdbahdhobdjaaDoorN5
import Derived.Maps.RangeWalk
import Derived.Maps.OwnOps
import Derived.Maps.OwnSet
import Derived.DeepKeys4
import Derived.MapViews
import Derived.Lib.SmallJoins
namespace Go.Proofs.YtmkdbahdhobdjaaDoor
open Go.RowKit

/-- The letters of a main word. -/
def longP (s : ByteArray) : Bool := placedL s.data.toList && decide (2 ≤ s.size)
/-- The cells as a play sees them, its line a row; and its square there. -/
def flS (d : Bool) (N : Nat) (c : ByteArray) : ByteArray := if d = true then turnS N c else c
def flR (d : Bool) (r k : Int) : Int := if d = true then k else r
def flC (d : Bool) (r k : Int) : Int := if d = true then r else k
theorem flR_flR (d : Bool) (r k : Int) : flR d (flR d r k) (flC d r k) = r := by cases d <;> rfl
theorem flC_flC (d : Bool) (r k : Int) : flC d (flR d r k) (flC d r k) = k := by cases d <;> rfl
theorem flS_size {d : Bool} {N : Nat} {c : ByteArray} (h : c.size = N * N) : (flS d N c).size = N * N := by
  cases d
  · exact h
  · exact turnS_size N c
theorem flS_at {d : Bool} {N R X : Nat} {c : ByteArray} (hR : R < N) (hX : X < N) : atB (flS d N c) (R * N + X) = if d = true then atB c (X * N + R) else atB c (R * N + X) := by
  cases d
  · rfl
  · exact turnS_at hR hX
theorem inBd_fl (d : Bool) (n R X : Int) : inBd n (flR d R X) (flC d R X) = inBd n R X := by
  cases d
  · rfl
  · show inBd n X R = inBd n R X
    unfold inBd
    rw [Bool.and_comm]
theorem full_fl {d : Bool} {N : Nat} {c : ByteArray} {R X : Int} : fullB N c (flR d R X) (flC d R X) = fullB N (flS d N c) R X := by
  unfold fullB
  rw [inBd_fl]
  cases h : inBd (N : Int) R X
  · rfl
  · obtain ⟨⟨h0, h1⟩, h2, h3⟩ := inBd_iff.1 h
    obtain ⟨A, rfl⟩ := Int.eq_ofNat_of_zero_le h0
    obtain ⟨B, rfl⟩ := Int.eq_ofNat_of_zero_le h2
    have e1 : ((A : Int) * (N : Int) + (B : Int)).toNat = A * N + B := by rw [← Int.natCast_mul]; omega
    have e2 : ((B : Int) * (N : Int) + (A : Int)).toNat = B * N + A := by rw [← Int.natCast_mul]; omega
    rw [e1, flS_at (by omega) (by omega)]
    cases d
    · show (true && !(atB c ((A : Int) * (N : Int) + (B : Int)).toNat == 46)) = _
      rw [e1]; rfl
    · show (true && !(atB c ((B : Int) * (N : Int) + (A : Int)).toNat == 46)) = _
      rw [e2]; rfl

/-- The letter k of a word may be placed: its square is free or has it. -/
def seeB (f s : ByteArray) (b k : Nat) : Bool := atB f (b + k) == 46 || atB f (b + k) == atB s k
def seeTo (f s : ByteArray) (b m : Nat) : Bool := (List.range m).all (seeB f s b)
/-- The places of the free squares among the first m. -/
def frL (f : ByteArray) (b m : Nat) : List Nat := (List.range m).filter fun i => atB f (b + i) == 46
theorem frL_zero (f : ByteArray) (b : Nat) : frL f b 0 = [] := rfl
theorem frL_yes {f : ByteArray} {b m : Nat} (h : (atB f (b + m) == 46) = true) : frL f b (m + 1) = frL f b m ++ [m] := by
  unfold frL; rw [List.range_succ, List.filter_append]; simp [h]
theorem frL_no {f : ByteArray} {b m : Nat} (h : (atB f (b + m) == 46) = false) : frL f b (m + 1) = frL f b m := by
  unfold frL; rw [List.range_succ, List.filter_append]; simp [h]
theorem frL_len (f : ByteArray) (b m : Nat) : (frL f b m).length ≤ m := by
  have := List.length_filter_le (fun i => atB f (b + i) == 46) (List.range m)
  rw [List.length_range] at this
  exact this
theorem frL_mem {f : ByteArray} {b m i : Nat} : i ∈ frL f b m ↔ i < m ∧ (atB f (b + i) == 46) = true := by
  unfold frL; rw [List.mem_filter, List.mem_range]
theorem frL_nodup (f : ByteArray) (b m : Nat) : (frL f b m).Nodup := List.nodup_range.filter _
theorem seeTo_zero (f s : ByteArray) (b : Nat) : seeTo f s b 0 = true := rfl
theorem seeTo_succ (f s : ByteArray) (b m : Nat) : seeTo f s b (m + 1) = (seeTo f s b m && seeB f s b m) := by
  unfold seeTo; rw [List.range_succ, List.all_append]; simp
theorem seeTo_no {f s : ByteArray} {b m k : Nat} (hk : k < m) (h : seeB f s b k = false) : seeTo f s b m = false := by
  rw [Bool.eq_false_iff]
  intro e
  have := List.all_eq_true.1 e k (List.mem_range.2 hk)
  rw [h] at this; cases this
theorem seeTo_at {f s : ByteArray} {b m k : Nat} (h : seeTo f s b m = true) (hk : k < m) : seeB f s b k = true := List.all_eq_true.1 h k (List.mem_range.2 hk)

/-- A word fits from a square of a line on. -/
def fitB (N : Nat) (f : ByteArray) (R C : Int) (s : ByteArray) : Bool :=
  inBd (N : Int) R C && (decide (C + (s.size : Int) ≤ (N : Int)) && (!fullB N f R (C - 1) && (!fullB N f R (C + (s.size : Int)) &&
    (seeTo f s (R * N + C).toNat s.size && !(frL f (R * N + C).toNat s.size).isEmpty))))
def okPl (n : Int) (p c : ByteArray) (r k : Int) (d : Bool) (s : ByteArray) : Bool :=
  okBd n p c && (longP s && fitB n.toNat (flS d n.toNat c) (flR d r k) (flC d r k) s)
theorem fit_out {N : Nat} {f s : ByteArray} {R C : Int} (h : inBd (N : Int) R C = false) : fitB N f R C s = false := by unfold fitB; rw [h]; rfl
theorem fit_nat {N : Nat} {R C : Int} (h : inBd (N : Int) R C = true) : ∃ A B : Nat, R = (A : Int) ∧ C = (B : Int) ∧ A < N ∧ B < N ∧ (R * N + C).toNat = A * N + B := by
  obtain ⟨⟨h0, h1⟩, h2, h3⟩ := inBd_iff.1 h
  obtain ⟨A, rfl⟩ := Int.eq_ofNat_of_zero_le h0
  obtain ⟨B, rfl⟩ := Int.eq_ofNat_of_zero_le h2
  exact ⟨A, B, rfl, rfl, by omega, by omega, by rw [← Int.natCast_mul]; omega⟩
theorem fit_long {N A B : Nat} {f s : ByteArray} (h : N < B + s.size) : fitB N f (A : Int) (B : Int) s = false := by
  unfold fitB
  rw [decide_eq_false (show ¬ ((B : Int) + (s.size : Int) ≤ (N : Int)) by omega)]
  cases inBd (N : Int) (A : Int) (B : Int) <;> rfl
theorem nat_at (N A B : Nat) : ((A : Int) * (N : Int) + (B : Int)).toNat = A * N + B := by rw [← Int.natCast_mul]; omega
theorem fit_see {N A B k : Nat} {f s : ByteArray} (hk : k < s.size) (h : seeB f s (A * N + B) k = false) : fitB N f (A : Int) (B : Int) s = false := by
  unfold fitB
  rw [nat_at, seeTo_no hk h, Bool.false_and, Bool.and_false, Bool.and_false, Bool.and_false, Bool.and_false]
theorem fit_end {N A B : Nat} {f s : ByteArray} (hA : A < N) (hB : B < N) (hn : B + s.size ≤ N) (h : seeTo f s (A * N + B) s.size = true) :
    fitB N f (A : Int) (B : Int) s = (!fullB N f A ((B : Int) - 1) && (!fullB N f A ((B : Int) + (s.size : Int)) && !(frL f (A * N + B) s.size).isEmpty)) := by
  unfold fitB
  rw [inBd_iff.2 ⟨⟨by omega, by omega⟩, by omega, by omega⟩, decide_eq_true (show (B : Int) + (s.size : Int) ≤ (N : Int) by omega), nat_at, h]
  rfl
/-- What is known of a word that fits. -/
theorem fit_facts {N : Nat} {f s : ByteArray} {R C : Int} (h : fitB N f R C s = true) : ∃ A B : Nat, R = (A : Int) ∧ C = (B : Int) ∧ A < N ∧ B < N ∧ B + s.size ≤ N ∧ seeTo f s (A * N + B) s.size = true ∧
    frL f (A * N + B) s.size ≠ [] ∧ fullB N f A ((B : Int) - 1) = false ∧ fullB N f A ((B : Int) + (s.size : Int)) = false := by
  cases hi : inBd (N : Int) R C
  · rw [fit_out hi] at h; cases h
  obtain ⟨A, B, rfl, rfl, hA, hB, e⟩ := fit_nat hi
  have hn : B + s.size ≤ N := by
    rcases Nat.lt_or_ge N (B + s.size) with g | g
    · rw [fit_long g] at h; cases h
    · exact g
  unfold fitB at h
  rw [hi, e, Bool.true_and, Bool.and_eq_true, Bool.and_eq_true, Bool.and_eq_true, Bool.and_eq_true] at h
  obtain ⟨-, h1, h2, h3, h4⟩ := h
  refine ⟨A, B, rfl, rfl, hA, hB, hn, h3, ?_, by simpa using h1, by simpa using h2⟩
  intro e2
  rw [e2] at h4; cases h4
theorem okPl_bad {n : Int} {p c s : ByteArray} {r k : Int} {d : Bool} (h : okBd n p c = false) : okPl n p c r k d s = false := by unfold okPl; rw [h]; rfl
theorem okPl_word {n : Int} {p c s : ByteArray} {r k : Int} {d : Bool} (h : longP s = false) : okPl n p c r k d s = false := by unfold okPl; rw [h, Bool.false_and, Bool.and_false]
theorem okPl_fit {N : Nat} {p c s : ByteArray} {r k : Int} {d : Bool} (h : okBd (N : Int) p c = true) (h2 : longP s = true) : okPl (N : Int) p c r k d s = fitB N (flS d N c) (flR d r k) (flC d r k) s := by
  unfold okPl; rw [h, h2]; rfl
theorem long_size {s : ByteArray} (h : longP s = true) : 2 ≤ s.size ∧ s.size ≤ 12 ∧ allLet s.data.toList = true := by
  unfold longP at h
  rw [Bool.and_eq_true, decide_eq_true_eq] at h
  have := placed_len h.1
  rw [Array.length_toList] at this
  exact ⟨h.2, this, placed_let h.1⟩
theorem let_at {s : ByteArray} (h : allLet s.data.toList = true) {k : Nat} (hk : k < s.size) : letB ((atB s k).toNat : Int) = true := by
  unfold allLet at h
  rw [List.all_eq_true] at h
  rw [atB_get hk]
  exact h _ (by rw [Array.mem_toList_iff]; exact Array.getElem_mem _)
theorem let_ne {u : UInt8} (h : letB (u.toNat : Int) = true) : (u == 46) = false := by
  rw [beq_eq_false_iff_ne]
  rintro rfl
  cases h

/-! The new squares. -/
abbrev Sq := Int × Int
def sqOf (d : Bool) (A B i : Nat) : Sq := (flR d (A : Int) ((B + i : Nat) : Int), flC d (A : Int) ((B + i : Nat) : Int))
def sqV (x : Sq) : Value := .agg #[.int .i64 x.1, .int .i64 x.2]
def newL (d : Bool) (A B : Nat) (fr : List Nat) : List Sq := fr.map (sqOf d A B)
theorem sqOf_inj {d : Bool} {A B i j : Nat} (h : sqOf d A B i = sqOf d A B j) : i = j := by
  unfold sqOf at h
  injection h with h1 h2
  cases d
  · have : ((B + i : Nat) : Int) = ((B + j : Nat) : Int) := h2
    omega
  · have : ((B + i : Nat) : Int) = ((B + j : Nat) : Int) := h1
    omega
/-- What a play is on a valid board where it fits: its line, its places. -/
structure Fits (N : Nat) (p c : ByteArray) (r k : Int) (d : Bool) (s : ByteArray) (A B : Nat) (f : ByteArray) : Prop where
  ok : okBd (N : Int) p c = true
  word : longP s = true
  f_is : f = flS d N c
  r_is : r = flR d (A : Int) (B : Int)
  k_is : k = flC d (A : Int) (B : Int)
  hA : A < N
  hB : B < N
  hn : B + s.size ≤ N
  see : seeTo f s (A * N + B) s.size = true
  some : frL f (A * N + B) s.size ≠ []
  before : fullB N f A ((B : Int) - 1) = false
  behind : fullB N f A ((B : Int) + (s.size : Int)) = false
theorem okPl_fits {n : Int} {p c s : ByteArray} {r k : Int} {d : Bool} (h : okPl n p c r k d s = true) : ∃ N A B : Nat, ∃ f : ByteArray, n = (N : Int) ∧ 5 ≤ N ∧ N ≤ 15 ∧ p.size = N * N ∧ c.size = N * N ∧ Fits N p c r k d s A B f := by
  have h0 := h
  unfold okPl at h
  rw [Bool.and_eq_true, Bool.and_eq_true] at h
  obtain ⟨h1, h2, h3⟩ := h
  obtain ⟨N, rfl, h5, h15, hp, hc⟩ := okBd_nat h1
  rw [Int.toNat_natCast] at h3
  obtain ⟨A, B, e1, e2, hA, hB, hn, hs, hfr, hb, hb2⟩ := fit_facts h3
  refine ⟨N, A, B, _, rfl, h5, h15, hp, hc, h1, h2, rfl, ?_, ?_, hA, hB, hn, hs, hfr, hb, hb2⟩
  · rw [← e1, ← e2, flR_flR]
  · rw [← e1, ← e2, flC_flC]
theorem Fits.okP {N : Nat} {p c s f : ByteArray} {r k : Int} {d : Bool} {A B : Nat} (h : Fits N p c r k d s A B f) : okPl (N : Int) p c r k d s = true := by
  rw [okPl_fit h.ok h.word, h.r_is, h.k_is, flR_flR, flC_flC, ← h.f_is, fit_end h.hA h.hB h.hn h.see, h.before, h.behind]
  cases e : frL f (A * N + B) s.size with
  | nil => exact absurd e h.some
  | cons => rfl
end Go.Proofs.YtmkdbahdhobdjaaDoor

namespace Go.Proofs.YtmkdbahdhobdjaaDoor
open Go.RowKit

theorem list_size (s : ByteArray) : s.data.toList.length = s.size := by rw [Array.length_toList]; rfl
theorem ext_at {s t : ByteArray} (h : s.size = t.size) (ha : ∀ j, j < s.size → atB s j = atB t j) : s = t := by
  have h1 := list_size s
  have h2 := list_size t
  have : s.data.toList = t.data.toList := by
    refine List.ext_getElem (by omega) fun i g1 g2 => ?_
    have := ha i (by omega)
    rw [atB_get (by omega), atB_get (by omega)] at this
    exact this
  cases s with | mk a => cases t with | mk b => exact congrArg ByteArray.mk (Array.toList_inj.1 this)

/-- Cells over which the first m letters of a word lie. -/
def layL (f s : ByteArray) (b m : Nat) : List UInt8 := f.data.toList.take b ++ s.data.toList.take m ++ f.data.toList.drop (b + m)
def layS (f s : ByteArray) (b : Nat) : ByteArray := ⟨(layL f s b s.size).toArray⟩
theorem layL_zero (f s : ByteArray) (b : Nat) : layL f s b 0 = f.data.toList := by simp [layL]
theorem layL_get {f s : ByteArray} {b m : Nat} (hm : m ≤ s.size) (h : b + m ≤ f.size) (i : Nat) : (layL f s b m)[i]? = if b ≤ i ∧ i < b + m then s.data.toList[i - b]? else f.data.toList[i]? := by
  have hl : (s.data.toList.take m).length = m := by rw [List.length_take, list_size]; omega
  have := splice_get f.data.toList (s.data.toList.take m) b (by rw [hl, list_size]; exact h) i
  rw [hl] at this
  unfold layL
  rw [this]
  by_cases h1 : i < b
  · rw [if_pos h1, if_neg (by omega)]
  · rw [if_neg h1]
    by_cases h2 : i < b + m
    · rw [if_pos h2, if_pos ⟨by omega, h2⟩, List.getElem?_take_of_lt (by omega)]
    · rw [if_neg h2, if_neg (by omega)]
theorem layL_len {f s : ByteArray} {b m : Nat} (hm : m ≤ s.size) (h : b + m ≤ f.size) : (layL f s b m).length = f.size := by
  unfold layL
  rw [List.length_append, List.length_append, List.length_take, List.length_take, List.length_drop, list_size, list_size]
  omega
theorem layL_set {f s : ByteArray} {b m : Nat} (hm : m < s.size) (h : b + s.size ≤ f.size) : (layL f s b m).set (b + m) (atB s m) = layL f s b (m + 1) := by
  apply List.ext_getElem?
  intro i
  rw [List.getElem?_set, layL_len (by omega) (by omega), layL_get (by omega) (by omega), layL_get (by omega) (by omega)]
  by_cases h1 : b + m = i
  · rw [if_pos h1, if_pos (by omega), if_pos (by omega), show i - b = m by omega, atB_get hm, List.getElem?_eq_getElem (by rw [list_size]; exact hm)]
    rfl
  · rw [if_neg h1]
    by_cases h2 : b ≤ i ∧ i < b + m
    · rw [if_pos h2, if_pos (by omega)]
    · rw [if_neg h2, if_neg (by omega)]
theorem layS_size {f s : ByteArray} {b : Nat} (h : b + s.size ≤ f.size) : (layS f s b).size = f.size := by
  show (layL f s b s.size).toArray.size = _
  rw [List.size_toArray, layL_len (Nat.le_refl _) h]
theorem layS_at {f s : ByteArray} {b : Nat} (h : b + s.size ≤ f.size) (j : Nat) : atB (layS f s b) j = if b ≤ j ∧ j < b + s.size then atB s (j - b) else atB f j := by
  unfold atB layS
  rw [List.toList_toArray, List.getD_eq_getElem?_getD, layL_get (Nat.le_refl _) h]
  split <;> rw [List.getD_eq_getElem?_getD]

/-- The place of a square of a line on the board. -/
def idxP (d : Bool) (N R X : Nat) : Nat := if d = true then X * N + R else R * N + X
theorem idx_lt {d : Bool} {N R X : Nat} (hR : R < N) (hX : X < N) : idxP d N R X < N * N := by
  cases d
  · exact row_lt hR hX
  · exact row_lt hX hR
theorem row_inj {N R X R' X' : Nat} (hX : X < N) (hX' : X' < N) (h : R * N + X = R' * N + X') : R = R' ∧ X = X' := by
  have h1 := congrArg (· / N) h
  have h2 := congrArg (· % N) h
  simp only [div_row hX, div_row hX'] at h1
  simp only [mod_row hX, mod_row hX'] at h2
  exact ⟨h1, h2⟩
theorem idx_inj {d : Bool} {N R X R' X' : Nat} (hR : R < N) (hX : X < N) (hR' : R' < N) (hX' : X' < N) (h : idxP d N R X = idxP d N R' X') : R = R' ∧ X = X' := by
  cases d
  · exact row_inj hX hX' h
  · obtain ⟨a, b⟩ := row_inj hR hR' h
    exact ⟨b, a⟩
theorem idx_all (d : Bool) {N j : Nat} (h : j < N * N) : ∃ R X, R < N ∧ X < N ∧ j = idxP d N R X := by
  have hN : 0 < N := by rcases Nat.eq_zero_or_pos N with e | e; rw [e] at h; omega; exact e
  have h1 : j / N < N := Nat.div_lt_of_lt_mul h
  have h2 : j % N < N := Nat.mod_lt _ hN
  have h3 : j / N * N + j % N = j := by rw [Nat.mul_comm]; exact Nat.div_add_mod j N
  cases d
  · exact ⟨j / N, j % N, h1, h2, h3.symm⟩
  · exact ⟨j % N, j / N, h2, h1, h3.symm⟩
theorem flS_idx {d : Bool} {N R X : Nat} {c : ByteArray} (hR : R < N) (hX : X < N) : atB (flS d N c) (R * N + X) = atB c (idxP d N R X) := by
  rw [flS_at hR hX]
  cases d <;> rfl
theorem flS_flS {d : Bool} {N : Nat} {c : ByteArray} (h : c.size = N * N) : flS d N (flS d N c) = c := by
  refine ext_at ((flS_size (flS_size h)).trans h.symm) fun j hj => ?_
  rw [flS_size (flS_size h)] at hj
  obtain ⟨R, X, hR, hX, rfl⟩ := idx_all false hj
  show atB (flS d N (flS d N c)) (R * N + X) = atB c (R * N + X)
  rw [flS_idx hR hX]
  cases d
  · rfl
  · show atB (turnS N c) (X * N + R) = _
    rw [turnS_at hX hR]
/-- The cells behind a play: of the board, and as the play sees them. -/
def madeS (d : Bool) (N : Nat) (f s : ByteArray) (b : Nat) : ByteArray := flS d N (layS f s b)
theorem lay_ok {N p' : Nat} {p c s f : ByteArray} {r k : Int} {d : Bool} {A B : Nat} (h : Fits N p c r k d s A B f) (hc : c.size = N * N) (hb : p' = A * N + B) : p' + s.size ≤ f.size ∧ f.size = N * N := by
  have h1 : f.size = N * N := by rw [h.f_is]; exact flS_size hc
  have h2 := row_lt (n := N) (r := A) (c := N - 1) h.hA (by have := h.hB; omega)
  have h3 := h.hn
  have h4 := h.hB
  constructor
  · omega
  · exact h1
theorem made_size {N : Nat} {p c s f : ByteArray} {r k : Int} {d : Bool} {A B : Nat} (h : Fits N p c r k d s A B f) (hc : c.size = N * N) : (madeS d N f s (A * N + B)).size = N * N := by
  obtain ⟨h1, h2⟩ := lay_ok h hc rfl
  exact flS_size ((layS_size h1).trans h2)
/-- Bytes that have the letters on the new squares, and else what was there, are the board behind a play. -/
theorem made_is {N : Nat} {p c s f t : ByteArray} {r k : Int} {d : Bool} {A B : Nat} (h : Fits N p c r k d s A B f) (hc : c.size = N * N) (ht : t.size = N * N)
    (hn : ∀ i ∈ frL f (A * N + B) s.size, atB t (idxP d N A (B + i)) = atB s i)
    (ho : ∀ j, j < N * N → (∀ i ∈ frL f (A * N + B) s.size, j ≠ idxP d N A (B + i)) → atB t j = atB c j) : t = madeS d N f s (A * N + B) := by
  obtain ⟨h1, h2⟩ := lay_ok h hc rfl
  refine ext_at (ht.trans (made_size h hc).symm) fun j hj => ?_
  rw [ht] at hj
  obtain ⟨R, X, hR, hX, rfl⟩ := idx_all d hj
  have hz : (layS f s (A * N + B)).size = N * N := (layS_size h1).trans h2
  have e1 : atB (madeS d N f s (A * N + B)) (idxP d N R X) = atB (layS f s (A * N + B)) (R * N + X) := by
    have := flS_idx (d := d) (c := madeS d N f s (A * N + B)) hR hX
    rw [← this]
    unfold madeS
    rw [flS_flS hz]
  rw [e1, layS_at h1]
  have hA := h.hA
  have hN := h.hn
  have e2 : atB c (idxP d N R X) = atB f (R * N + X) := by rw [h.f_is, flS_idx hR hX]
  by_cases hin : A * N + B ≤ R * N + X ∧ R * N + X < A * N + B + s.size
  · rw [if_pos hin]
    obtain ⟨i, hi⟩ : ∃ i, R * N + X = A * N + B + i := ⟨R * N + X - (A * N + B), by omega⟩
    have hil : i < s.size := by omega
    obtain ⟨rfl, rfl⟩ := row_inj hX (show B + i < N by omega) (show R * N + X = A * N + (B + i) by omega)
    rw [show R * N + (B + i) - (R * N + B) = i by omega]
    by_cases hf : i ∈ frL f (R * N + B) s.size
    · exact hn i hf
    · rw [ho _ (idx_lt hR hX), e2]
      · have hs := seeTo_at h.see hil
        unfold seeB at hs
        rw [Bool.or_eq_true] at hs
        rcases hs with hs | hs
        · exact absurd (frL_mem.2 ⟨hil, hs⟩) hf
        · rw [← Nat.add_assoc]; exact beq_iff_eq.1 hs
      · intro i2 hi2 e
        obtain ⟨-, e3⟩ := idx_inj hR hX hR (show B + i2 < N by have := (frL_mem.1 hi2).1; omega) e
        obtain rfl : i = i2 := by omega
        exact hf hi2
  · rw [if_neg hin, ho _ (idx_lt hR hX), e2]
    intro i2 hi2 e
    have h3 := (frL_mem.1 hi2).1
    obtain ⟨rfl, rfl⟩ := idx_inj hR hX hA (show B + i2 < N by omega) e
    exact hin ⟨by omega, by omega⟩

/-! Words across. -/
/-- Where a run of letters begins that ends ahead of R. -/
def upG (g : Nat → UInt8) : Nat → Nat
  | 0 => 0
  | R + 1 => if g R == 46 then R + 1 else upG g R
def dnG (g : Nat → UInt8) : Nat → Nat → Nat
  | 0, r => r
  | k + 1, r => if g r == 46 then r else dnG g k (r + 1)
theorem upG_le (g : Nat → UInt8) : ∀ R, upG g R ≤ R
  | 0 => Nat.le_refl _
  | R + 1 => by
    unfold upG; split
    · exact Nat.le_refl _
    · exact Nat.le_succ_of_le (upG_le g R)
theorem upG_zero (g : Nat → UInt8) : upG g 0 = 0 := rfl
theorem upG_stop {g : Nat → UInt8} {R : Nat} (h : (g R == 46) = true) : upG g (R + 1) = R + 1 := by unfold upG; rw [if_pos h]
theorem upG_go {g : Nat → UInt8} {R : Nat} (h : (g R == 46) = false) : upG g (R + 1) = upG g R := by
  rw [upG]; rw [if_neg]; rw [h]; intro e; cases e
theorem dnG_stop {g : Nat → UInt8} {N r : Nat} (hr : r < N) (h : (g r == 46) = true) : dnG g (N - r) r = r := by
  obtain ⟨k, hk⟩ : ∃ k, N - r = k + 1 := ⟨N - r - 1, by omega⟩
  rw [hk]; unfold dnG; rw [if_pos h]
theorem dnG_go {g : Nat → UInt8} {N r : Nat} (hr : r < N) (h : (g r == 46) = false) : dnG g (N - r) r = dnG g (N - (r + 1)) (r + 1) := by
  obtain ⟨k, hk⟩ : ∃ k, N - r = k + 1 := ⟨N - r - 1, by omega⟩
  rw [hk, show N - (r + 1) = k by omega, dnG, if_neg]
  rw [h]; intro e; cases e
theorem dnG_end (g : Nat → UInt8) (N : Nat) : dnG g (N - N) N = N := by rw [Nat.sub_self]; rfl
/-- The bytes of a line from a place on. -/
def runL (g : Nat → UInt8) (a z : Nat) : List UInt8 := (List.range (z - a)).map fun i => g (a + i)
theorem runL_none (g : Nat → UInt8) (a : Nat) : runL g a a = [] := by simp [runL]
theorem runL_succ {g : Nat → UInt8} {a z : Nat} (h : a ≤ z) : runL g a (z + 1) = runL g a z ++ [g z] := by
  unfold runL
  rw [show z + 1 - a = (z - a) + 1 by omega, List.range_succ, List.map_append]
  simp only [List.map_cons, List.map_nil]
  rw [show a + (z - a) = z by omega]
theorem runL_len (g : Nat → UInt8) (a z : Nat) : (runL g a z).length = z - a := by simp [runL]
/-- The letters through a place of a line. -/
def crossL (g : Nat → UInt8) (N R : Nat) : List UInt8 := runL g (upG g R) (dnG g (N - upG g R) (upG g R))
/-- A column as a play sees it. -/
def colG (N : Nat) (f : ByteArray) (X : Nat) : Nat → UInt8 := fun r => atB f (r * N + X)
def smL (l : List UInt8) : ByteArray := ⟨(l.map smallU).toArray⟩
/-- The words across, as they lie there, and all words that are formed. -/
def crossAll (N : Nat) (f' : ByteArray) (A B : Nat) (fr : List Nat) : List (List UInt8) := fr.map fun i => crossL (colG N f' (B + i)) N A
def wordsP (N : Nat) (f' s : ByteArray) (A B : Nat) (fr : List Nat) : List ByteArray :=
  smL s.data.toList :: ((crossAll N f' A B fr).filter fun l => decide (2 ≤ l.length)).map smL
end Go.Proofs.YtmkdbahdhobdjaaDoor

namespace Go.Proofs.YtmkdbahdhobdjaaDoor
open Go.RowKit Go.Maps Go.Joins

set_option maxRecDepth 100000 in
theorem sq_deep : Tryd.prog.keyTypeAt (Tryd.prog.types.size + 1) 104 = true := by kernel_rfl
theorem sq_wide : (match Tryd.prog.underlying 104 with | some (.array _ _) | some (.struct _) => true | _ => false) = true := by rw [Tryd.underlying104]
theorem sq_row : (104 : TypeId) < Tryd.prog.types.size := of_decide_eq_true (by kernel_rfl)
theorem sq_laid : laidOutB Tryd.prog = true := by kernel_rfl
theorem sq_type : Tryd.prog.keyTypeAt 2 104 = true := by kernel_rfl
set_option maxRecDepth 100000 in
theorem sq_law : Keyed Tryd.prog 104 := Keyed.of_law (deep_law_laid sq_laid (m := 2) (by decide) sq_row sq_type sq_wide)
theorem sq_cells : Tryd.prog.cellsOf 104 = 2 := by kernel_rfl
theorem sq_formed (c0 c1 : Value) : (Value.agg #[c0, c1]).formed Tryd.prog 104 = true := by simp [Value.formed, Tryd.underlying104, sq_cells]
def kq (x : Sq) : Lit := (DataW.agg [DataW.lit (.int .i64 x.1), DataW.lit (.int .i64 x.2)] : DataW Unit).asKey
/-- A square of a board. -/
def SqOk (x : Sq) : Prop := (0 ≤ x.1 ∧ x.1 ≤ 100) ∧ (0 ≤ x.2 ∧ x.2 ≤ 100)
set_option maxRecDepth 100000 in
theorem sq_key (w : World) {x : Sq} (h : SqOk x) : keyOf Tryd.prog 104 (sqV x) = some (kq x) := by
  have wf : ∀ a : Int, 0 ≤ a → a ≤ 100 → (Lit.int .i64 a).wf = true := fun a h0 h1 => WalkArith.wf_i64 (by omega)
  have t : ∀ a : Int, 0 ≤ a → a ≤ 100 → ∃ n, DataW.trod (fun _ => ()) Tryd.prog w 0 (fun _ => true) true n 2 [.int .i64 a] = some (.lit (.int .i64 a), []) := fun a h0 h1 => ⟨1, by simp [DataW.trod, Tryd.underlying2, wf a h0 h1]⟩
  have hd := shut_agg2 (enc := fun _ => ()) (P := Tryd.prog) (w := w) (base := 0) (spare := fun _ => true) (held := true) Tryd.underlying104 (by kernel_rfl) (by kernel_rfl) (t x.1 h.1.1 h.1.2) (t x.2 h.2.1 h.2.2)
  exact (keyOf_asKey sq_deep sq_wide (sq_formed _ _) hd).1
theorem kq_inj (w : World) {x y : Sq} (hx : SqOk x) (hy : SqOk y) (h : kq x = kq y) : x = y := by
  have := sq_law.inj (sq_key w hx) (by rw [h]; exact sq_key w hy)
  unfold sqV at this
  injection this with this
  injection this with this
  injection this with a b
  injection a with _ a
  injection b with b _
  injection b with _ b
  exact Prod.ext a b
theorem kq_lit (w : World) {x : Sq} (h : SqOk x) : WideAt.IsKeyLit (kq x) := sq_law.key (sq_key w h)

/-- The letters of a play on its new squares, in a map. -/
structure LetM (w : World) (g : Nat) (d : Bool) (A B : Nat) (s : ByteArray) (fr : List Nat) (D : DataW Unit) : Prop where
  own : w.ownsMap Tryd.prog 104 (plainElem Tryd.prog 5) g fr.length D
  has : ∀ kl, Maps.has D kl = true → ∃ i ∈ fr, kl = kq (sqOf d A B i)
  here : ∀ i ∈ fr, Maps.has D (kq (sqOf d A B i)) = true ∧ ∀ z, D.atKey (kq (sqOf d A B i)) z = .lit (.int .u8 ((atB s i).toNat : Int))
theorem sqOf_ok {d : Bool} {A B i : Nat} (hA : A ≤ 100) (hB : B + i ≤ 100) : SqOk (sqOf d A B i) := by
  unfold sqOf SqOk
  cases d
  · show ((0 : Int) ≤ (A : Int) ∧ (A : Int) ≤ 100) ∧ ((0 : Int) ≤ ((B + i : Nat) : Int) ∧ ((B + i : Nat) : Int) ≤ 100)
    omega
  · show ((0 : Int) ≤ ((B + i : Nat) : Int) ∧ ((B + i : Nat) : Int) ≤ 100) ∧ ((0 : Int) ≤ (A : Int) ∧ (A : Int) ≤ 100)
    omega
theorem LetM.made (w : World) (d : Bool) (A B : Nat) (s : ByteArray) : LetM (w.alloc (.map #[] 0)) w.heap.size d A B s [] (.map []) :=
  ⟨World.ownsMap_made _ _ _ _, fun kl h => (by cases h), fun i hi => (by cases hi)⟩
theorem LetM.kept {w w' : World} {g : Nat} {d : Bool} {A B : Nat} {s : ByteArray} {fr : List Nat} {D : DataW Unit} {row : Option Nat} (h : LetM w g d A B s fr D) (hg : w.grownBy w' row) (hne : some g ≠ row) : LetM w' g d A B s fr D :=
  ⟨h.own.kept hg hne, h.has, h.here⟩
theorem LetM.below {w w' : World} {g : Nat} {d : Bool} {A B : Nat} {s : ByteArray} {fr : List Nat} {D : DataW Unit} (h : LetM w g d A B s fr D) (hb : Below w.heap.size w w') : LetM w' g d A B s fr D := by
  refine ⟨?_, h.has, h.here⟩
  obtain ⟨es, clock, hm, r⟩ := h.own
  exact ⟨es, clock, (hb.block g (Array.getElem?_eq_some_iff.1 hm).1).trans hm, r⟩
theorem LetM.lt {w : World} {g : Nat} {d : Bool} {A B : Nat} {s : ByteArray} {fr : List Nat} {D : DataW Unit} (h : LetM w g d A B s fr D) : g < w.heap.size := h.own.lt
theorem LetM.put {w w' : World} {g : Nat} {d : Bool} {A B : Nat} {s : ByteArray} {fr : List Nat} {D : DataW Unit} {i : Nat} (h : LetM w g d A B s fr D) (hA : A ≤ 100) (hB : ∀ j ∈ i :: fr, B + j ≤ 100) (hi : i ∉ fr)
    (ho : w'.ownsMap Tryd.prog 104 (plainElem Tryd.prog 5) g (fr.length + 1) (D.put (kq (sqOf d A B i)) (.lit (.int .u8 ((atB s i).toNat : Int))))) :
    LetM w' g d A B s (fr ++ [i]) (D.put (kq (sqOf d A B i)) (.lit (.int .u8 ((atB s i).toNat : Int)))) := by
  have hok : ∀ j ∈ i :: fr, SqOk (sqOf d A B j) := fun j hj => sqOf_ok hA (hB j hj)
  have hne : ∀ j ∈ fr, kq (sqOf d A B j) ≠ kq (sqOf d A B i) := fun j hj e => by
    have := sqOf_inj (kq_inj w (hok j (by simp [hj])) (hok i (by simp)) e)
    subst this
    exact hi hj
  have hm := h.own.isMap
  have hl := kq_lit w (hok i (by simp))
  refine ⟨by rw [List.length_append]; exact ho, fun kl hk => ?_, fun j hj => ?_⟩
  · by_cases e : kl = kq (sqOf d A B i)
    · exact ⟨i, by simp, e⟩
    · rw [has_put_other e] at hk
      obtain ⟨j, hj, e2⟩ := h.has kl hk
      exact ⟨j, by simp [hj], e2⟩
  · rcases List.mem_append.1 hj with hj | hj
    · obtain ⟨h1, h2⟩ := h.here j hj
      exact ⟨by rw [has_put_other (hne j hj)]; exact h1, fun z => by rw [atKey_put_other (hne j hj)]; exact h2 z⟩
    · obtain rfl : j = i := by simpa using hj
      exact ⟨has_put_same hm hl _, fun z => atKey_put_same hm hl _ z⟩

/-! Rows of squares. -/
def sqCells (ls : List Sq) : List Value := ls.flatMap fun x => [.int .i64 x.1, .int .i64 x.2]
theorem sqCells_len : ∀ ls : List Sq, (sqCells ls).length = ls.length * 2
  | [] => rfl
  | x :: r => by
    show ([Value.int .i64 x.1, Value.int .i64 x.2] ++ sqCells r).length = _
    rw [List.length_append, sqCells_len r]
    simp
    omega
theorem sqCells_app (a b : List Sq) : sqCells (a ++ b) = sqCells a ++ sqCells b := by simp [sqCells]
def sqAt (ls : List Sq) (j : Nat) : Sq := ls.getD j (0, 0)
theorem sqCells_at : ∀ (ls : List Sq) (j : Nat), j < ls.length → (sqCells ls)[j * 2]? = some (.int .i64 (sqAt ls j).1) ∧ (sqCells ls)[j * 2 + 1]? = some (.int .i64 (sqAt ls j).2)
  | [], j, h => by cases h
  | x :: r, 0, _ => ⟨rfl, rfl⟩
  | x :: r, j + 1, h => by
    have ih := sqCells_at r j (by simp at h; omega)
    have e : sqCells (x :: r) = [Value.int .i64 x.1, Value.int .i64 x.2] ++ sqCells r := rfl
    have h1 : (j + 1) * 2 = 2 + j * 2 := by omega
    have h2 : (j + 1) * 2 + 1 = 2 + (j * 2 + 1) := by omega
    rw [e, h1]
    refine ⟨?_, ?_⟩
    · rw [List.getElem?_append_right (by simp), show 2 + j * 2 - [Value.int .i64 x.1, Value.int .i64 x.2].length = j * 2 by simp]
      exact ih.1
    · rw [show 2 + j * 2 + 1 = 2 + (j * 2 + 1) by omega, List.getElem?_append_right (by simp), show 2 + (j * 2 + 1) - [Value.int .i64 x.1, Value.int .i64 x.2].length = j * 2 + 1 by simp]
      exact ih.2
/-- A row of squares of the call's own. -/
def OwnQ (B : Nat) (w : World) (v : Value) (ls : List Sq) : Prop := w.ownsRow B 104 2 v ls.length (sqCells ls)
theorem OwnQ.nil (B : Nat) (w : World) : OwnQ B w (.slice none 0 0) [] := World.ownsRow_nil _ _ _ _
theorem OwnQ.form {B : Nat} {w : World} {v : Value} {ls : List Sq} (h : OwnQ B w v ls) :
    ∃ a cap, v = .slice a ls.length cap ∧ ls.length ≤ cap ∧ cap ≤ maxLen ∧ (0 < ls.length → ∃ g, a = some ⟨g, 0, none⟩ ∧ B ≤ g ∧ g < w.heap.size ∧ ∀ j, j < ls.length → w.cell? ⟨g, j * 2, none⟩ = some (.int .i64 (sqAt ls j).1) ∧ w.cell? ⟨g, j * 2 + 1, none⟩ = some (.int .i64 (sqAt ls j).2)) := by
  obtain ⟨h1, h2⟩ := h
  rcases h2 with ⟨rfl, h0⟩ | ⟨g, cap, cur, rfl, hB, hg, hc, hm, hs, ht⟩
  · exact ⟨none, 0, by rw [h0], by omega, by simp, fun h => by omega⟩
  · refine ⟨_, cap, rfl, hc, hm, fun _ => ⟨g, rfl, hB, (Array.getElem?_eq_some_iff.1 hg).1, fun j hj => ?_⟩⟩
    obtain ⟨e1, e2⟩ := sqCells_at ls j hj
    have hb : Blk w g 104 cur := hg
    rw [hb.cells, hb.cells]
    have h3 : ∀ m, m < ls.length * 2 → cur[m]? = (sqCells ls)[m]? := fun m hm2 => by
      rw [← ht, List.getElem?_take_of_lt hm2, Array.getElem?_toList]
    rw [h3 _ (by omega), h3 _ (by omega)]
    exact ⟨e1, e2⟩
theorem OwnQ.kept {B : Nat} {w w' : World} {v : Value} {ls : List Sq} (h : OwnQ B w v ls) (hb : Below w.heap.size w w') : OwnQ B w' v ls := by
  refine ⟨h.1, ?_⟩
  rcases h.2 with h | ⟨g, cap, cur, h1, h2, hg, r⟩
  · exact .inl h
  · exact .inr ⟨g, cap, cur, h1, h2, (hb.block g (Array.getElem?_eq_some_iff.1 hg).1).trans hg, r⟩
theorem newL_len (d : Bool) (A B : Nat) (fr : List Nat) : (newL d A B fr).length = fr.length := by simp [newL]
theorem newL_at {d : Bool} {A B : Nat} {fr : List Nat} {j : Nat} (h : j < fr.length) : sqAt (newL d A B fr) j = sqOf d A B (fr.getD j 0) := by
  unfold sqAt newL
  rw [List.getD_eq_getElem?_getD, List.getElem?_map, List.getElem?_eq_getElem h, List.getD_eq_getElem?_getD, List.getElem?_eq_getElem h]
  rfl
end Go.Proofs.YtmkdbahdhobdjaaDoor
