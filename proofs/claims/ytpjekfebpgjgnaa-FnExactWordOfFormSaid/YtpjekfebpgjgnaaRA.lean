/-
  Plain facts on the lines of a text: the library's lines with their newlines, and the pieces between newlines.
-/
import Derived.Test.YtpjekfebpgjgnaaP1
import Derived.Lib.Bytealg
import Derived.Lib.Strings
namespace Go.Proofs.Ytpjekfebpgjgnaa
open Go.RowKit

/-! ### The lines of a text, each with its newline -/
def lineCut : List UInt8 → List UInt8 × List UInt8
  | [] => ([], [])
  | x :: r => if x = 10 then ([x], r) else (x :: (lineCut r).1, (lineCut r).2)
theorem lineCut_cat : ∀ l, (lineCut l).1 ++ (lineCut l).2 = l
  | [] => rfl
  | x :: r => by
    unfold lineCut
    by_cases h : x = 10
    · rw [if_pos h]; rfl
    · rw [if_neg h]
      show x :: ((lineCut r).1 ++ (lineCut r).2) = x :: r
      rw [lineCut_cat r]
theorem lineCut_one {l : List UInt8} (h : l ≠ []) : 0 < (lineCut l).1.length := by
  cases l with
  | nil => exact absurd rfl h
  | cons x r =>
    unfold lineCut
    by_cases h : x = 10
    · rw [if_pos h]; simp
    · rw [if_neg h]; simp
theorem lineCut_lt {l : List UInt8} (h : l ≠ []) : (lineCut l).2.length < l.length := by
  have h1 := lineCut_one h
  have h2 := congrArg List.length (lineCut_cat l)
  rw [List.length_append] at h2
  omega
def linesF : Nat → List UInt8 → List (List UInt8)
  | 0, _ => []
  | f + 1, l => if l = [] then [] else (lineCut l).1 :: linesF f (lineCut l).2
theorem linesF_nil : ∀ f, linesF f [] = []
  | 0 => rfl
  | f + 1 => by simp [linesF]
theorem linesF_more : ∀ (f g : Nat) (l : List UInt8), l.length ≤ f → l.length ≤ g → linesF f l = linesF g l
  | 0, g, l, hf, _ => by
    obtain rfl : l = [] := List.length_eq_zero_iff.1 (by omega)
    rw [linesF_nil, linesF_nil]
  | f + 1, 0, l, _, hg => by
    obtain rfl : l = [] := List.length_eq_zero_iff.1 (by omega)
    rw [linesF_nil, linesF_nil]
  | f + 1, g + 1, l, hf, hg => by
    unfold linesF
    by_cases h : l = []
    · rw [if_pos h, if_pos h]
    · rw [if_neg h, if_neg h]
      have := lineCut_lt h
      rw [linesF_more f g _ (by omega) (by omega)]
def linesL (l : List UInt8) : List (List UInt8) := linesF l.length l
theorem linesL_nil : linesL [] = [] := rfl
theorem linesL_cons {l : List UInt8} (h : l ≠ []) : linesL l = (lineCut l).1 :: linesL (lineCut l).2 := by
  have hl := lineCut_lt h
  unfold linesL
  cases e : l.length with
  | zero => omega
  | succ n =>
    conv => lhs; unfold linesF
    rw [if_neg h, linesF_more n (lineCut l).2.length _ (by omega) (Nat.le_refl _)]
theorem linesL_flat : ∀ (f : Nat) (l : List UInt8), l.length ≤ f → (linesL l).flatten = l
  | 0, l, hf => by
    obtain rfl : l = [] := List.length_eq_zero_iff.1 (by omega)
    rfl
  | f + 1, l, hf => by
    by_cases h : l = []
    · subst h; rfl
    · have := lineCut_lt h
      rw [linesL_cons h, List.flatten_cons, linesL_flat f _ (by omega), lineCut_cat]
theorem linesL_count : ∀ (f : Nat) (l : List UInt8), l.length ≤ f → (linesL l).length ≤ l.length
  | 0, l, hf => by
    obtain rfl : l = [] := List.length_eq_zero_iff.1 (by omega)
    exact Nat.le_refl _
  | f + 1, l, hf => by
    by_cases h : l = []
    · subst h; exact Nat.le_refl _
    · have := lineCut_lt h
      have ih := linesL_count f (lineCut l).2 (by omega)
      rw [linesL_cons h, List.length_cons]
      omega
theorem linesL_each {l x : List UInt8} (h : x ∈ linesL l) : x.length ≤ l.length := by
  have h1 := linesL_flat l.length l (Nat.le_refl _)
  have h2 : x.length ≤ (linesL l).flatten.length := (List.sublist_flatten_of_mem h).length_le
  rw [h1] at h2
  exact h2

/-! ### The library's index of a newline -/
theorem index_cut : ∀ (l : List UInt8), (Lib.indexByte l 10 = -1 ∧ lineCut l = (l, [])) ∨ (∃ i : Nat, Lib.indexByte l 10 = (i : Int) ∧ i < l.length ∧ lineCut l = (l.take (i + 1), l.drop (i + 1)))
  | [] => .inl ⟨rfl, rfl⟩
  | x :: r => by
    have ih := index_cut r
    by_cases h : x = 10
    · subst h
      refine .inr ⟨0, ?_, by simp, ?_⟩
      · simp [Lib.indexByte]
      · simp [lineCut]
    · rcases ih with ⟨h1, h2⟩ | ⟨i, h1, h2, h3⟩
      · refine .inl ⟨?_, ?_⟩
        · simp [Lib.indexByte, h, h1]
        · simp [lineCut, h, h2]
      · refine .inr ⟨i + 1, ?_, by simp; omega, ?_⟩
        · have : ¬ ((i : Int) = -1) := by omega
          simp [Lib.indexByte, h, h1]
        · simp [lineCut, h, h3]

/-! ### Lists of bytes cut at a byte -/
def splitL (c : UInt8) : List UInt8 → List (List UInt8)
  | [] => [[]]
  | x :: r => if x = c then [] :: splitL c r else
    match splitL c r with
    | [] => [[x]]
    | p :: ps => (x :: p) :: ps
theorem splitL_ne (c : UInt8) : ∀ l, splitL c l ≠ []
  | [] => by simp [splitL]
  | x :: r => by
    unfold splitL
    split
    · simp
    · split <;> simp
theorem splitL_hit (c : UInt8) (r : List UInt8) : splitL c (c :: r) = [] :: splitL c r := by
  conv => lhs; unfold splitL
  rw [if_pos rfl]
theorem splitL_miss {c x : UInt8} (h : x ≠ c) {r p : List UInt8} {ps : List (List UInt8)} (e : splitL c r = p :: ps) : splitL c (x :: r) = (x :: p) :: ps := by
  conv => lhs; unfold splitL
  rw [if_neg h, e]
theorem splitL_free {c : UInt8} : ∀ {a : List UInt8}, c ∉ a → splitL c a = [a]
  | [], _ => rfl
  | x :: r, h => by
    simp only [List.mem_cons, not_or] at h
    exact splitL_miss (fun e => h.1 e.symm) (splitL_free h.2)
theorem splitL_cat {c : UInt8} (b : List UInt8) : ∀ {a : List UInt8}, c ∉ a → splitL c (a ++ c :: b) = a :: splitL c b
  | [], _ => splitL_hit c b
  | x :: r, h => by
    simp only [List.mem_cons, not_or] at h
    exact splitL_miss (fun e => h.1 e.symm) (splitL_cat b h.2)
theorem splitL_snoc_yes (c : UInt8) : ∀ l, splitL c (l ++ [c]) = splitL c l ++ [[]]
  | [] => by simp [splitL]
  | x :: r => by
    have ih := splitL_snoc_yes c r
    by_cases h : x = c
    · subst h
      rw [List.cons_append, splitL_hit, splitL_hit, ih]
      rfl
    · obtain ⟨p, ps, e⟩ : ∃ p ps, splitL c r = p :: ps := by
        cases hh : splitL c r with
        | nil => exact absurd hh (splitL_ne c r)
        | cons p ps => exact ⟨p, ps, rfl⟩
      rw [e] at ih
      rw [List.cons_append, splitL_miss h ih, splitL_miss h e]
      rfl
theorem splitL_snoc_no {c z : UInt8} (hz : z ≠ c) : ∀ l, ∃ ps p, splitL c l = ps ++ [p] ∧ splitL c (l ++ [z]) = ps ++ [p ++ [z]]
  | [] => ⟨[], [], rfl, by rw [List.nil_append, splitL_miss hz (rfl : splitL c [] = [] :: [])]; rfl⟩
  | x :: r => by
    obtain ⟨ps, p, e1, e2⟩ := splitL_snoc_no hz r
    by_cases h : x = c
    · subst h
      exact ⟨[] :: ps, p, by rw [splitL_hit, e1]; rfl, by rw [List.cons_append, splitL_hit, e2]; rfl⟩
    · cases ps with
      | nil => exact ⟨[], x :: p, splitL_miss h e1, by rw [List.cons_append, splitL_miss h e2]; rfl⟩
      | cons q qs => exact ⟨(x :: q) :: qs, p, splitL_miss h e1, by rw [List.cons_append, splitL_miss h e2]; rfl⟩
theorem ext_listY (s : ByteArray) (a b : Nat) : (s.extract a b).data.toList = (s.data.toList.take b).drop a := by
  simp [ByteArray.data_extract, List.extract_eq_take_drop, List.drop_take]
theorem take_snocY {l : List UInt8} {k : Nat} (h : k < l.length) : l.take (k + 1) = l.take k ++ [l[k]] := List.take_succ_eq_append_getElem h
/-- The cuts of a text, as lists. -/
theorem cut_split (s : ByteArray) (c : UInt8) : ∀ k, k ≤ s.size →
    ((cutTo s (c.toNat : Int) k).1.map fun x => (s.extract x.1 x.2).data.toList) ++ [(s.data.toList.take k).drop (cutTo s (c.toNat : Int) k).2] = splitL c (s.data.toList.take k)
  | 0, _ => by simp [cutTo, splitL]
  | k + 1, hk => by
    have ih := cut_split s c k (by omega)
    have hl : k < s.data.toList.length := by simp; omega
    have hb := byteAt_eq s k (by omega)
    have hx : s.data.toList[k] = s[k]'(by omega) := rfl
    have hle := (cut_le s (c.toNat : Int) k).1
    rw [take_snocY hl]
    by_cases h : s.data.toList[k] = c
    · have hc : byteAt s.data.toList k = (c.toNat : Int) := by rw [hb, ← hx, h]
      rw [cutTo_yes hc, h, splitL_snoc_yes, ← ih, List.map_append, List.map_singleton, ext_listY]
      congr 2
      rw [List.drop_eq_nil_of_le]
      simp
      omega
    · have hc : ¬ byteAt s.data.toList k = (c.toNat : Int) := by
        rw [hb, ← hx]
        intro e
        exact h (UInt8.toNat_inj.1 (by omega))
      obtain ⟨ps, p, e1, e2⟩ := splitL_snoc_no h (s.data.toList.take k)
      rw [e1] at ih
      obtain ⟨i1, i2⟩ := List.append_inj' ih rfl
      rw [cutTo_no hc, e2, i1, List.drop_append_of_le_length (by simp; omega)]
      simp only [List.cons.injEq, and_true] at i2
      rw [i2]
theorem cuts_split (s : ByteArray) (c : UInt8) : ((cuts s (c.toNat : Int)).map fun x => (s.extract x.1 x.2).data.toList) = splitL c s.data.toList := by
  have h := cut_split s c s.size (Nat.le_refl _)
  have e : s.data.toList.take s.size = s.data.toList := List.take_of_length_le (by simp)
  rw [e] at h
  rw [← h]
  unfold cuts
  rw [List.map_append, List.map_singleton, ext_listY, e]

/-! ### Texts of lines -/
def nlText (ps : List (List UInt8)) : List UInt8 := (ps.map (· ++ [10])).flatten
theorem nlText_cons (p : List UInt8) (ps : List (List UInt8)) : nlText (p :: ps) = p ++ 10 :: nlText ps := by simp [nlText]
theorem split_nlText : ∀ {ps : List (List UInt8)}, (∀ p ∈ ps, (10 : UInt8) ∉ p) → splitL 10 (nlText ps) = ps ++ [[]]
  | [], _ => rfl
  | p :: ps, h => by
    rw [nlText_cons, splitL_cat _ (h p (by simp)), split_nlText (fun q hq => h q (by simp [hq]))]
    rfl
theorem lineCut_free {r : List UInt8} : ∀ {p : List UInt8}, (10 : UInt8) ∉ p → lineCut (p ++ 10 :: r) = (p ++ [10], r)
  | [], _ => by simp [lineCut]
  | x :: p, h => by
    simp only [List.mem_cons, not_or] at h
    have hx : ¬ x = 10 := fun e => h.1 e.symm
    simp [lineCut, hx, lineCut_free (r := r) h.2]
theorem lines_nlText : ∀ {ps : List (List UInt8)}, (∀ p ∈ ps, (10 : UInt8) ∉ p) → linesL (nlText ps) = ps.map (· ++ [10])
  | [], _ => rfl
  | p :: ps, h => by
    rw [nlText_cons, linesL_cons (by simp), lineCut_free (h p (by simp)), lines_nlText (fun q hq => h q (by simp [hq]))]
    rfl
/-- A text whose last piece is empty is its other pieces, each ended by a newline. -/
theorem nlText_split : ∀ {l : List UInt8} {ps : List (List UInt8)}, splitL 10 l = ps ++ [[]] → nlText ps = l
  | [], ps, h => by
    rw [show splitL 10 [] = [[]] from rfl] at h
    cases ps with
    | nil => rfl
    | cons p ps => simp at h
  | x :: r, ps, h => by
    by_cases hx : x = 10
    · subst hx
      rw [splitL_hit] at h
      cases ps with
      | nil =>
        simp at h
        exact absurd h (splitL_ne 10 r)
      | cons p ps =>
        simp only [List.cons_append, List.cons.injEq] at h
        rw [nlText_cons, nlText_split h.2, ← h.1]
        rfl
    · obtain ⟨q, qs, e⟩ : ∃ q qs, splitL 10 r = q :: qs := by
        cases hh : splitL 10 r with
        | nil => exact absurd hh (splitL_ne 10 r)
        | cons q qs => exact ⟨q, qs, rfl⟩
      rw [splitL_miss hx e] at h
      cases ps with
      | nil => simp at h
      | cons p ps =>
        simp only [List.cons_append, List.cons.injEq] at h
        have ih := nlText_split (l := r) (ps := q :: ps) (by rw [e, h.2]; rfl)
        rw [nlText_cons, ← h.1, ← ih, nlText_cons]
        rfl
/-- A line without its newline. -/
def chop (x : List UInt8) : List UInt8 := Lib.trimSuffix x [10]
theorem chop_nl (p : List UInt8) : chop (p ++ [10]) = p := by
  have h : Lib.hasSuffix (p ++ [10]) [10] = true := by
    unfold Lib.hasSuffix
    rw [List.isSuffixOf_iff_suffix]
    exact List.suffix_append _ _
  unfold chop Lib.trimSuffix
  rw [if_pos h]
  simp
theorem chop_lines {ps : List (List UInt8)} (h : ∀ p ∈ ps, (10 : UInt8) ∉ p) : (linesL (nlText ps)).map chop = ps := by
  rw [lines_nlText h, List.map_map]
  conv => rhs; rw [← List.map_id ps]
  exact List.map_congr_left fun p _ => chop_nl p
/-- What the program reads (its lines are good, and their text is the whole), and what the model reads (the last piece is empty, and the others are good). -/
theorem read_same (good : List (List UInt8) → Bool) (hg : ∀ ps, good ps = true → ∀ p ∈ ps, (10 : UInt8) ∉ p) (l : List UInt8) (ps : List (List UInt8)) :
    (good ps = true ∧ splitL 10 l = ps ++ [[]]) ↔ ((linesL l).map chop = ps ∧ good ps = true ∧ nlText ps = l) := by
  constructor
  · rintro ⟨h1, h2⟩
    have h3 := nlText_split h2
    exact ⟨by rw [← h3]; exact chop_lines (hg ps h1), h1, h3⟩
  · rintro ⟨_, h1, h3⟩
    exact ⟨h1, by rw [← h3]; exact split_nlText (hg ps h1)⟩

end Go.Proofs.Ytpjekfebpgjgnaa
