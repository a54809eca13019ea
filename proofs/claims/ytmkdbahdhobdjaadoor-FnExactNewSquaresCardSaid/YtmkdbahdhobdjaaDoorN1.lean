/-
  Plain facts on piles of tiles: kinds, counts, order, what is left and what is common; no program in sight.
-/
import Derived.Test.YtmkdbahdhobdjaaDoorB
namespace Go.Proofs.YtmkdbahdhobdjaaDoor
open Go.RowKit

/-- A number is the code of a tile. -/
def tileB (c : Int) : Bool := decide (c = 63) || smallB c
/-- The kind of a byte's number; -1 for no tile. -/
def kindI (c : Int) : Int := if c = 63 then 0 else if smallB c = true then c - 96 else -1
/-- The kind of a tile. -/
def kindN (c : UInt8) : Nat := (kindI (c.toNat : Int)).toNat
/-- The tile of a kind. -/
def tileOf (k : Nat) : UInt8 := if k = 0 then 63 else UInt8.ofNat (96 + k)
/-- Every byte is a tile. -/
def allTiles (l : List UInt8) : Bool := l.all fun c => tileB (c.toNat : Int)
theorem tileB_iff {c : Int} : tileB c = true ↔ c = 63 ∨ (97 ≤ c ∧ c ≤ 122) := by simp [tileB, smallB_iff]
theorem kindI_no {c : Int} (h : tileB c = false) : kindI c = -1 := by
  unfold kindI
  have h1 : ¬ (c = 63 ∨ (97 ≤ c ∧ c ≤ 122)) := fun e => by rw [tileB_iff.2 e] at h; cases h
  rw [if_neg (fun e => h1 (.inl e)), if_neg (fun e => h1 (.inr (smallB_iff.1 e)))]
theorem kindI_yes {c : Int} (h : tileB c = true) : 0 ≤ kindI c ∧ kindI c ≤ 26 := by
  rw [tileB_iff] at h
  unfold kindI
  by_cases h1 : c = 63
  · rw [if_pos h1]; omega
  · rw [if_neg h1, if_pos (smallB_iff.2 (by omega))]; omega
theorem kindI_small {c : Int} (h : smallB c = true) : kindI c = c - 96 := by
  rw [smallB_iff] at h
  unfold kindI
  rw [if_neg (by omega), if_pos (smallB_iff.2 h)]
theorem tileOf_nat {k : Nat} (h : k < 27) : (tileOf k).toNat = if k = 0 then 63 else 96 + k := by
  unfold tileOf
  split
  · rfl
  · rw [UInt8.toNat_ofNat']; omega
theorem tileOf_kind {c : UInt8} (h : tileB (c.toNat : Int) = true) : tileOf (kindN c) = c := by
  have hk := kindI_yes h
  rw [tileB_iff] at h
  apply UInt8.toNat_inj.1
  unfold kindN
  rw [tileOf_nat (by omega)]
  unfold kindI at hk ⊢
  by_cases h1 : (c.toNat : Int) = 63
  · rw [if_pos h1]; simp; omega
  · have h2 : smallB (c.toNat : Int) = true := smallB_iff.2 (by omega)
    rw [if_neg h1, if_pos h2]
    rw [if_neg (by omega)]
    omega
theorem kind_tileOf {k : Nat} (h : k < 27) : kindN (tileOf k) = k := by
  unfold kindN kindI
  rw [tileOf_nat h]
  by_cases h0 : k = 0
  · subst h0; rfl
  · rw [if_neg h0, if_neg (by omega), if_pos (smallB_iff.2 (by omega))]
    omega
theorem tileOf_tile {k : Nat} (h : k < 27) : tileB ((tileOf k).toNat : Int) = true := by
  rw [tileB_iff, tileOf_nat h]
  by_cases h0 : k = 0
  · subst h0; left; rfl
  · rw [if_neg h0]; right; omega
theorem kindN_lt {c : UInt8} (h : tileB (c.toNat : Int) = true) : kindN c < 27 := by
  have := kindI_yes h
  unfold kindN
  omega
theorem tileOf_lt {j k : Nat} (h : j < k) (hk : k < 27) : tileOf j < tileOf k := by
  rw [UInt8.lt_iff_toNat_lt, tileOf_nat (by omega), tileOf_nat hk]
  split <;> split <;> omega
theorem tileOf_inj {j k : Nat} (hj : j < 27) (hk : k < 27) (h : tileOf j = tileOf k) : j = k := by
  have := congrArg kindN h
  rwa [kind_tileOf hj, kind_tileOf hk] at this

/-! ### Order -/
/-- In ascending order of bytes. -/
def Asc (l : List UInt8) : Prop := l.Pairwise (· ≤ ·)
instance (l : List UInt8) : Decidable (Asc l) := inferInstanceAs (Decidable (l.Pairwise (· ≤ ·)))
theorem asc_uniq {a b : List UInt8} (hp : a.Perm b) (ha : Asc a) (hb : Asc b) : a = b :=
  hp.eq_of_pairwise (fun _ _ _ _ h1 h2 => UInt8.le_antisymm h1 h2) ha hb
theorem asc_nil : Asc [] := List.Pairwise.nil
theorem asc_one (c : UInt8) : Asc [c] := by simp [Asc]
theorem asc_snoc {t : List UInt8} {c : UInt8} (h : Asc t) (hc : ∀ x ∈ t, x ≤ c) : Asc (t ++ [c]) := by
  unfold Asc
  rw [List.pairwise_append]
  exact ⟨h, by simp, fun x hx y hy => by rw [List.mem_singleton] at hy; subst hy; exact hc x hx⟩
theorem asc_last {t : List UInt8} {y : UInt8} (h : Asc (t ++ [y])) : ∀ x ∈ t ++ [y], x ≤ y := by
  unfold Asc at h
  rw [List.pairwise_append] at h
  intro x hx
  rcases List.mem_append.1 hx with hx | hx
  · exact h.2.2 x hx y (by simp)
  · rw [List.mem_singleton] at hx; subst hx; exact UInt8.le_refl _
theorem asc_left {a b : List UInt8} (h : Asc (a ++ b)) : Asc a := (List.pairwise_append.1 h).1
theorem asc_right {a b : List UInt8} (h : Asc (a ++ b)) : Asc b := (List.pairwise_append.1 h).2.1
theorem asc_mid {a b : List UInt8} (h : Asc (a ++ b)) {x y : UInt8} (hx : x ∈ a) (hy : y ∈ b) : x ≤ y := (List.pairwise_append.1 h).2.2 x hx y hy
theorem asc_sub {a b : List UInt8} (hs : a.Sublist b) (h : Asc b) : Asc a := List.Pairwise.sublist hs h

/-! ### Counts, and the pile of counts -/
/-- How many tiles of a kind. -/
def cnt (l : List UInt8) (k : Nat) : Nat := l.count (tileOf k)
/-- The pile with so many tiles of the first n kinds. -/
def pileN (f : Nat → Nat) : Nat → List UInt8
  | 0 => []
  | n + 1 => pileN f n ++ List.replicate (f n) (tileOf n)
theorem pileN_mem {f : Nat → Nat} {x : UInt8} : ∀ {n : Nat}, x ∈ pileN f n → ∃ j, j < n ∧ x = tileOf j
  | 0, h => by simp [pileN] at h
  | n + 1, h => by
    rcases List.mem_append.1 h with h | h
    · obtain ⟨j, hj, e⟩ := pileN_mem h
      exact ⟨j, by omega, e⟩
    · exact ⟨n, by omega, (List.mem_replicate.1 h).2⟩
theorem pileN_asc (f : Nat → Nat) : ∀ {n : Nat}, n ≤ 27 → Asc (pileN f n)
  | 0, _ => asc_nil
  | n + 1, h => by
    unfold Asc pileN
    rw [List.pairwise_append]
    refine ⟨pileN_asc f (by omega), List.pairwise_replicate.2 (.inr (UInt8.le_refl _)), fun x hx y hy => ?_⟩
    obtain ⟨j, hj, rfl⟩ := pileN_mem hx
    rw [(List.mem_replicate.1 hy).2]
    exact UInt8.le_of_lt (tileOf_lt hj (by omega))
theorem pileN_count (f : Nat → Nat) {j : Nat} (hj : j < 27) : ∀ {n : Nat}, n ≤ 27 → (pileN f n).count (tileOf j) = if j < n then f j else 0
  | 0, _ => by simp [pileN]
  | n + 1, h => by
    unfold pileN
    rw [List.count_append, pileN_count f hj (by omega : n ≤ 27), List.count_replicate]
    by_cases h1 : j = n
    · subst h1; simp
    · have h2 : (tileOf n == tileOf j) = false := by
        rw [beq_eq_false_iff_ne]
        exact fun e => h1 (tileOf_inj hj (by omega) e.symm)
      rw [h2]
      by_cases h3 : j < n
      · rw [if_pos h3, if_pos (show j < n + 1 by omega)]; simp
      · rw [if_neg h3, if_neg (show ¬ j < n + 1 by omega)]; simp
theorem pileN_other (f : Nat → Nat) {c : UInt8} (hc : tileB (c.toNat : Int) = false) {n : Nat} (hn : n ≤ 27) : (pileN f n).count c = 0 := by
  rw [List.count_eq_zero]
  intro h
  obtain ⟨j, hj, rfl⟩ := pileN_mem h
  rw [tileOf_tile (by omega)] at hc
  cases hc
theorem pileN_tiles (f : Nat → Nat) {n : Nat} (hn : n ≤ 27) : allTiles (pileN f n) = true := by
  unfold allTiles
  rw [List.all_eq_true]
  intro x hx
  obtain ⟨j, hj, rfl⟩ := pileN_mem hx
  exact tileOf_tile (by omega)
theorem pileN_congr {f g : Nat → Nat} : ∀ {n : Nat}, (∀ k, k < n → f k = g k) → pileN f n = pileN g n
  | 0, _ => rfl
  | n + 1, h => by
    unfold pileN
    rw [pileN_congr (fun k hk => h k (by omega)), h n (by omega)]
theorem tiles_mem {l : List UInt8} (h : allTiles l = true) {c : UInt8} (hc : c ∈ l) : tileB (c.toNat : Int) = true := by
  unfold allTiles at h
  rw [List.all_eq_true] at h
  exact h c hc
theorem tiles_other {l : List UInt8} (h : allTiles l = true) {c : UInt8} (hc : tileB (c.toNat : Int) = false) : l.count c = 0 := by
  rw [List.count_eq_zero]
  intro hm
  rw [tiles_mem h hm] at hc
  cases hc
/-- Two lists of tiles with the same counts have the same elements. -/
theorem perm_of_cnt {a b : List UInt8} (ha : allTiles a = true) (hb : allTiles b = true) (h : ∀ k, k < 27 → cnt a k = cnt b k) : a.Perm b := by
  rw [List.perm_iff_count]
  intro c
  cases hc : tileB (c.toNat : Int)
  · rw [tiles_other ha hc, tiles_other hb hc]
  · have := h (kindN c) (kindN_lt hc)
    unfold cnt at this
    rwa [tileOf_kind hc] at this
theorem cnt_pileN (f : Nat → Nat) {k : Nat} (hk : k < 27) : cnt (pileN f 27) k = f k := by
  unfold cnt
  rw [pileN_count f hk (Nat.le_refl _), if_pos hk]
/-- The pile of a list's counts is the list in order. -/
theorem pile_perm {l : List UInt8} (h : allTiles l = true) : (pileN (cnt l) 27).Perm l :=
  perm_of_cnt (pileN_tiles _ (Nat.le_refl _)) h fun _ hk => cnt_pileN _ hk
theorem pile_of_asc {l : List UInt8} (h : allTiles l = true) (ha : Asc l) : pileN (cnt l) 27 = l :=
  asc_uniq (pile_perm h) (pileN_asc _ (Nat.le_refl _)) ha
theorem asc_of_pile {l : List UInt8} (h : pileN (cnt l) 27 = l) : Asc l := by
  rw [← h]
  exact pileN_asc _ (Nat.le_refl _)
theorem pile_unique {l : List UInt8} {f : Nat → Nat} (h : allTiles l = true) (ha : Asc l) (hf : ∀ k, k < 27 → cnt l k = f k) : l = pileN f 27 := by
  rw [← pile_of_asc h ha]
  exact pileN_congr hf
theorem cnt_snoc (l : List UInt8) (c : UInt8) (k : Nat) : cnt (l ++ [c]) k = cnt l k + if c = tileOf k then 1 else 0 := by
  unfold cnt
  rw [List.count_append, List.count_singleton]
  by_cases h : c = tileOf k <;> simp [h]
theorem cnt_snoc_kind (l : List UInt8) {c : UInt8} (hc : tileB (c.toNat : Int) = true) {k : Nat} (hk : k < 27) : cnt (l ++ [c]) k = if k = kindN c then cnt l k + 1 else cnt l k := by
  rw [cnt_snoc]
  by_cases h : k = kindN c
  · subst h; rw [if_pos rfl, if_pos (tileOf_kind hc).symm]
  · rw [if_neg h, if_neg (fun e => h (by rw [e, kind_tileOf hk]))]; rfl
theorem cnt_append (a b : List UInt8) (k : Nat) : cnt (a ++ b) k = cnt a k + cnt b k := by simp [cnt, List.count_append]
theorem cnt_le (l : List UInt8) (k : Nat) : cnt l k ≤ l.length := List.count_le_length

/-- A text is a pile. -/
def pileB (l : List UInt8) : Bool := allTiles l && decide (Asc l) && decide (l.length ≤ 120)
theorem pileB_iff {l : List UInt8} : pileB l = true ↔ allTiles l = true ∧ Asc l ∧ l.length ≤ 120 := by
  simp [pileB, and_assoc]

/-! ### What is left of a pile, and what two piles have in common -/
/-- Walking along a pile and striking what another one has: what is left, and what was not found. -/
def takeL : List UInt8 → List UInt8 → List UInt8 × List UInt8
  | [], b => ([], b)
  | x :: a, [] => (x :: (takeL a []).1, (takeL a []).2)
  | x :: a, y :: b => if y = x then takeL a b else (x :: (takeL a (y :: b)).1, (takeL a (y :: b)).2)
theorem takeL_parts : ∀ a b : List UInt8, ∃ u, b = u ++ (takeL a b).2 ∧ a.Perm ((takeL a b).1 ++ u) ∧ (takeL a b).1.Sublist a
  | [], b => ⟨[], by simp [takeL], by simp [takeL], by simp [takeL]⟩
  | x :: a, [] => by
    obtain ⟨u, h1, h2, h3⟩ := takeL_parts a []
    refine ⟨u, h1, ?_, ?_⟩
    · simp only [takeL]; exact List.Perm.cons x h2
    · simp only [takeL]; exact List.Sublist.cons_cons x h3
  | x :: a, y :: b => by
    by_cases h : y = x
    · subst h
      obtain ⟨u, h1, h2, h3⟩ := takeL_parts a b
      simp only [takeL, if_pos]
      refine ⟨y :: u, by rw [List.cons_append, ← h1], ?_, h3.cons y⟩
      exact (List.Perm.cons y h2).trans List.perm_middle.symm
    · obtain ⟨u, h1, h2, h3⟩ := takeL_parts a (y :: b)
      simp only [takeL, if_neg h]
      exact ⟨u, h1, List.Perm.cons x h2, List.Sublist.cons_cons x h3⟩
theorem takeL_all : ∀ a b : List UInt8, Asc a → Asc b → (∀ c, b.count c ≤ a.count c) → (takeL a b).2 = []
  | [], b, _, _, h => by
    cases b with
    | nil => rfl
    | cons y b => have := h y; simp at this
  | x :: a, [], ha, _, _ => by
    simp only [takeL]
    exact takeL_all a [] (List.pairwise_cons.1 ha).2 asc_nil (fun c => by simp)
  | x :: a, y :: b, ha, hb, h => by
    have ha' : Asc a := (List.pairwise_cons.1 ha).2
    have hb' : Asc b := (List.pairwise_cons.1 hb).2
    by_cases e : y = x
    · subst e
      simp only [takeL, if_pos]
      refine takeL_all a b ha' hb' (fun c => ?_)
      have := h c
      rw [List.count_cons, List.count_cons] at this
      omega
    · simp only [takeL, if_neg e]
      refine takeL_all a (y :: b) ha' hb (fun c => ?_)
      have hy : y ∈ a := by
        have h1 := h y
        rw [List.count_cons_self] at h1
        have h2 : y ∈ x :: a := List.count_pos_iff.1 (by omega)
        rcases List.mem_cons.1 h2 with h2 | h2
        · exact absurd h2 e
        · exact h2
      have hxy : x ≤ y := (List.pairwise_cons.1 ha).1 y hy
      by_cases hc : c = x
      · subst hc
        have : (y :: b).count c = 0 := by
          rw [List.count_eq_zero]
          intro hm
          rcases List.mem_cons.1 hm with hm | hm
          · exact e hm.symm
          · exact e (UInt8.le_antisymm ((List.pairwise_cons.1 hb).1 c hm) hxy)
        omega
      · have := h c
        rw [List.count_cons_of_ne (fun e => hc e.symm)] at this
        exact this
/-- A list contains another one. -/
def hasAll (a b : List UInt8) : Bool := (List.range 27).all fun k => decide (cnt b k ≤ cnt a k)
theorem hasAll_iff {a b : List UInt8} : hasAll a b = true ↔ ∀ k, k < 27 → cnt b k ≤ cnt a k := by simp [hasAll]
theorem takeL_has {a b : List UInt8} (_ta : allTiles a = true) (tb : allTiles b = true) (ha : Asc a) (hb : Asc b) : ((takeL a b).2 = []) ↔ hasAll a b = true := by
  rw [hasAll_iff]
  constructor
  · intro h k _
    obtain ⟨u, h1, h2, _⟩ := takeL_parts a b
    rw [h, List.append_nil] at h1
    unfold cnt
    rw [h2.count_eq, List.count_append, ← h1]
    omega
  · intro h
    refine takeL_all a b ha hb (fun c => ?_)
    cases hc : tileB (c.toNat : Int)
    · rw [tiles_other tb hc]; omega
    · have := h (kindN c) (kindN_lt hc)
      unfold cnt at this
      rwa [tileOf_kind hc] at this
theorem tiles_sub {a b : List UInt8} (hs : a.Sublist b) (h : allTiles b = true) : allTiles a = true := by
  unfold allTiles at h ⊢
  rw [List.all_eq_true] at h ⊢
  exact fun x hx => h x (hs.subset hx)
theorem takeL_out {a b : List UInt8} (ta : allTiles a = true) (ha : Asc a) (h : (takeL a b).2 = []) : (takeL a b).1 = pileN (fun k => cnt a k - cnt b k) 27 := by
  obtain ⟨u, h1, h2, h3⟩ := takeL_parts a b
  rw [h, List.append_nil] at h1
  refine pile_unique (tiles_sub h3 ta) (asc_sub h3 ha) (fun k _ => ?_)
  have : cnt a k = cnt (takeL a b).1 k + cnt b k := by
    unfold cnt
    rw [h2.count_eq, List.count_append, ← h1]
  omega
theorem takeL_len (a b : List UInt8) : (takeL a b).1.length ≤ a.length := by
  obtain ⟨u, _, _, h3⟩ := takeL_parts a b
  exact h3.length_le

/-- Walking along two piles: what both have. -/
def bothL : List UInt8 → List UInt8 → List UInt8
  | [], _ => []
  | _ :: _, [] => []
  | x :: a, y :: b => if x < y then bothL a (y :: b) else if y < x then bothL (x :: a) b else x :: bothL a b
  termination_by a b => a.length + b.length
theorem bothL_nil (a : List UInt8) : bothL a [] = [] := by cases a <;> simp [bothL]
theorem bothL_sub (a b : List UInt8) : (bothL a b).Sublist a := by
  induction a, b using bothL.induct with
  | case1 b => simp [bothL]
  | case2 x a => simp [bothL]
  | case3 x a y b h ih => rw [bothL, if_pos h]; exact ih.cons x
  | case4 x a y b h1 h2 ih => rw [bothL, if_neg h1, if_pos h2]; exact ih
  | case5 x a y b h1 h2 ih => rw [bothL, if_neg h1, if_neg h2]; exact List.Sublist.cons_cons x ih
theorem asc_head {x c : UInt8} {a : List UInt8} (h : Asc (x :: a)) (hc : c < x) : (x :: a).count c = 0 := by
  rw [List.count_eq_zero]
  intro hm
  have h1 := (List.pairwise_cons.1 h).1
  rw [UInt8.lt_iff_toNat_lt] at hc
  rcases List.mem_cons.1 hm with hm | hm
  · subst hm; omega
  · have := h1 c hm; rw [UInt8.le_iff_toNat_le] at this; omega
theorem bothL_count (a b : List UInt8) (ha : Asc a) (hb : Asc b) (c : UInt8) : (bothL a b).count c = min (a.count c) (b.count c) := by
  induction a, b using bothL.induct with
  | case1 b => simp [bothL]
  | case2 x a => simp [bothL]
  | case3 x a y b h ih =>
    rw [bothL, if_pos h, ih (List.pairwise_cons.1 ha).2 hb]
    by_cases hc : x = c
    · subst hc; rw [asc_head hb h]; simp
    · rw [List.count_cons_of_ne hc]
  | case4 x a y b h1 h2 ih =>
    rw [bothL, if_neg h1, if_pos h2, ih ha (List.pairwise_cons.1 hb).2]
    by_cases hc : y = c
    · subst hc; rw [asc_head ha h2]; simp
    · rw [List.count_cons_of_ne hc]
  | case5 x a y b h1 h2 ih =>
    have e : x = y := by
      apply UInt8.toNat_inj.1
      rw [UInt8.lt_iff_toNat_lt] at h1 h2
      omega
    subst e
    rw [bothL, if_neg h1, if_neg h2, List.count_cons, List.count_cons, List.count_cons, ih (List.pairwise_cons.1 ha).2 (List.pairwise_cons.1 hb).2]
    split <;> omega
theorem bothL_pile {a b : List UInt8} (ta : allTiles a = true) (ha : Asc a) (hb : Asc b) : bothL a b = pileN (fun k => min (cnt a k) (cnt b k)) 27 :=
  pile_unique (tiles_sub (bothL_sub a b) ta) (asc_sub (bothL_sub a b) ha) (fun k _ => bothL_count a b ha hb (tileOf k))

/-! ### Putting a byte to its place -/
/-- A list with a byte laid in at a place. -/
def hole (o : List UInt8) (k : Nat) (y : UInt8) : List UInt8 := o.take k ++ y :: o.drop k
theorem hole_len (o : List UInt8) (k : Nat) (y : UInt8) (h : k ≤ o.length) : (hole o k y).length = o.length + 1 := by
  unfold hole
  rw [List.length_append, List.length_cons, List.length_take, List.length_drop]
  omega
theorem hole_last (o : List UInt8) (y : UInt8) : hole o o.length y = o ++ [y] := by simp [hole]
theorem hole_set (o : List UInt8) (k : Nat) (y z : UInt8) (h : k ≤ o.length) : (hole o k y).set k z = hole o k z := by
  unfold hole
  rw [List.set_append_right _ _ (by rw [List.length_take]; omega), List.length_take, Nat.min_eq_left h, Nat.sub_self, List.set_cons_zero]
theorem hole_prev (o : List UInt8) (k : Nat) (y : UInt8) (h : k + 1 ≤ o.length) : (hole o (k + 1) y)[k]? = o[k]? := by
  unfold hole
  rw [List.getElem?_append_left (by rw [List.length_take]; omega), List.getElem?_take_of_lt (by omega)]
theorem hole_step (o : List UInt8) (k : Nat) (z : UInt8) (hz : o[k]? = some z) : hole o (k + 1) z = hole o k z := by
  have hk : k < o.length := by
    rcases Nat.lt_or_ge k o.length with h | h
    · exact h
    · rw [List.getElem?_eq_none h] at hz; cases hz
  have e : o[k]'hk = z := by rw [List.getElem?_eq_getElem hk] at hz; exact Option.some.inj hz
  unfold hole
  rw [List.take_succ_eq_append_getElem hk, e, List.append_assoc]
  have : o.drop k = z :: o.drop (k + 1) := by rw [List.drop_eq_getElem_cons hk, e]
  rw [this]
  rfl
theorem hole_perm (o : List UInt8) (k : Nat) (c : UInt8) : (hole o k c).Perm (o ++ [c]) := by
  unfold hole
  have h1 : (o.take k ++ c :: o.drop k).Perm (c :: (o.take k ++ o.drop k)) := List.perm_middle
  rw [List.take_append_drop] at h1
  exact h1.trans (List.perm_append_singleton c o).symm
theorem hole_asc {o : List UInt8} {k : Nat} {c : UInt8} (ho : Asc o) (h1 : ∀ x ∈ o.take k, x ≤ c) (h2 : ∀ x ∈ o.drop k, c ≤ x) : Asc (hole o k c) := by
  have hs : Asc (o.take k ++ o.drop k) := by rw [List.take_append_drop]; exact ho
  unfold Asc hole
  rw [List.pairwise_append, List.pairwise_cons]
  refine ⟨asc_left hs, ⟨h2, asc_right hs⟩, fun x hx y hy => ?_⟩
  rcases List.mem_cons.1 hy with rfl | hy
  · exact h1 x hx
  · exact asc_mid hs hx hy
theorem take_le {o : List UInt8} {k : Nat} {c z : UInt8} (ho : Asc o) (hz : o[k]? = some z) (hc : z ≤ c) : ∀ x ∈ o.take (k + 1), x ≤ c := by
  have hk : k < o.length := by
    rcases Nat.lt_or_ge k o.length with h | h
    · exact h
    · rw [List.getElem?_eq_none h] at hz; cases hz
  have e : o[k]'hk = z := by rw [List.getElem?_eq_getElem hk] at hz; exact Option.some.inj hz
  intro x hx
  have h1 : Asc (o.take k ++ [z]) := by
    have := asc_sub (List.take_sublist (k + 1) o) ho
    rwa [List.take_succ_eq_append_getElem hk, e] at this
  rw [List.take_succ_eq_append_getElem hk, e] at hx
  exact UInt8.le_trans (asc_last h1 x hx) hc
theorem drop_ge {o : List UInt8} {k : Nat} {c z : UInt8} (hz : o[k]? = some z) (hc : c ≤ z) (h : ∀ x ∈ o.drop (k + 1), c ≤ x) : ∀ x ∈ o.drop k, c ≤ x := by
  have hk : k < o.length := by
    rcases Nat.lt_or_ge k o.length with h | h
    · exact h
    · rw [List.getElem?_eq_none h] at hz; cases hz
  have e : o[k]'hk = z := by rw [List.getElem?_eq_getElem hk] at hz; exact Option.some.inj hz
  intro x hx
  rw [List.drop_eq_getElem_cons hk, e] at hx
  rcases List.mem_cons.1 hx with rfl | hx
  · exact hc
  · exact h x hx

end Go.Proofs.YtmkdbahdhobdjaaDoor
