/-
  Plain facts on sub-racks; no program in sight.
-/
import Derived.Test.YtilagppmljpclaaL3
import Derived.Test.YtilagppmljpclaaN3
namespace Go.Proofs.Ytilagppmljpclaa
open Go.RowKit

/-! ### The first place of a letter -/
theorem first_at {a : UInt8} {y : List UInt8} : ∀ {rack : List UInt8}, (a :: y).Sublist rack → ∃ j, (∀ k, k < j → rack[k]? ≠ some a) ∧ rack[j]? = some a ∧ y.Sublist (rack.drop (j + 1))
  | [], h => by cases h
  | b :: r, h => by
    by_cases e : b = a
    · subst e
      exact ⟨0, fun k hk => absurd hk (by omega), rfl, List.cons_sublist_cons.1 h⟩
    · have h2 : (a :: y).Sublist r := by
        cases h with
        | cons _ h => exact h
        | cons_cons _ h => exact absurd rfl e
      obtain ⟨j, h3, h4, h5⟩ := first_at h2
      refine ⟨j + 1, fun k hk => ?_, by simpa using h4, by simpa using h5⟩
      cases k with
      | zero => simpa using e
      | succ k => simpa using h3 k (by omega)
/-- A sub-rack of n tiles that begins at place j, which no equal tile precedes. -/
def Start (rack : List UInt8) (n j : Nat) (x : List UInt8) : Prop :=
  (j = 0 ∨ rack[j]? ≠ rack[j - 1]?) ∧ ∃ a y, rack[j]? = some a ∧ x = a :: y ∧ y.length + 1 = n ∧ y.Sublist (rack.drop (j + 1))
theorem start_all {rack : List UInt8} {n i : Nat} (hn : 0 < n) (hi : rack.length < i + n) (x : List UInt8) : (∃ j, j < i ∧ Start rack n j x) ↔ x.length = n ∧ x.Sublist rack := by
  constructor
  · rintro ⟨j, -, -, a, y, h1, rfl, h2, h3⟩
    refine ⟨by simpa using h2, ?_⟩
    have hj : j < rack.length := by
      rcases Nat.lt_or_ge j rack.length with h | h
      · exact h
      · rw [List.getElem?_eq_none h] at h1; cases h1
    rw [List.getElem?_eq_getElem hj] at h1
    injection h1 with h1
    have : (a :: y).Sublist (rack.drop j) := by
      rw [List.drop_eq_getElem_cons hj, h1]
      exact h3.cons_cons a
    exact this.trans (List.drop_sublist j rack)
  · rintro ⟨h1, h2⟩
    cases x with
    | nil => simp at h1; omega
    | cons a y =>
      obtain ⟨j, h3, h4, h5⟩ := first_at h2
      have hj : j < rack.length := by
        rcases Nat.lt_or_ge j rack.length with h | h
        · exact h
        · rw [List.getElem?_eq_none h] at h4; cases h4
      have hl := h5.length_le
      rw [List.length_drop] at hl
      simp at h1
      refine ⟨j, by omega, ?_, a, y, h4, rfl, h1, h5⟩
      rcases Nat.eq_zero_or_pos j with h0 | h0
      · exact .inl h0
      · refine .inr fun e => h3 (j - 1) (by omega) (by rw [← e]; exact h4)
theorem start_skip {rack : List UInt8} {n i : Nat} (h0 : 0 < i) (h : rack[i]? = rack[i - 1]?) (x : List UInt8) : (∃ j, j < i + 1 ∧ Start rack n j x) ↔ ∃ j, j < i ∧ Start rack n j x := by
  constructor
  · rintro ⟨j, hj, hs⟩
    refine ⟨j, ?_, hs⟩
    rcases Nat.lt_or_ge j i with h1 | h1
    · exact h1
    · obtain rfl : j = i := by omega
      rcases hs.1 with h2 | h2
      · omega
      · exact absurd h h2
  · rintro ⟨j, hj, hs⟩
    exact ⟨j, by omega, hs⟩
theorem start_more {rack : List UInt8} {n i : Nat} {a : UInt8} {Z : List ByteArray} (h0 : i = 0 ∨ rack[i]? ≠ rack[i - 1]?) (ha : rack[i]? = some a) (hn : 0 < n)
    (hZ : ∀ z : ByteArray, z ∈ Z ↔ z.data.toList.length = n - 1 ∧ z.data.toList.Sublist (rack.drop (i + 1))) (x : List UInt8) :
    (∃ j, j < i + 1 ∧ Start rack n j x) ↔ (∃ j, j < i ∧ Start rack n j x) ∨ ∃ z, z ∈ Z ∧ x = a :: z.data.toList := by
  constructor
  · rintro ⟨j, hj, hs⟩
    rcases Nat.lt_or_ge j i with h1 | h1
    · exact .inl ⟨j, h1, hs⟩
    · obtain rfl : j = i := by omega
      obtain ⟨-, b, y, h2, rfl, h3, h4⟩ := hs
      rw [ha] at h2
      injection h2 with h2
      subst h2
      refine .inr ⟨⟨y.toArray⟩, (hZ _).2 ⟨by simp; omega, by simpa using h4⟩, by simp⟩
  · rintro (⟨j, hj, hs⟩ | ⟨z, hz, rfl⟩)
    · exact ⟨j, by omega, hs⟩
    · obtain ⟨h1, h2⟩ := (hZ z).1 hz
      exact ⟨i, by omega, h0, a, _, ha, rfl, by omega, h2⟩
/-- The sub-racks of n tiles, rising. -/
structure Subs (rack : List UInt8) (n : Nat) (Z : List ByteArray) : Prop where
  rise : Rise Z
  mem : ∀ x : ByteArray, x ∈ Z ↔ x.data.toList.length = n ∧ x.data.toList.Sublist rack
  len : Z.length ≤ 2 ^ rack.length

/-! ### The order by length, then by letters -/
def ltS (x y : ByteArray) : Bool := decide (x.size < y.size) || (decide (x.size = y.size) && upS x y)
theorem ltS_iff {x y : ByteArray} : ltS x y = true ↔ x.size < y.size ∨ (x.size = y.size ∧ upS x y = true) := by simp [ltS]
theorem ltS_irr (x : ByteArray) : ltS x x = false := by
  cases h : ltS x x
  · rfl
  · rw [ltS_iff, upS_irr] at h
    rcases h with h | h
    · omega
    · cases h.2
theorem ltS_trans {x y z : ByteArray} (h1 : ltS x y = true) (h2 : ltS y z = true) : ltS x z = true := by
  rw [ltS_iff] at h1 h2 ⊢
  rcases h1 with h1 | h1 <;> rcases h2 with h2 | h2
  · exact .inl (by omega)
  · exact .inl (by omega)
  · exact .inl (by omega)
  · exact .inr ⟨by omega, upS_trans h1.2 h2.2⟩
theorem ltS_total {x y : ByteArray} (h1 : ltS x y = false) (h2 : ltS y x = false) : x = y := by
  have e1 : ¬ _ := fun h => by rw [ltS_iff.2 h] at h1; cases h1
  have e2 : ¬ _ := fun h => by rw [ltS_iff.2 h] at h2; cases h2
  rw [not_or] at e1 e2
  have hs : x.size = y.size := by omega
  refine upS_same ?_ ?_
  · cases h : upS x y
    · rfl
    · exact absurd ⟨hs, h⟩ e1.2
  · cases h : upS y x
    · rfl
    · exact absurd ⟨hs.symm, h⟩ e2.2
/-- A list that rises strictly in this order. -/
def Ord (M : List ByteArray) : Prop := M.Pairwise fun x y => ltS x y = true
theorem ord_nodup {M : List ByteArray} (h : Ord M) : M.Nodup := List.Pairwise.imp (fun {a b} h e => by rw [e, ltS_irr] at h; cases h) h
theorem ord_one {M L : List ByteArray} (h1 : Ord M) (h2 : Ord L) (h : ∀ x, x ∈ M ↔ x ∈ L) : M = L :=
  ((List.perm_ext_iff_of_nodup (ord_nodup h1) (ord_nodup h2)).2 h).eq_of_pairwise (fun a b _ _ h3 h4 => by
    have := ltS_trans h3 h4
    rw [ltS_irr] at this
    cases this) h1 h2
theorem subs_ord {rack : List UInt8} {n : Nat} {Z : List ByteArray} (h : Subs rack n Z) : Ord Z := by
  have h1 := rise_pw.1 h.rise
  rw [List.pairwise_map] at h1
  refine List.Pairwise.imp_of_mem (fun {a b} ha hb hab => ?_) h1
  have ea := ((h.mem a).1 ha).1
  have eb := ((h.mem b).1 hb).1
  rw [len_list] at ea eb
  exact ltS_iff.2 (.inr ⟨by omega, up_upS.1 hab⟩)
/-- All sub-racks of fewer than n tiles. -/
structure AllSubs (rack : List UInt8) (n : Nat) (M : List ByteArray) : Prop where
  ord : Ord M
  mem : ∀ x : ByteArray, x ∈ M ↔ x.data.toList.length < n ∧ x.data.toList.Sublist rack
theorem all_nil (rack : List UInt8) : AllSubs rack 0 [] := ⟨List.Pairwise.nil, fun x => by simp⟩
theorem all_more {rack : List UInt8} {n : Nat} {M Z : List ByteArray} (h : AllSubs rack n M) (hz : Subs rack n Z) : AllSubs rack (n + 1) (M ++ Z) := by
  refine ⟨List.pairwise_append.2 ⟨h.ord, subs_ord hz, fun a ha b hb => ?_⟩, fun x => ?_⟩
  · have ea := ((h.mem a).1 ha).1
    have eb := ((hz.mem b).1 hb).1
    rw [len_list] at ea eb
    exact ltS_iff.2 (.inl (by omega))
  · rw [List.mem_append, h.mem, hz.mem]
    constructor
    · rintro (⟨h1, h2⟩ | ⟨h1, h2⟩)
      · exact ⟨by omega, h2⟩
      · exact ⟨by omega, h2⟩
    · rintro ⟨h1, h2⟩
      rcases Nat.lt_or_ge x.data.toList.length n with h3 | h3
      · exact .inl ⟨h3, h2⟩
      · exact .inr ⟨by omega, h2⟩
/-- The sub-racks of a rack, in this order. -/
structure SubRacks (rack : List UInt8) (M : List ByteArray) : Prop where
  ord : Ord M
  mem : ∀ x : ByteArray, x ∈ M ↔ x.data.toList.Sublist rack
theorem all_done {rack : List UInt8} {M : List ByteArray} (h : AllSubs rack (rack.length + 1) M) : SubRacks rack M :=
  ⟨h.ord, fun x => by
    rw [h.mem]
    exact ⟨fun e => e.2, fun e => ⟨by have := e.length_le; omega, e⟩⟩⟩
theorem sub_one {rack : List UInt8} {M L : List ByteArray} (h1 : SubRacks rack M) (h2 : SubRacks rack L) : M = L := ord_one h1.ord h2.ord fun x => (h1.mem x).trans (h2.mem x).symm

/-! ### As the program finds them -/
def tot (F : Nat → Nat) : Nat → Nat
  | 0 => 0
  | k + 1 => tot F k + F k
theorem tot_ge {F : Nat → Nat} : ∀ {n k : Nat}, k < n → F k ≤ tot F n
  | n + 1, k, h => by
    rw [tot]
    rcases Nat.lt_or_ge k n with h1 | h1
    · have := tot_ge (F := F) h1; omega
    · obtain rfl : k = n := by omega
      omega
theorem tot_dec {F : Nat → Nat} {j : Nat} (h : F j ≠ 0) : ∀ {n : Nat}, tot (decK F j) n + (if j < n then 1 else 0) = tot F n
  | 0 => by simp [tot]
  | n + 1 => by
    have ih := tot_dec (F := F) h (n := n)
    rw [tot, tot]
    unfold decK at ih ⊢
    by_cases e : n = j
    · subst e
      rw [if_neg (by omega)] at ih
      rw [if_pos rfl, if_pos (by omega)]
      omega
    · rw [if_neg e]
      by_cases h2 : j < n
      · rw [if_pos h2] at ih
        rw [if_pos (by omega)]
        omega
      · rw [if_neg h2] at ih
        rw [if_neg (by omega)]
        omega
/-- All racks behind what is chosen, with tiles of kind k and later ones. -/
def chooseL : Nat → (Nat → Nat) → Nat → List UInt8 → List (List UInt8)
  | 0, _, _, c => [c]
  | n + 1, F, k, c => c :: (List.range' k (27 - k)).flatMap fun j => if F j = 0 then [] else chooseL n (decK F j) j (c ++ [tileOf j])
/-- What a choice adds to what is chosen. -/
structure Adds (F : Nat → Nat) (k : Nat) (y : List UInt8) : Prop where
  asc : Asc y
  tiles : allTiles y = true
  low : ∀ x ∈ y, tileOf k ≤ x
  few : ∀ j, j < 27 → cnt y j ≤ F j
theorem adds_nil (F : Nat → Nat) (k : Nat) : Adds F k [] := ⟨asc_nil, rfl, fun x hx => (by cases hx), fun j _ => (by simp [cnt])⟩
theorem cnt_cons_kind {c : UInt8} {l : List UInt8} (hc : tileB (c.toNat : Int) = true) {k : Nat} (hk : k < 27) : cnt (c :: l) k = if k = kindN c then cnt l k + 1 else cnt l k := by
  unfold cnt
  rw [show c :: l = [c] ++ l from rfl, List.count_append, Nat.add_comm, List.count_singleton]
  by_cases e : k = kindN c
  · rw [if_pos e, e, tileOf_kind hc]; simp
  · rw [if_neg e]
    have : ¬ c = tileOf k := fun x => e (by rw [x, kind_tileOf hk])
    simp [this]
theorem tileOf_le {j k : Nat} (h : j ≤ k) (hk : k < 27) : tileOf j ≤ tileOf k := by
  rcases Nat.lt_or_ge j k with h1 | h1
  · exact UInt8.le_of_lt (tileOf_lt h1 hk)
  · obtain rfl : j = k := by omega
    exact UInt8.le_refl _
theorem adds_cons {F : Nat → Nat} {k j : Nat} {y : List UInt8} (hk : k ≤ j) (hj : j < 27) (hF : F j ≠ 0) (h : Adds (decK F j) j y) : Adds F k (tileOf j :: y) := by
  refine ⟨List.pairwise_cons.2 ⟨fun x hx => h.low x hx, h.asc⟩, ?_, ?_, fun i hi => ?_⟩
  · unfold allTiles
    rw [List.all_cons, tileOf_tile hj, Bool.true_and]
    exact h.tiles
  · intro x hx
    rcases List.mem_cons.1 hx with rfl | hx
    · exact tileOf_le hk hj
    · exact UInt8.le_trans (tileOf_le hk hj) (h.low x hx)
  · rw [cnt_cons_kind (tileOf_tile hj) hi, kind_tileOf hj]
    have := h.few i hi
    unfold decK at this
    by_cases e : i = j
    · rw [if_pos e] at this ⊢; subst e; omega
    · rw [if_neg e] at this ⊢; exact this
theorem adds_uncons {F : Nat → Nat} {k : Nat} {c : UInt8} {y : List UInt8} (h : Adds F k (c :: y)) (hk : k < 27) : k ≤ kindN c ∧ kindN c < 27 ∧ F (kindN c) ≠ 0 ∧ c = tileOf (kindN c) ∧ Adds (decK F (kindN c)) (kindN c) y := by
  have ht := h.tiles
  unfold allTiles at ht
  rw [List.all_cons, Bool.and_eq_true] at ht
  have hkc := kindN_lt ht.1
  have hco := tileOf_kind ht.1
  have ha := List.pairwise_cons.1 h.asc
  refine ⟨?_, hkc, ?_, hco.symm, ha.2, ht.2, fun x hx => by rw [hco]; exact ha.1 x hx, fun i hi => ?_⟩
  · have := h.low c List.mem_cons_self
    rcases Nat.lt_or_ge (kindN c) k with h1 | h1
    · have h2 := tileOf_lt h1 hk
      rw [hco] at h2
      exact absurd this (UInt8.not_le.2 h2)
    · exact h1
  · have := h.few (kindN c) hkc
    rw [cnt_cons_kind ht.1 hkc, if_pos rfl] at this
    omega
  · have := h.few i hi
    rw [cnt_cons_kind ht.1 hi] at this
    unfold decK
    by_cases e : i = kindN c
    · rw [if_pos e] at this ⊢; omega
    · rw [if_neg e] at this ⊢; exact this
theorem choose_mem : ∀ (n : Nat) (F : Nat → Nat) (k : Nat) (c x : List UInt8), k < 27 → tot F 27 ≤ n → (x ∈ chooseL n F k c ↔ ∃ y, x = c ++ y ∧ Adds F k y)
  | 0, F, k, c, x, hk, h => by
    have hz : ∀ j, j < 27 → F j = 0 := fun j hj => by have := tot_ge (F := F) hj; omega
    rw [chooseL, List.mem_singleton]
    constructor
    · rintro rfl
      exact ⟨[], by simp, adds_nil F k⟩
    · rintro ⟨y, rfl, hy⟩
      cases y with
      | nil => simp
      | cons a y =>
        obtain ⟨-, h1, h2, -⟩ := adds_uncons hy hk
        exact absurd (hz _ h1) h2
  | n + 1, F, k, c, x, hk, h => by
    rw [chooseL, List.mem_cons, List.mem_flatMap]
    constructor
    · rintro (rfl | ⟨j, hj, hx⟩)
      · exact ⟨[], by simp, adds_nil F k⟩
      · rw [List.mem_range'_1] at hj
        split at hx
        · cases hx
        · rename_i h0
          have ht := tot_dec h0 (n := 27)
          rw [if_pos (by omega)] at ht
          obtain ⟨y, rfl, hy⟩ := (choose_mem n (decK F j) j _ x (by omega) (by omega)).1 hx
          exact ⟨tileOf j :: y, by simp, adds_cons hj.1 (by omega) h0 hy⟩
    · rintro ⟨y, rfl, hy⟩
      cases y with
      | nil => exact .inl (by simp)
      | cons a y =>
        obtain ⟨h1, h2, h3, h4, h5⟩ := adds_uncons hy hk
        refine .inr ⟨kindN a, List.mem_range'_1.2 ⟨h1, by omega⟩, ?_⟩
        rw [if_neg h3]
        have ht := tot_dec h3 (n := 27)
        rw [if_pos h2] at ht
        refine (choose_mem n _ _ _ _ h2 (by omega)).2 ⟨y, ?_, h5⟩
        rw [← h4]
        simp
theorem choose_nodup : ∀ (n : Nat) (F : Nat → Nat) (k : Nat) (c : List UInt8), k < 27 → tot F 27 ≤ n → (chooseL n F k c).Nodup
  | 0, _, _, _, _, _ => by simp [chooseL]
  | n + 1, F, k, c, hk, h => by
    have hpart : ∀ j x, j < 27 → x ∈ (if F j = 0 then [] else chooseL n (decK F j) j (c ++ [tileOf j])) → ∃ y, x = c ++ tileOf j :: y := fun j x hj hx => by
      split at hx
      · cases hx
      · rename_i h0
        have ht := tot_dec h0 (n := 27)
        rw [if_pos hj] at ht
        obtain ⟨y, rfl, -⟩ := (choose_mem n (decK F j) j _ x hj (by omega)).1 hx
        exact ⟨y, by simp⟩
    rw [chooseL, List.nodup_cons]
    refine ⟨fun hm => ?_, ?_⟩
    · obtain ⟨j, hj, hx⟩ := List.mem_flatMap.1 hm
      rw [List.mem_range'_1] at hj
      obtain ⟨y, hy⟩ := hpart j c (by omega) hx
      have := congrArg List.length hy
      simp at this
    · unfold List.Nodup
      rw [List.pairwise_flatMap]
      refine ⟨fun j hj => ?_, ?_⟩
      · rw [List.mem_range'_1] at hj
        split
        · exact List.Pairwise.nil
        · rename_i h0
          have ht := tot_dec h0 (n := 27)
          rw [if_pos (by omega)] at ht
          exact choose_nodup n _ _ _ (by omega) (by omega)
      · refine List.Pairwise.imp_of_mem (fun {i j} hi hj hij x hx y hy e => ?_) List.pairwise_lt_range'
        rw [List.mem_range'_1] at hi hj
        obtain ⟨u, rfl⟩ := hpart i x (by omega) hx
        obtain ⟨v, rfl⟩ := hpart j y (by omega) hy
        have := List.append_cancel_left e
        injection this with h1 _
        have := tileOf_inj (by omega) (by omega) h1
        omega
/-- What is added to nothing, of a rack's own tiles, are its sub-racks. -/
theorem adds_sub {rack y : List UInt8} (ht : allTiles rack = true) (ha : Asc rack) : Adds (cnt rack) 0 y ↔ y.Sublist rack := by
  constructor
  · intro h
    have h1 := bothL_sub rack y
    have h2 := bothL_pile ht ha h.asc
    have h3 : bothL rack y = y := by
      rw [h2]
      exact (pile_unique h.tiles h.asc (fun k hk => by have := h.few k hk; omega)).symm
    rw [h3] at h1
    exact h1
  · intro h
    refine ⟨asc_sub h ha, tiles_sub h ht, fun x hx => ?_, fun j _ => h.count_le _⟩
    have hx2 := tiles_mem (tiles_sub h ht) hx
    have := tileOf_le (Nat.zero_le (kindN x)) (kindN_lt hx2)
    rw [tileOf_kind hx2] at this
    exact this
end Go.Proofs.Ytilagppmljpclaa
