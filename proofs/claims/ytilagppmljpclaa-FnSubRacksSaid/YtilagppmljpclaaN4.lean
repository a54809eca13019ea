/-
  Plain facts on all ways to place a word with tiles; no program in sight.
-/
import Derived.Test.YtilagppmljpclaaN3
namespace Go.Proofs.Ytilagppmljpclaa
open Go.RowKit

/-- The capital of a small letter. -/
def capU (c : UInt8) : UInt8 := UInt8.ofNat (c.toNat - 32)
/-- All ways to place a word with so many tiles of each kind: a capital letter is a blank. -/
def waysL : (Nat → Nat) → List UInt8 → List (List UInt8)
  | _, [] => [[]]
  | f, c :: l => (if f 0 = 0 then [] else (waysL (decK f 0) l).map (capU c :: ·)) ++ (if f (kindN c) = 0 then [] else (waysL (decK f (kindN c)) l).map (c :: ·))
theorem waysL_congr : ∀ (l : List UInt8) {f g : Nat → Nat}, (∀ k, k < 27 → f k = g k) → (∀ c ∈ l, kindN c < 27) → waysL f l = waysL g l
  | [], _, _, _, _ => rfl
  | c :: l, f, g, h, hl => by
    have hc := hl c List.mem_cons_self
    have hl' : ∀ c ∈ l, kindN c < 27 := fun x hx => hl x (List.mem_cons_of_mem _ hx)
    have hd : ∀ j, ∀ k, k < 27 → decK f j k = decK g j k := fun j k hk => by unfold decK; rw [h k hk]
    rw [waysL, waysL, h _ hc, h 0 (by omega), waysL_congr l (hd 0) hl', waysL_congr l (hd (kindN c)) hl']
theorem waysL_len : ∀ (l : List UInt8) (f : Nat → Nat), (waysL f l).length ≤ 2 ^ l.length
  | [], _ => by simp [waysL]
  | c :: l, f => by
    have h1 := waysL_len l (decK f 0)
    have h2 := waysL_len l (decK f (kindN c))
    rw [waysL, List.length_append, List.length_cons, Nat.pow_succ]
    have h3 : (if f 0 = 0 then [] else (waysL (decK f 0) l).map (capU c :: ·)).length ≤ 2 ^ l.length := by
      split
      · simp
      · simpa using h1
    have h4 : (if f (kindN c) = 0 then [] else (waysL (decK f (kindN c)) l).map (c :: ·)).length ≤ 2 ^ l.length := by
      split
      · simp
      · simpa using h2
    omega
theorem waysL_size : ∀ (l : List UInt8) (f : Nat → Nat), ∀ x ∈ waysL f l, x.length = l.length
  | [], _, x, hx => by simp [waysL] at hx; subst hx; rfl
  | c :: l, f, x, hx => by
    rw [waysL, List.mem_append] at hx
    rcases hx with hx | hx
    · split at hx
      · cases hx
      · obtain ⟨y, hy, rfl⟩ := List.mem_map.1 hx
        rw [List.length_cons, List.length_cons, waysL_size l _ y hy]
    · split at hx
      · cases hx
      · obtain ⟨y, hy, rfl⟩ := List.mem_map.1 hx
        rw [List.length_cons, List.length_cons, waysL_size l _ y hy]
/-- A blank less asks no more of letters. -/
theorem need_blank : ∀ (l : List UInt8) (f : Nat → Nat), (∀ c ∈ l, 1 ≤ kindN c ∧ kindN c < 27) → needL (decK f 0) l = needL f l
  | [], _, _ => rfl
  | c :: l, f, hl => by
    obtain ⟨h1, h2⟩ := hl c List.mem_cons_self
    have hl' : ∀ c ∈ l, 1 ≤ kindN c ∧ kindN c < 27 := fun x hx => hl x (List.mem_cons_of_mem _ hx)
    have e : decK f 0 (kindN c) = f (kindN c) := by unfold decK; rw [if_neg (by omega)]
    have e2 : decK (decK f 0) (kindN c) = decK (decK f (kindN c)) 0 := by
      funext j
      unfold decK
      by_cases a : j = 0 <;> by_cases b : j = kindN c
      · omega
      · rw [if_neg b, if_pos a, if_pos a, if_neg b]
      · rw [if_pos b, if_neg a, if_neg a, if_pos b]
      · rw [if_neg b, if_neg a, if_neg a, if_neg b]
    rw [needL, needL, e, need_blank l f hl', e2, need_blank l _ hl']
/-- A tile less raises what is needed by one at most. -/
theorem need_less : ∀ (l : List UInt8) (f : Nat → Nat) (k : Nat), needL (decK f k) l ≤ needL f l + 1
  | [], _, _ => by simp [needL]
  | c :: l, f, k => by
    rw [needL, needL]
    by_cases e : kindN c = k
    · subst e
      have e1 : decK f (kindN c) (kindN c) = f (kindN c) - 1 := by unfold decK; rw [if_pos rfl]
      rw [e1]
      by_cases h0 : f (kindN c) = 0
      · rw [if_pos (by omega), if_pos h0]
        have : decK f (kindN c) = f := by
          funext j
          unfold decK
          by_cases a : j = kindN c
          · rw [if_pos a, a]; omega
          · rw [if_neg a]
        rw [this]
        omega
      · rw [if_neg h0]
        by_cases h1 : f (kindN c) - 1 = 0
        · rw [if_pos h1]
          exact Nat.le_refl _
        · rw [if_neg h1]
          exact need_less l _ _
    · have e1 : decK f k (kindN c) = f (kindN c) := by unfold decK; rw [if_neg e]
      rw [e1]
      by_cases h0 : f (kindN c) = 0
      · rw [if_pos h0, if_pos h0]
        have := need_less l f k
        omega
      · rw [if_neg h0, if_neg h0]
        have e2 : decK (decK f k) (kindN c) = decK (decK f (kindN c)) k := by
          funext j
          unfold decK
          by_cases a : j = k <;> by_cases b : j = kindN c
          · exact absurd (b.symm.trans a) e
          · rw [if_neg b, if_pos a, if_pos a, if_neg b]
          · rw [if_pos b, if_neg a, if_neg a, if_pos b]
          · rw [if_neg b, if_neg a, if_neg a, if_neg b]
        rw [e2]
        exact need_less l _ k
/-- Where there is a way, there are blanks enough. -/
theorem ways_need : ∀ (l : List UInt8) (f : Nat → Nat), (∀ c ∈ l, 1 ≤ kindN c ∧ kindN c < 27) → waysL f l ≠ [] → needL f l ≤ f 0
  | [], _, _, _ => by simp [needL]
  | c :: l, f, hl, hne => by
    obtain ⟨h1, h2⟩ := hl c List.mem_cons_self
    have hl' : ∀ c ∈ l, 1 ≤ kindN c ∧ kindN c < 27 := fun x hx => hl x (List.mem_cons_of_mem _ hx)
    have hless : needL f (c :: l) ≤ needL f l + 1 := by
      rw [needL]
      split
      · exact Nat.le_refl _
      · exact need_less l f _
    rw [waysL] at hne
    by_cases h0 : f 0 = 0
    · rw [if_pos h0, List.nil_append] at hne
      by_cases hk : f (kindN c) = 0
      · rw [if_pos hk] at hne
        exact absurd rfl hne
      · rw [if_neg hk] at hne
        have ih := ways_need l (decK f (kindN c)) hl' (fun e => hne (by rw [e]; rfl))
        have e0 : decK f (kindN c) 0 = f 0 := by unfold decK; rw [if_neg (by omega)]
        rw [needL, if_neg hk]
        omega
    · by_cases hw : waysL (decK f 0) l = []
      · rw [hw] at hne
        by_cases hk : f (kindN c) = 0
        · rw [if_pos hk] at hne
          simp at hne
        · have ih := ways_need l (decK f (kindN c)) hl' (fun e => hne (by rw [e]; simp))
          have e0 : decK f (kindN c) 0 = f 0 := by unfold decK; rw [if_neg (by omega)]
          rw [needL, if_neg hk]
          omega
      · have ih := ways_need l (decK f 0) hl' hw
        rw [need_blank l f hl'] at ih
        have e0 : decK f 0 0 = f 0 - 1 := by unfold decK; rw [if_pos rfl]
        omega
theorem ways_none {p w : List UInt8} (hw : isWordB w = true) (h : canL p w = false) : waysL (cnt p) w = [] := by
  cases e : waysL (cnt p) w with
  | nil => rfl
  | cons x l =>
    have := ways_need w (cnt p) (fun c hc => ⟨(small_kind (word_small hw hc)).1, (small_kind (word_small hw hc)).2.1⟩) (by rw [e]; exact fun h => by cases h)
    unfold canL at h
    rw [decide_eq_false_iff_not] at h
    exact absurd this h
end Go.Proofs.Ytilagppmljpclaa
