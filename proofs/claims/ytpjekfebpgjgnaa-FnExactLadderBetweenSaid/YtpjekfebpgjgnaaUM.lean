/-
  Ladders: what a search by distances finds, and what a search breadth first finds, are one; no program in sight.
-/
import Derived.Test.YtpjekfebpgjgnaaUE
import Derived.Test.YtpjekfebpgjgnaaL3
namespace Go.Proofs.Ytpjekfebpgjgnaa

/-- A ladder of n steps from x to y. -/
def Walk (us : List ByteArray) : Nat → ByteArray → ByteArray → Prop
  | 0, x, y => x = y
  | n + 1, x, y => ∃ z, z ∈ us ∧ nearS x z = true ∧ Walk us n z y
/-- The shortest ladder from x to b has k steps. -/
def DistIs (us : List ByteArray) (b x : ByteArray) (k : Nat) : Prop := Walk us k x b ∧ ∀ m, m < k → ¬ Walk us m x b
theorem DistIs.one {us : List ByteArray} {b x : ByteArray} {j k : Nat} (h1 : DistIs us b x j) (h2 : DistIs us b x k) : j = k := by
  rcases Nat.lt_trichotomy j k with h | h | h
  · exact absurd h1.1 (h2.2 j h)
  · exact h
  · exact absurd h2.1 (h1.2 k h)
/-- A search breadth first from a has ended: q are the words found, in their order; pi tells the place of the word before. -/
structure Found (us : List ByteArray) (a : ByteArray) (q : List ByteArray) (pi : Nat → Nat) : Prop where
  ne : 0 < q.length
  first : strAt q 0 = a
  mem : ∀ x ∈ q, x ∈ us
  low : ∀ j, 1 ≤ j → j < q.length → pi j < j
  near : ∀ j, 1 ≤ j → j < q.length → nearS (strAt q (pi j)) (strAt q j) = true
  least : ∀ j i, 1 ≤ j → j < q.length → i < pi j → nearS (strAt q i) (strAt q j) = false
  order : ∀ j k, 1 ≤ j → j < k → k < q.length → pi j < pi k ∨ (pi j = pi k ∧ upS (strAt q j) (strAt q k) = true)
  shut : ∀ i x, i < q.length → x ∈ us → nearS (strAt q i) x = true → x ∈ q
theorem mem_at {q : List ByteArray} {x : ByteArray} (h : x ∈ q) : ∃ j, j < q.length ∧ strAt q j = x := by
  obtain ⟨j, hj, e⟩ := List.mem_iff_getElem.1 h
  exact ⟨j, hj, by rw [strAt_eq hj]; exact e⟩
/-- How many steps lead from the first word to the one at place j. -/
def depF (pi : Nat → Nat) : Nat → Nat → Nat
  | 0, _ => 0
  | f + 1, j => if j = 0 then 0 else depF pi f (pi j) + 1
def dep (pi : Nat → Nat) (j : Nat) : Nat := depF pi j j
def anc (pi : Nat → Nat) (j : Nat) : Nat → Nat
  | 0 => j
  | k + 1 => pi (anc pi j k)
theorem dep_zero (pi : Nat → Nat) : dep pi 0 = 0 := rfl
section
variable {us : List ByteArray} {a : ByteArray} {q : List ByteArray} {pi : Nat → Nat} (F : Found us a q pi)
include F
theorem depF_any : ∀ (j f : Nat), j < q.length → j ≤ f → depF pi f j = depF pi j j := by
  intro j
  induction j using Nat.strongRecOn with
  | ind j ih =>
    intro f hj hf
    cases j with
    | zero => cases f <;> simp [depF]
    | succ j =>
      cases f with
      | zero => omega
      | succ f =>
        have hl := F.low (j + 1) (by omega) hj
        simp only [depF, Nat.add_eq_zero_iff, Nat.succ_ne_self, and_false, if_false]
        rw [ih (pi (j + 1)) hl f (by omega) (by omega), ih (pi (j + 1)) hl j (by omega) (by omega)]
theorem dep_step {j : Nat} (h1 : 1 ≤ j) (hj : j < q.length) : dep pi j = dep pi (pi j) + 1 := by
  have hl := F.low j h1 hj
  unfold dep
  obtain ⟨m, rfl⟩ : ∃ m, j = m + 1 := ⟨j - 1, by omega⟩
  rw [show depF pi (m + 1) (m + 1) = depF pi m (pi (m + 1)) + 1 by simp [depF], depF_any F (pi (m + 1)) m (by omega) (by omega)]
theorem dep_pos {j : Nat} (hj : j < q.length) (h : dep pi j = 0) : j = 0 := by
  rcases Nat.eq_zero_or_pos j with h0 | h0
  · exact h0
  · rw [dep_step F h0 hj] at h; omega
theorem dep_le : ∀ (j : Nat), j < q.length → dep pi j ≤ j := by
  intro j
  induction j using Nat.strongRecOn with
  | ind j ih =>
    intro hj
    rcases Nat.eq_zero_or_pos j with h0 | h0
    · subst h0; exact Nat.le_of_eq (dep_zero pi)
    · have hl := F.low j h0 hj
      rw [dep_step F h0 hj]
      have := ih (pi j) hl (by omega)
      omega
theorem pi_le {j k : Nat} (h1 : 1 ≤ j) (h : j ≤ k) (hk : k < q.length) : pi j ≤ pi k := by
  rcases Nat.lt_or_ge j k with h2 | h2
  · rcases F.order j k h1 h2 hk with h | h
    · omega
    · omega
  · obtain rfl : j = k := by omega
    exact Nat.le_refl _
theorem dep_mono : ∀ (k j : Nat), j ≤ k → k < q.length → dep pi j ≤ dep pi k := by
  intro k
  induction k using Nat.strongRecOn with
  | ind k ih =>
    intro j hjk hk
    rcases Nat.eq_zero_or_pos j with h0 | h0
    · subst h0; rw [dep_zero pi]; omega
    · rw [dep_step F h0 (by omega), dep_step F (by omega : 1 ≤ k) hk]
      have h1 := F.low k (by omega) hk
      have := ih (pi k) h1 (pi j) (pi_le F h0 hjk hk) (by omega)
      omega
theorem dep_near {i j : Nat} (hi : i < q.length) (hj : j < q.length) (h : nearS (strAt q i) (strAt q j) = true) : dep pi j ≤ dep pi i + 1 := by
  rcases Nat.eq_zero_or_pos j with h0 | h0
  · subst h0; rw [dep_zero pi]; omega
  · rw [dep_step F h0 hj]
    have hp : pi j ≤ i := by
      rcases Nat.lt_or_ge i (pi j) with h1 | h1
      · rw [F.least j i h0 hj h1] at h; cases h
      · exact h1
    have := dep_mono F i (pi j) hp hi
    omega
theorem near_found {i : Nat} (hi : i < q.length) {x : ByteArray} (hx : x ∈ us) (h : nearS (strAt q i) x = true) : ∃ j, j < q.length ∧ strAt q j = x := mem_at (F.shut i x hi hx h)
theorem dep_walk : ∀ (m i j : Nat), i < q.length → j < q.length → Walk us m (strAt q i) (strAt q j) → (∀ i j, i < q.length → j < q.length → strAt q i = strAt q j → i = j) → dep pi j ≤ dep pi i + m
  | 0, i, j, hi, hj, hw, hn => by
    have := hn i j hi hj hw
    subst this
    omega
  | m + 1, i, j, hi, hj, ⟨z, hz, hnz, hw⟩, hn => by
    obtain ⟨k, hk, rfl⟩ := near_found F hi hz hnz
    have h1 := dep_near F hi hk hnz
    have h2 := dep_walk m k j hk hj hw hn
    omega
theorem anc_dep {j : Nat} (hj : j < q.length) : ∀ k, k ≤ dep pi j → anc pi j k < q.length ∧ dep pi (anc pi j k) = dep pi j - k
  | 0, _ => ⟨hj, rfl⟩
  | k + 1, hk => by
    obtain ⟨h1, h2⟩ := anc_dep hj k (by omega)
    have hp : 1 ≤ anc pi j k := by
      rcases Nat.eq_zero_or_pos (anc pi j k) with h0 | h0
      · rw [h0, dep_zero pi] at h2; omega
      · exact h0
    have hl := F.low _ hp h1
    have hs := dep_step F hp h1
    exact ⟨by show pi (anc pi j k) < _; omega, by show dep pi (pi (anc pi j k)) = _; omega⟩
theorem anc_end {j : Nat} (hj : j < q.length) : anc pi j (dep pi j) = 0 := dep_pos F (anc_dep F hj _ (Nat.le_refl _)).1 (by rw [(anc_dep F hj _ (Nat.le_refl _)).2]; omega)
theorem anc_pos {j k : Nat} (hj : j < q.length) (hk : k < dep pi j) : 1 ≤ anc pi j k := by
  rcases Nat.eq_zero_or_pos (anc pi j k) with h0 | h0
  · have h2 := (anc_dep F hj k (by omega)).2
    rw [h0, dep_zero pi] at h2
    omega
  · exact h0
theorem anc_walk {j : Nat} (hj : j < q.length) : ∀ k, k ≤ dep pi j → Walk us k (strAt q (anc pi j k)) (strAt q j)
  | 0, _ => rfl
  | k + 1, hk => by
    have hp := anc_pos F hj (show k < dep pi j by omega)
    have hl := (anc_dep F hj k (by omega)).1
    exact ⟨strAt q (anc pi j k), F.mem _ (strAt_mem hl), F.near _ hp hl, anc_walk hj k (by omega)⟩
/-- A ladder to the same end that lags behind in the order of places never comes up to it. -/
theorem no_overtake (hn : ∀ i j, i < q.length → j < q.length → strAt q i = strAt q j → i = j) {jb : Nat} (hj : jb < q.length) : ∀ (m y : Nat), m ≤ dep pi jb → y < anc pi jb m → ¬ Walk us m (strAt q y) (strAt q jb)
  | 0, y, _, hy, hw => by
    have hy' : y < jb := hy
    have := hn y jb (by omega) hj hw
    omega
  | m + 1, y, hm, hy, ⟨z, hz, hnz, hw⟩ => by
    have hzl := (anc_dep F hj m (by omega)).1
    have hp := anc_pos F hj (show m < dep pi jb by omega)
    have hlo := F.low _ hp hzl
    have hy' : y < pi (anc pi jb m) := hy
    obtain ⟨k, hk, rfl⟩ := near_found F (show y < q.length by omega) hz hnz
    refine no_overtake hn hj m k (by omega) ?_ hw
    rcases Nat.lt_or_ge k (anc pi jb m) with h | h
    · exact h
    · exfalso
      rcases Nat.eq_zero_or_pos k with h0 | h0
      · omega
      · have h1 := pi_le F hp h hk
        have h2 : pi k ≤ y := by
          rcases Nat.lt_or_ge y (pi k) with h3 | h3
          · rw [F.least k y h0 hk h3] at hnz; cases hnz
          · exact h3
        omega
/-- The distance of the word k steps before the end is k. -/
theorem anc_dist (hn : ∀ i j, i < q.length → j < q.length → strAt q i = strAt q j → i = j) {jb k : Nat} (hj : jb < q.length) (hk : k ≤ dep pi jb) : DistIs us (strAt q jb) (strAt q (anc pi jb k)) k := by
  refine ⟨anc_walk F hj k hk, fun m hm hw => ?_⟩
  have h1 := (anc_dep F hj k hk)
  have := dep_walk F m _ jb h1.1 hj hw hn
  omega
/-- No lesser word may take the place of the next one. -/
theorem anc_least (hn : ∀ i j, i < q.length → j < q.length → strAt q i = strAt q j → i = j) {jb k : Nat} {y : ByteArray} (hj : jb < q.length) (hk : k < dep pi jb) (hy : y ∈ us) (h1 : nearS (strAt q (anc pi jb (k + 1))) y = true) (h2 : DistIs us (strAt q jb) y k)
    (h3 : upS y (strAt q (anc pi jb k)) = true) : False := by
  have ha := anc_dep F hj (k + 1) (by omega)
  have hb := anc_dep F hj k (by omega)
  have hp := anc_pos F hj hk
  obtain ⟨i, hi, rfl⟩ := near_found F ha.1 hy h1
  refine no_overtake F hn hj k i (by omega) ?_ h2.1
  rcases Nat.lt_or_ge i (anc pi jb k) with h | h
  · exact h
  · exfalso
    have hne : i ≠ anc pi jb k := fun e => by rw [e, upS_irr] at h3; cases h3
    have h0 : 1 ≤ i := by omega
    have hpi : pi i ≤ anc pi jb (k + 1) := by
      rcases Nat.lt_or_ge (anc pi jb (k + 1)) (pi i) with h4 | h4
      · rw [F.least i _ h0 hi h4] at h1; cases h1
      · exact h4
    have he : anc pi jb (k + 1) = pi (anc pi jb k) := rfl
    rcases F.order (anc pi jb k) i hp (by omega) hi with h5 | ⟨_, h5⟩
    · omega
    · rw [upS_asymm h5] at h3; cases h3
/-- The ladder from the first word to the one at place j. -/
def ladL (q : List ByteArray) (pi : Nat → Nat) (j : Nat) : List ByteArray := (List.range (dep pi j + 1)).map fun t => strAt q (anc pi j (dep pi j - t))
end
theorem ladL_len (q : List ByteArray) (pi : Nat → Nat) (j : Nat) : (ladL q pi j).length = dep pi j + 1 := by simp [ladL]
theorem ladL_at {q : List ByteArray} {pi : Nat → Nat} {j t : Nat} (h : t ≤ dep pi j) : strAt (ladL q pi j) t = strAt q (anc pi j (dep pi j - t)) := by
  rw [strAt_eq (by rw [ladL_len]; omega)]
  simp [ladL]
/-- The same ladder from its end. -/
theorem ladL_back (q : List ByteArray) (pi : Nat → Nat) (j : Nat) : ((List.range (dep pi j + 1)).map fun t => strAt q (anc pi j t)).reverse = ladL q pi j := by
  apply List.ext_getElem
  · simp [ladL]
  · intro t h1 h2
    have ht : t < dep pi j + 1 := by simpa using h1
    rw [List.getElem_reverse]
    simp [ladL]
end Go.Proofs.Ytpjekfebpgjgnaa
