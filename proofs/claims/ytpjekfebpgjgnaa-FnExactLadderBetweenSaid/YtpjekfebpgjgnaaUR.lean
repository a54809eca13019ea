/-
  The least of the shortest ladders, in plain words: there is one at most, and the search breadth first finds it.
-/
import Derived.Test.YtpjekfebpgjgnaaUN
namespace Go.Proofs.Ytpjekfebpgjgnaa

/-- L is a ladder from a to b: at each step the least word of those that come nearer. -/
structure Lad (us : List ByteArray) (a b : ByteArray) (L : List ByteArray) (n : Nat) : Prop where
  len : L.length = n + 1
  first : strAt L 0 = a
  dist : ∀ t, t ≤ n → DistIs us b (strAt L t) (n - t)
  mem : ∀ t, t ≤ n → strAt L t ∈ us
  near : ∀ t, t < n → nearS (strAt L t) (strAt L (t + 1)) = true
  least : ∀ t, t < n → ∀ y ∈ us, nearS (strAt L t) y = true → DistIs us b y (n - t - 1) → upS y (strAt L (t + 1)) = false
theorem Lad.same {us : List ByteArray} {a b : ByteArray} {L L' : List ByteArray} {n n' : Nat} (h : Lad us a b L n) (h' : Lad us a b L' n') : L = L' := by
  have e : n = n' := by
    have h1 := h.dist 0 (Nat.zero_le _)
    have h2 := h'.dist 0 (Nat.zero_le _)
    rw [h.first] at h1
    rw [h'.first] at h2
    exact h1.one h2
  subst e
  have hall : ∀ t, t ≤ n → strAt L t = strAt L' t := by
    intro t
    induction t with
    | zero => intro _; rw [h.first, h'.first]
    | succ t ih =>
      intro ht
      have e0 := ih (by omega)
      have d1 := h.dist (t + 1) ht
      have d2 := h'.dist (t + 1) ht
      rw [show n - (t + 1) = n - t - 1 by omega] at d1 d2
      have l1 := h.least t (by omega) _ (h'.mem (t + 1) ht) (by rw [e0]; exact h'.near t (by omega)) d2
      have l2 := h'.least t (by omega) _ (h.mem (t + 1) ht) (by rw [← e0]; exact h.near t (by omega)) d1
      exact upS_same l2 l1
  apply List.ext_getElem
  · rw [h.len, h'.len]
  · intro t h1 h2
    have := hall t (by rw [h.len] at h1; omega)
    rw [strAt_eq h1, strAt_eq h2] at this
    exact this
section
variable {us : List ByteArray} {a : ByteArray} {q : List ByteArray} {pi : Nat → Nat}
theorem Found.lad (F : Found us a q pi) (hn : q.Nodup) {j : Nat} (hj : j < q.length) : Lad us a (strAt q j) (ladL q pi j) (dep pi j) := by
  have hin : ∀ i j, i < q.length → j < q.length → strAt q i = strAt q j → i = j := fun i j hi hj e => nodup_at hn hi hj e
  refine ⟨ladL_len q pi j, ?_, fun t ht => ?_, fun t ht => ?_, fun t ht => ?_, fun t ht y hy h1 h2 => ?_⟩
  · rw [ladL_at (Nat.zero_le _), Nat.sub_zero, anc_end F hj, F.first]
  · rw [ladL_at ht]
    exact anc_dist F hin hj (by omega)
  · rw [ladL_at ht]
    exact F.mem _ (strAt_mem (anc_dep F hj _ (by omega)).1)
  · rw [ladL_at (by omega), ladL_at (by omega), show dep pi j - t = dep pi j - (t + 1) + 1 by omega]
    exact F.near _ (anc_pos F hj (by omega)) (anc_dep F hj _ (by omega)).1
  · rw [ladL_at (by omega)] at h1 ⊢
    rw [show dep pi j - t = dep pi j - (t + 1) + 1 by omega] at h1
    rw [show dep pi j - t - 1 = dep pi j - (t + 1) by omega] at h2
    cases h3 : upS y (strAt q (anc pi j (dep pi j - (t + 1))))
    · rfl
    · exact (anc_least F hin hj (by omega) hy h1 h2 h3).elim
theorem Found.walk (F : Found us a q pi) {b : ByteArray} : ∀ (m i : Nat), i < q.length → Walk us m (strAt q i) b → b ∈ q
  | 0, i, hi, hw => by
    have e : strAt q i = b := hw
    rw [← e]; exact strAt_mem hi
  | m + 1, i, hi, ⟨z, hz, hnz, hw⟩ => by
    obtain ⟨k, hk, rfl⟩ := near_found F hi hz hnz
    exact Found.walk F m k hk hw
theorem Found.none (F : Found us a q pi) {b : ByteArray} (h : b ∉ q) (m : Nat) : ¬ Walk us m a b := fun hw => h (F.walk m 0 F.ne (by rw [F.first]; exact hw))
end
/-- There is a search that has ended. -/
theorem part_round {us : List ByteArray} {a : ByteArray} (hr : Rise us) {q : List ByteArray} {pi : Nat → Nat} {h : Nat} (P : Part us a q pi h [] 0) (hh : h < q.length) : ∃ q' pi', Part us a q' pi' (h + 1) [] 0 := by
  have hs : ∀ k, k ≤ (pickTo (nearS (strAt q h)) us us.length).length → ∃ q' pi', Part us a q' pi' h (pickTo (nearS (strAt q h)) us us.length) k ∧ h < q'.length ∧ strAt q' h = strAt q h := by
    intro k
    induction k with
    | zero => intro _; exact ⟨q, pi, P.turn rfl _, hh, rfl⟩
    | succ k ih =>
      intro hk
      obtain ⟨q', pi', P', hh', e⟩ := ih (by omega)
      have hx := strAt_mem (show k < (pickTo (nearS (strAt q h)) us us.length).length by omega)
      by_cases hin : strAt (pickTo (nearS (strAt q h)) us us.length) k ∈ q'
      · exact ⟨q', pi', P'.skip (by omega) hin, hh', e⟩
      · have hm : strAt (pickTo (nearS (strAt q h)) us us.length) k ∈ us ∧ nearS (strAt q h) (strAt (pickTo (nearS (strAt q h)) us us.length) k) = true := by
          have h2 : pickTo (nearS (strAt q h)) us us.length = us.filter (nearS (strAt q h)) := by unfold pickTo; rw [List.take_of_length_le (Nat.le_refl _)]
          rw [h2] at hx ⊢
          exact List.mem_filter.1 hx
        have hrp : Rise (pickTo (nearS (strAt q h)) us us.length) := by
          rw [rise_pw] at hr ⊢
          have hs : (pickTo (nearS (strAt q h)) us us.length).Sublist us := List.Sublist.trans List.filter_sublist (List.take_sublist _ us)
          exact hr.sublist (hs.map bytesOf)
        exact ⟨_, _, P'.add hh' (by omega) hin hm.1 (by rw [e]; exact hm.2) hrp, by simp; omega, by rw [strAt_left hh']; exact e⟩
  obtain ⟨q', pi', P', hh', e⟩ := hs _ (Nat.le_refl _)
  rw [← e] at P'
  exact ⟨q', pi', P'.over []⟩
theorem found_any {us : List ByteArray} {a : ByteArray} (hr : Rise us) (ha : a ∈ us) : ∃ q pi, Found us a q pi ∧ q.Nodup := by
  have hs : ∀ f h (q : List ByteArray) (pi : Nat → Nat), us.length - h ≤ f → h ≤ q.length → Part us a q pi h [] 0 → ∃ q pi, Found us a q pi ∧ q.Nodup := by
    intro f
    induction f with
    | zero =>
      intro h q pi hf hq P
      have := P.few
      obtain rfl : h = q.length := by omega
      exact ⟨q, pi, P.found, P.nodup⟩
    | succ f ih =>
      intro h q pi hf hq P
      rcases Nat.lt_or_ge h q.length with h1 | h1
      · have := P.few
        obtain ⟨q', pi', P'⟩ := part_round hr P h1
        by_cases h2 : h + 1 ≤ q'.length
        · exact ih (h + 1) q' pi' (by omega) h2 P'
        · refine ⟨q', pi', ⟨P'.ne, P'.first, P'.mem, P'.low, P'.near, P'.least, P'.order, fun i x hi => P'.shut i x (by omega) hi⟩, P'.nodup⟩
      · obtain rfl : h = q.length := by omega
        exact ⟨q, pi, P.found, P.nodup⟩
  exact hs us.length 0 [a] (fun _ => 0) (by omega) (Nat.zero_le _) (Part.start ha [])
/-- A shortest ladder is shorter than the list of words. -/
theorem dist_few {us : List ByteArray} {a b : ByteArray} (hr : Rise us) (ha : a ∈ us) {m : Nat} (hw : Walk us m a b) : ∃ n, n < us.length ∧ DistIs us b a n := by
  obtain ⟨q, pi, F, hn⟩ := found_any hr ha
  obtain ⟨j, hj, rfl⟩ := mem_at (F.walk m 0 F.ne (by rw [F.first]; exact hw))
  have h1 := (F.lad hn hj).dist 0 (Nat.zero_le _)
  rw [(F.lad hn hj).first, Nat.sub_zero] at h1
  have h2 := dep_le F j hj
  have h3 := nodup_len hn F.mem
  exact ⟨_, by omega, h1⟩
/-- What a search for a ladder answers. -/
def LadIs (us : List ByteArray) (a b : ByteArray) (L : List ByteArray) (c : Int) : Prop :=
  (okL us = false ∧ L = [] ∧ c = 1) ∨
  (okL us = true ∧ (hasL us a && hasL us b) = false ∧ L = [] ∧ c = 3) ∨
  (okL us = true ∧ (hasL us a && hasL us b) = true ∧ (∀ m, ¬ Walk us m a b) ∧ L = [] ∧ c = 6) ∨
  (okL us = true ∧ (hasL us a && hasL us b) = true ∧ (∃ n, Lad us a b L n) ∧ c = 0)
theorem LadIs.same {us : List ByteArray} {a b : ByteArray} {L L' : List ByteArray} {c c' : Int} (h : LadIs us a b L c) (h' : LadIs us a b L' c') : L = L' ∧ c = c' := by
  have hno : ∀ {L n}, Lad us a b L n → (∀ m, ¬ Walk us m a b) → False := fun {L n} h1 h2 => by
    have := (h1.dist 0 (Nat.zero_le _)).1
    rw [h1.first] at this
    exact h2 _ this
  rcases h with ⟨h1, h2, h3⟩ | ⟨h1, h2, h3, h4⟩ | ⟨h1, h2, h3, h4, h5⟩ | ⟨h1, h2, ⟨n, h3⟩, h4⟩ <;>
  rcases h' with ⟨k1, k2, k3⟩ | ⟨k1, k2, k3, k4⟩ | ⟨k1, k2, k3, k4, k5⟩ | ⟨k1, k2, ⟨m, k3⟩, k4⟩
  all_goals first
    | exact absurd (h1.symm.trans k1) (by decide)
    | exact absurd (h2.symm.trans k2) (by decide)
    | (subst h2 h3 k2 k3; exact ⟨rfl, rfl⟩)
    | (subst h3 h4 k3 k4; exact ⟨rfl, rfl⟩)
    | (subst h4 h5 k4 k5; exact ⟨rfl, rfl⟩)
    | (exact (hno h3 k3).elim)
    | (exact (hno k3 h3).elim)
    | exact ⟨h3.same k3, by rw [h4, k4]⟩
open Classical in
noncomputable def ladOut (us : List ByteArray) (a b : ByteArray) : List ByteArray × Int := if h : ∃ p : List ByteArray × Int, LadIs us a b p.1 p.2 then Classical.choose h else ([], 0)
theorem LadIs.out {us : List ByteArray} {a b : ByteArray} {L : List ByteArray} {c : Int} (h : LadIs us a b L c) : ladOut us a b = (L, c) := by
  have hex : ∃ p : List ByteArray × Int, LadIs us a b p.1 p.2 := ⟨(L, c), h⟩
  unfold ladOut
  rw [dif_pos hex]
  have := (Classical.choose_spec hex).same h
  exact Prod.ext this.1 this.2
theorem ladIs_some (us : List ByteArray) (a b : ByteArray) : ∃ L c, LadIs us a b L c := by
  cases hok : okL us
  · exact ⟨_, _, .inl ⟨hok, rfl, rfl⟩⟩
  · cases hh : hasL us a && hasL us b
    · exact ⟨_, _, .inr (.inl ⟨hok, hh, rfl, rfl⟩)⟩
    · have ha : a ∈ us := (hasL_mem (okL_rise hok)).1 (by simp at hh; exact hh.1)
      obtain ⟨q, pi, F, hn⟩ := found_any (okL_rise hok) ha
      by_cases hb : b ∈ q
      · obtain ⟨j, hj, rfl⟩ := mem_at hb
        exact ⟨_, _, .inr (.inr (.inr ⟨hok, hh, ⟨_, F.lad hn hj⟩, rfl⟩))⟩
      · exact ⟨_, _, .inr (.inr (.inl ⟨hok, hh, F.none hb, rfl, rfl⟩))⟩
theorem ladOut_len (us : List ByteArray) (a b : ByteArray) : (ladOut us a b).1.length ≤ us.length := by
  obtain ⟨L, c, h⟩ := ladIs_some us a b
  rw [h.out]
  show L.length ≤ us.length
  rcases h with ⟨_, rfl, _⟩ | ⟨_, _, rfl, _⟩ | ⟨_, _, _, rfl, _⟩ | ⟨hok, hh, ⟨n, h⟩, _⟩
  · exact Nat.zero_le _
  · exact Nat.zero_le _
  · exact Nat.zero_le _
  · have ha : a ∈ us := (hasL_mem (okL_rise hok)).1 (by simp at hh; exact hh.1)
    have h1 := h.dist 0 (Nat.zero_le _)
    rw [h.first] at h1
    obtain ⟨m, h2, h3⟩ := dist_few (okL_rise hok) ha h1.1
    have := h1.one h3
    rw [h.len]
    omega
end Go.Proofs.Ytpjekfebpgjgnaa
