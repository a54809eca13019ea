/-
  A search breadth first, step by step; no program in sight.
-/
import Derived.Test.YtpjekfebpgjgnaaUM
import Derived.Test.YtpjekfebpgjgnaaLM
namespace Go.Proofs.Ytpjekfebpgjgnaa

theorem nodup_len : ∀ {q us : List ByteArray}, q.Nodup → (∀ x ∈ q, x ∈ us) → q.length ≤ us.length
  | [], _, _, _ => Nat.zero_le _
  | x :: q, us, hn, hm => by
    have hx := hm x (List.mem_cons_self ..)
    have hn2 := List.nodup_cons.1 hn
    obtain ⟨s, r, rfl⟩ := List.append_of_mem hx
    have := nodup_len (us := s ++ r) hn2.2 (fun y hy => by
      have hy2 := hm y (List.mem_cons_of_mem _ hy)
      rcases List.mem_append.1 hy2 with h | h
      · exact List.mem_append_left _ h
      · rcases List.mem_cons.1 h with e | h
        · exact absurd (by rw [← e]; exact hy) hn2.1
        · exact List.mem_append_right _ h)
    simp only [List.length_append, List.length_cons] at *
    omega
theorem nodup_at {q : List ByteArray} (h : q.Nodup) {i j : Nat} (hi : i < q.length) (hj : j < q.length) (e : strAt q i = strAt q j) : i = j := by
  rw [strAt_eq hi, strAt_eq hj] at e
  have hp := List.pairwise_iff_getElem.1 h
  rcases Nat.lt_trichotomy i j with h1 | h1 | h1
  · exact absurd e (hp i j hi hj h1)
  · exact h1
  · exact absurd e.symm (hp j i hj hi h1)
/-- h words have been looked at, and the first k of those near to the next one. -/
structure Part (us : List ByteArray) (a : ByteArray) (q : List ByteArray) (pi : Nat → Nat) (h : Nat) (ns : List ByteArray) (k : Nat) : Prop where
  ne : 0 < q.length
  first : strAt q 0 = a
  mem : ∀ x ∈ q, x ∈ us
  nodup : q.Nodup
  low : ∀ j, 1 ≤ j → j < q.length → pi j < j
  near : ∀ j, 1 ≤ j → j < q.length → nearS (strAt q (pi j)) (strAt q j) = true
  least : ∀ j i, 1 ≤ j → j < q.length → i < pi j → nearS (strAt q i) (strAt q j) = false
  order : ∀ j k, 1 ≤ j → j < k → k < q.length → pi j < pi k ∨ (pi j = pi k ∧ upS (strAt q j) (strAt q k) = true)
  shut : ∀ i x, i < h → i < q.length → x ∈ us → nearS (strAt q i) x = true → x ∈ q
  lt : ∀ j, 1 ≤ j → j < q.length → pi j < h ∨ (pi j = h ∧ strAt q j ∈ ns.take k)
  done : ∀ x ∈ ns.take k, x ∈ q
theorem Part.start {us : List ByteArray} {a : ByteArray} (ha : a ∈ us) (ns : List ByteArray) : Part us a [a] (fun _ => 0) 0 ns 0 where
  ne := by simp
  first := rfl
  mem := fun x hx => by rw [List.mem_singleton.1 hx]; exact ha
  nodup := by simp
  low := fun j h1 h2 => by simp at h2; omega
  near := fun j h1 h2 => by simp at h2; omega
  least := fun j i h1 h2 => by simp at h2; omega
  order := fun j k h1 h2 h3 => by simp at h3; omega
  shut := fun i x h => by omega
  lt := fun j h1 h2 => by simp at h2; omega
  done := fun x hx => by simp at hx
/-- The next word's turn. -/
theorem Part.turn {us : List ByteArray} {a : ByteArray} {q : List ByteArray} {pi : Nat → Nat} {h k : Nat} {ns : List ByteArray} (P : Part us a q pi h ns k) (hk : k = 0) (ns' : List ByteArray) : Part us a q pi h ns' 0 where
  ne := P.ne
  first := P.first
  mem := P.mem
  nodup := P.nodup
  low := P.low
  near := P.near
  least := P.least
  order := P.order
  shut := P.shut
  lt := fun j h1 h2 => by
    rcases P.lt j h1 h2 with h3 | ⟨_, h3⟩
    · exact .inl h3
    · subst hk; simp at h3
  done := fun x hx => by simp at hx
theorem Part.skip {us : List ByteArray} {a : ByteArray} {q : List ByteArray} {pi : Nat → Nat} {h k : Nat} {ns : List ByteArray} (P : Part us a q pi h ns k) (hk : k < ns.length) (hx : strAt ns k ∈ q) : Part us a q pi h ns (k + 1) where
  ne := P.ne
  first := P.first
  mem := P.mem
  nodup := P.nodup
  low := P.low
  near := P.near
  least := P.least
  order := P.order
  shut := P.shut
  lt := fun j h1 h2 => by
    rcases P.lt j h1 h2 with h3 | ⟨h3, h4⟩
    · exact .inl h3
    · exact .inr ⟨h3, by rw [takeS_snoc ns k hk]; exact List.mem_append_left _ h4⟩
  done := fun x hx' => by
    rw [takeS_snoc ns k hk] at hx'
    rcases List.mem_append.1 hx' with h1 | h1
    · exact P.done x h1
    · rw [List.mem_singleton.1 h1]; exact hx
def putAt (pi : Nat → Nat) (n v : Nat) : Nat → Nat := fun j => if j = n then v else pi j
theorem strAt_left {q : List ByteArray} {x : ByteArray} {j : Nat} (h : j < q.length) : strAt (q ++ [x]) j = strAt q j := by
  rw [strAt_eq h, strAt_eq (by simp; omega), List.getElem_append_left h]
theorem strAt_last (q : List ByteArray) (x : ByteArray) : strAt (q ++ [x]) q.length = x := by
  rw [strAt_eq (by simp)]; simp
theorem Part.add {us : List ByteArray} {a : ByteArray} {q : List ByteArray} {pi : Nat → Nat} {h k : Nat} {ns : List ByteArray} (P : Part us a q pi h ns k) (hh : h < q.length) (hk : k < ns.length) (hx : strAt ns k ∉ q) (hu : strAt ns k ∈ us)
    (hnr : nearS (strAt q h) (strAt ns k) = true) (hr : Rise ns) : Part us a (q ++ [strAt ns k]) (putAt pi q.length h) h ns (k + 1) := by
  have hpi : ∀ j, j < q.length → putAt pi q.length h j = pi j := fun j hj => if_neg (by omega)
  have hpl : putAt pi q.length h q.length = h := if_pos rfl
  have hlen : (q ++ [strAt ns k]).length = q.length + 1 := by simp
  have hcase : ∀ j, j < (q ++ [strAt ns k]).length → j < q.length ∨ j = q.length := fun j hj => by rw [hlen] at hj; omega
  refine ⟨by simp, ?_, ?_, ?_, ?_, ?_, ?_, ?_, ?_, ?_, ?_⟩
  · rw [strAt_left P.ne]; exact P.first
  · intro x hx'
    rcases List.mem_append.1 hx' with h1 | h1
    · exact P.mem x h1
    · rw [List.mem_singleton.1 h1]; exact hu
  · rw [List.nodup_append]
    exact ⟨P.nodup, by simp, fun y hy z hz e => by rw [List.mem_singleton.1 hz] at e; exact hx (by rw [← e]; exact hy)⟩
  · intro j h1 h2
    rcases hcase j h2 with h3 | rfl
    · rw [hpi j h3]; exact P.low j h1 h3
    · rw [hpl]; exact hh
  · intro j h1 h2
    rcases hcase j h2 with h3 | rfl
    · have := P.low j h1 h3
      rw [hpi j h3, strAt_left h3, strAt_left (by omega)]; exact P.near j h1 h3
    · rw [hpl, strAt_last, strAt_left hh]; exact hnr
  · intro j i h1 h2 h4
    rcases hcase j h2 with h3 | rfl
    · have := P.low j h1 h3
      rw [hpi j h3] at h4
      rw [strAt_left h3, strAt_left (by omega)]
      exact P.least j i h1 h3 h4
    · rw [hpl] at h4
      rw [strAt_last, strAt_left (by omega)]
      rw [Bool.eq_false_iff]
      intro e
      exact hx (P.shut i _ h4 (by omega) hu e)
  · intro i j h1 h2 h3
    rcases hcase j h3 with h4 | rfl
    · rw [hpi i (by omega), hpi j h4, strAt_left (by omega), strAt_left h4]
      exact P.order i j h1 h2 h4
    · rw [hpi i h2, hpl, strAt_last, strAt_left h2]
      rcases P.lt i h1 h2 with h5 | ⟨h5, h6⟩
      · exact .inl h5
      · refine .inr ⟨h5, ?_⟩
        obtain ⟨m, hm, e⟩ := mem_at h6
        have hm' : m < k := by rw [List.length_take] at hm; omega
        have e2 : strAt (ns.take k) m = strAt ns m := by
          rw [strAt_eq hm, strAt_eq (by omega), List.getElem_take]
        rw [← e, e2]
        exact hr m k hm' hk
  · intro i x h1 h2 h3 h4
    have hi : i < q.length := by omega
    rw [strAt_left hi] at h4
    exact List.mem_append_left _ (P.shut i x h1 hi h3 h4)
  · intro j h1 h2
    rcases hcase j h2 with h3 | rfl
    · rw [hpi j h3, strAt_left h3]
      rcases P.lt j h1 h3 with h4 | ⟨h4, h5⟩
      · exact .inl h4
      · exact .inr ⟨h4, by rw [takeS_snoc ns k hk]; exact List.mem_append_left _ h5⟩
    · rw [hpl, strAt_last]
      exact .inr ⟨rfl, by rw [takeS_snoc ns k hk]; exact List.mem_append_right _ (List.mem_singleton.2 rfl)⟩
  · intro x hx'
    rw [takeS_snoc ns k hk] at hx'
    rcases List.mem_append.1 hx' with h1 | h1
    · exact List.mem_append_left _ (P.done x h1)
    · exact List.mem_append_right _ h1
theorem Part.over {us : List ByteArray} {a : ByteArray} {q : List ByteArray} {pi : Nat → Nat} {h : Nat} (P : Part us a q pi h (pickTo (nearS (strAt q h)) us us.length) (pickTo (nearS (strAt q h)) us us.length).length) (ns' : List ByteArray) : Part us a q pi (h + 1) ns' 0 where
  ne := P.ne
  first := P.first
  mem := P.mem
  nodup := P.nodup
  low := P.low
  near := P.near
  least := P.least
  order := P.order
  shut := fun i x h1 h2 h3 h4 => by
    rcases Nat.lt_or_ge i h with h5 | h5
    · exact P.shut i x h5 h2 h3 h4
    · obtain rfl : i = h := by omega
      refine P.done x ?_
      rw [List.take_of_length_le (Nat.le_refl _)]
      unfold pickTo
      rw [List.take_of_length_le (Nat.le_refl _)]
      exact List.mem_filter.2 ⟨h3, h4⟩
  lt := fun j h1 h2 => by
    rcases P.lt j h1 h2 with h3 | ⟨h3, _⟩
    · exact .inl (by omega)
    · exact .inl (by omega)
  done := fun x hx => by simp at hx
theorem Part.found {us : List ByteArray} {a : ByteArray} {q : List ByteArray} {pi : Nat → Nat} {ns : List ByteArray} (P : Part us a q pi q.length ns 0) : Found us a q pi :=
  ⟨P.ne, P.first, P.mem, P.low, P.near, P.least, P.order, fun i x hi => P.shut i x hi hi⟩
theorem Part.few {us : List ByteArray} {a : ByteArray} {q : List ByteArray} {pi : Nat → Nat} {h k : Nat} {ns : List ByteArray} (P : Part us a q pi h ns k) : q.length ≤ us.length := nodup_len P.nodup P.mem
end Go.Proofs.Ytpjekfebpgjgnaa
