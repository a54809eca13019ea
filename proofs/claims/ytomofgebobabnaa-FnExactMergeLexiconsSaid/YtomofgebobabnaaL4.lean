/-
  Plain facts: a sorted list without the repeated neighbours is the rising list of its words.
-/
import Derived.Test.YtomofgebobabnaaL3
import Derived.Lib.SlicesCompact
namespace Go.Proofs.Ytomofgebobabnaa
open Go.RowKit Go.Lib

theorem less_tri {x y : List UInt8} (h1 : Op.bytesLess x y = false) (h2 : ¬ x = y) : Op.bytesLess y x = true := by
  have h := less_or_same y x
  rw [h1] at h
  have h3 : (y == x) = false := by rw [beq_eq_false_iff_ne]; exact fun e => h2 e.symm
  rw [h3] at h
  simpa using h
theorem compact_to {d : Array (List UInt8)} (hs : ∀ i j, i < j → j < d.size → Op.bytesLess d[j]! d[i]! = false) :
    ∀ m, m ≤ d.size → (compactUpTo d m).Pairwise Up ∧ ∀ x, x ∈ compactUpTo d m ↔ ∃ j, j < m ∧ d[j]! = x
  | 0, _ => ⟨by simp [compactUpTo], fun x => by simp [compactUpTo]⟩
  | m + 1, hm => by
    obtain ⟨ih1, ih2⟩ := compact_to hs m (by omega)
    rw [compactUpTo_succ]
    cases hk : keeps d m
    · rw [if_neg Bool.false_ne_true, List.append_nil]
      refine ⟨ih1, fun x => (ih2 x).trans ?_⟩
      simp only [keeps, decide_eq_false_iff_not, not_or, Decidable.not_not, ne_eq] at hk
      constructor
      · rintro ⟨j, hj, rfl⟩; exact ⟨j, by omega, rfl⟩
      · rintro ⟨j, hj, rfl⟩
        rcases Nat.lt_or_ge j m with h | h
        · exact ⟨j, h, rfl⟩
        · obtain rfl : j = m := by omega
          exact ⟨j - 1, by omega, hk.2.symm⟩
    · rw [if_pos rfl]
      simp only [keeps, decide_eq_true_eq, ne_eq] at hk
      refine ⟨List.pairwise_append.2 ⟨ih1, by simp, fun a ha b hb => ?_⟩, fun x => ?_⟩
      · rw [List.mem_singleton] at hb
        subst hb
        obtain ⟨j, hj, rfl⟩ := (ih2 a).1 ha
        have hk' : ¬ d[m]! = d[m - 1]! := by
          rcases hk with h | h
          · omega
          · exact h
        have h1 : Up d[m - 1]! d[m]! := less_tri (hs (m - 1) m (by omega) (by omega)) hk'
        by_cases e : j = m - 1
        · rw [e]; exact h1
        · by_cases e2 : d[m - 1]! = d[j]!
          · rw [← e2]; exact h1
          · exact less_trans _ _ _ (less_tri (hs j (m - 1) (by omega) (by omega)) e2) h1
      · rw [List.mem_append, ih2, List.mem_singleton]
        constructor
        · rintro (⟨j, hj, rfl⟩ | rfl)
          · exact ⟨j, by omega, rfl⟩
          · exact ⟨m, by omega, rfl⟩
        · rintro ⟨j, hj, rfl⟩
          rcases Nat.lt_or_ge j m with h | h
          · exact .inl ⟨j, h, rfl⟩
          · obtain rfl : j = m := by omega
            exact .inr rfl
theorem le_less : (fun x y : List UInt8 => decide (x ≤ y)) = fun x y => !Op.bytesLess y x := by
  funext x y
  rw [less_lt, ← decide_not]
  rfl
theorem sort_down (zs : List (List UInt8)) : (zs.mergeSort fun x y => decide (x ≤ y)).Pairwise fun a b => Op.bytesLess b a = false := by
  rw [le_less]
  have h := List.pairwise_mergeSort (le := fun x y : List UInt8 => !Op.bytesLess y x) ?_ ?_ zs
  · refine h.imp fun {a b} hab => ?_
    simpa using hab
  · intro a b c h1 h2
    simp only [Bool.not_eq_true'] at h1 h2 ⊢
    cases hca : Op.bytesLess c a
    · rfl
    · by_cases e : b = a
      · subst e; rw [hca] at h2; cases h2
      · have := less_trans _ _ _ hca (less_tri h1 e)
        rw [h2] at this; cases this
  · intro a b
    cases hba : Op.bytesLess b a
    · rfl
    · cases hab : Op.bytesLess a b
      · rfl
      · have := less_trans _ _ _ hab hba
        rw [less_irr] at this; cases this
def byteArr (l : List UInt8) : ByteArray := ⟨l.toArray⟩
theorem bytesOf_byteArr (l : List UInt8) : bytesOf (byteArr l) = l := rfl
theorem byteArr_bytesOf (s : ByteArray) : byteArr (bytesOf s) = s := bytesOf_inj rfl
theorem map_byteArr (cs : List (List UInt8)) : (cs.map byteArr).map bytesOf = cs := by
  rw [List.map_map]
  exact List.map_id _
/-- Sorted, and each once: the list that the model makes. -/
theorem sorted_once (ws : List ByteArray) : (compact ((ws.map bytesOf).mergeSort fun x y => decide (x ≤ y))).map byteArr = makeL ws := by
  obtain ⟨zs, hz⟩ : ∃ zs, ((ws.map bytesOf).mergeSort fun x y => decide (x ≤ y)) = zs := ⟨_, rfl⟩
  have hd := sort_down (ws.map bytesOf)
  have hp := List.mergeSort_perm (ws.map bytesOf) fun x y => decide (x ≤ y)
  rw [hz] at hd hp ⊢
  have hget : ∀ i (hi : i < zs.length), zs.toArray[i]! = zs[i] := fun i hi => by simp [hi]
  obtain ⟨h1, h2⟩ := compact_to (d := zs.toArray) (fun i j hij hj => by
    have hj' : j < zs.length := by simpa using hj
    rw [hget j hj', hget i (by omega)]
    exact (List.pairwise_iff_getElem.1 hd) i j (by omega) hj' hij) zs.length (by simp)
  refine makeL_one ?_ fun x => ?_
  · rw [rise_pw, map_byteArr]; exact h1
  · rw [List.mem_map]
    constructor
    · rintro ⟨l, hl, rfl⟩
      obtain ⟨j, hj, e⟩ := (h2 l).1 hl
      rw [hget j hj] at e
      have hm : l ∈ ws.map bytesOf := hp.mem_iff.1 (by rw [← e]; exact List.getElem_mem _)
      obtain ⟨s, hs, rfl⟩ := List.mem_map.1 hm
      rw [byteArr_bytesOf]; exact hs
    · intro hx
      have hm : bytesOf x ∈ zs := hp.mem_iff.2 (List.mem_map_of_mem hx)
      obtain ⟨j, hj, e⟩ := List.mem_iff_getElem.1 hm
      exact ⟨bytesOf x, (h2 _).2 ⟨j, hj, by rw [hget j hj, e]⟩, byteArr_bytesOf x⟩
end Go.Proofs.Ytomofgebobabnaa
