/-
  How many sub-racks there are; what is left of a rack is one of them; no program in sight.
-/
import Derived.Test.YtilagppmljpclaaJC
import Derived.Test.YtilagppmljpclaaO5
namespace Go.Proofs.Ytilagppmljpclaa
open Go.RowKit

def prodT (F : Nat → Nat) : Nat → Nat
  | 0 => 1
  | m + 1 => (F (26 - m) + 1) * prodT F m
theorem prodT_congr {F G : Nat → Nat} : ∀ {m : Nat}, (∀ i, i < m → F (26 - i) = G (26 - i)) → prodT F m = prodT G m
  | 0, _ => rfl
  | m + 1, h => by rw [prodT, prodT, h m (by omega), prodT_congr fun i hi => h i (by omega)]
theorem chunks_sum {F : Nat → Nat} {g : Nat → List (List UInt8)} (hg : ∀ j, j < 27 → (g j).length = F j * prodT F (26 - j)) : ∀ {m k : Nat}, k + m = 27 → 1 + ((List.range' k m).flatMap g).length = prodT F m
  | 0, k, _ => by simp [prodT]
  | m + 1, k, h => by
    rw [List.range'_succ, List.flatMap_cons, List.length_append, hg k (by omega), prodT]
    have ih := chunks_sum hg (m := m) (k := k + 1) (by omega)
    have e1 : 26 - k = m := by omega
    have e2 : 26 - m = k := by omega
    rw [e1, e2, ← ih, Nat.add_mul]
    omega
theorem choose_len : ∀ (n : Nat) (F : Nat → Nat) (k : Nat) (c : List UInt8), k < 27 → tot F 27 ≤ n → (chooseL n F k c).length = prodT F (27 - k) := by
  intro n
  induction n with
  | zero =>
    intro F k c hk h
    have hz : ∀ j, j < 27 → F j = 0 := fun j hj => by have := tot_ge (F := F) hj; omega
    rw [choose_chunks h, List.length_cons, Nat.add_comm]
    refine chunks_sum (fun j hj => ?_) (by omega)
    rw [hz j hj]
    unfold chunk
    rw [if_pos (hz j hj)]
    simp
  | succ n ih =>
    intro F k c hk h
    rw [choose_chunks h, List.length_cons, Nat.add_comm]
    refine chunks_sum (fun j hj => ?_) (by omega)
    unfold chunk
    by_cases h0 : F j = 0
    · rw [if_pos h0, h0]; simp
    · rw [if_neg h0]
      have ht := tot_dec h0 (n := 27)
      rw [if_pos hj] at ht
      rw [ih (decK F j) j _ hj (by omega), show 27 - j = (26 - j) + 1 by omega, prodT]
      have e : decK F j (26 - (26 - j)) + 1 = F j := by
        rw [show 26 - (26 - j) = j by omega]
        unfold decK
        rw [if_pos rfl]
        omega
      rw [e, prodT_congr (F := decK F j) (G := F) fun i hi => by unfold decK; rw [if_neg (by omega)]]
theorem prodT_run {F G : Nat → Nat} {K r : Nat} (hK : K < 27) (h1 : F K = r) (h2 : G K = 0) (h3 : ∀ j, j < 27 → j ≠ K → F j = G j) : ∀ {m : Nat}, m ≤ 27 → prodT F m = if 26 - K < m then (r + 1) * prodT G m else prodT G m
  | 0, _ => by rw [if_neg (by omega)]; rfl
  | m + 1, hm => by
    rw [prodT, prodT, prodT_run hK h1 h2 h3 (m := m) (by omega)]
    by_cases e : 26 - m = K
    · rw [if_neg (by omega), if_pos (by omega), e, h1, h2]
      simp
    · rw [h3 (26 - m) (by omega) e]
      by_cases h4 : 26 - K < m
      · rw [if_pos h4, if_pos (by omega)]
        exact Nat.mul_left_comm _ _ _
      · rw [if_neg h4, if_neg (by omega)]
theorem pow_ge : ∀ x : Nat, x + 1 ≤ 2 ^ x
  | 0 => by simp
  | x + 1 => by have := pow_ge x; rw [Nat.pow_succ]; omega
theorem prodT_le (F : Nat → Nat) : ∀ {m : Nat}, m ≤ 27 → prodT F m * 2 ^ tot F (27 - m) ≤ 2 ^ tot F 27
  | 0, _ => by simp [prodT]
  | m + 1, hm => by
    have ih := prodT_le F (m := m) (by omega)
    rw [show 27 - m = (27 - (m + 1)) + 1 by omega, tot, Nat.pow_add] at ih
    have e : 27 - (m + 1) = 26 - m := by omega
    rw [e] at ih ⊢
    rw [prodT]
    refine Nat.le_trans ?_ ih
    have h1 := Nat.mul_le_mul_right (prodT F m) (pow_ge (F (26 - m)))
    have h2 := Nat.mul_le_mul_right (2 ^ tot F (26 - m)) h1
    refine Nat.le_trans h2 (Nat.le_of_eq ?_)
    rw [Nat.mul_comm (2 ^ F (26 - m)) (prodT F m), Nat.mul_assoc, Nat.mul_comm (2 ^ F (26 - m))]
theorem prod_few {l : List UInt8} (ht : allTiles l = true) : prodT (cnt l) 27 ≤ 2 ^ l.length := by
  have := prodT_le (cnt l) (m := 27) (Nat.le_refl _)
  rw [tot_cnt ht, Nat.sub_self, tot, Nat.pow_zero, Nat.mul_one] at this
  exact this

/-! ### There are sub-racks, and so many -/
theorem ex_subs {s : ByteArray} (hr : rackB s = true) : ∃ M : List ByteArray, SubOut s (M, 0) ∧ M.length = prodT (cnt s.data.toList) 27 := by
  obtain ⟨h1, h7⟩ := rack_seven hr
  obtain ⟨ht, ha, -⟩ := pileB_iff.1 h1
  have htot : tot (cnt s.data.toList) 27 ≤ s.size := by rw [tot_cnt ht, len_list]; exact Nat.le_refl _
  have hn := choose_nodup s.size (cnt s.data.toList) 0 [] (by omega) htot
  obtain ⟨C, hC⟩ : ∃ C, (chooseL s.size (cnt s.data.toList) 0 []).map txt = C := ⟨_, rfl⟩
  have hlen : C.length = prodT (cnt s.data.toList) 27 := by rw [← hC, List.length_map, choose_len _ _ _ _ (by omega) htot]
  have hmem : ∀ x : ByteArray, x ∈ C ↔ x.data.toList.Sublist s.data.toList := fun x => by
    rw [← hC, List.mem_map]
    constructor
    · rintro ⟨y, hy, rfl⟩
      obtain ⟨z, hz0, hz⟩ := (choose_mem _ _ _ _ _ (by omega) htot).1 hy
      rw [List.nil_append] at hz0
      subst hz0
      rw [txt_list]
      exact (adds_sub ht ha).1 hz
    · intro hx
      exact ⟨x.data.toList, (choose_mem _ _ _ _ _ (by omega) htot).2 ⟨_, rfl, (adds_sub ht ha).2 hx⟩, txt_of x⟩
  have hn2 : C.Nodup := by
    rw [← hC]
    unfold List.Nodup
    rw [List.pairwise_map]
    refine List.Pairwise.imp (fun {a b} hab e => hab ?_) hn
    have := congrArg (fun x : ByteArray => x.data.toList) e
    simpa [txt_list] using this
  have hp := List.mergeSort_perm C (fun x y => !ltS y x)
  have hs := List.pairwise_mergeSort (le := fun x y => !ltS y x) (fun a b c h1 h2 => by
    simp only [Bool.not_eq_true'] at h1 h2 ⊢
    cases h3 : ltS c a
    · rfl
    · cases h4 : ltS b c
      · have := ltS_total h4 h2
        subst this
        rw [h1] at h3
        cases h3
      · have := ltS_trans h4 h3
        rw [h1] at this
        cases this) (fun a b => by
    cases h3 : ltS b a
    · rfl
    · cases h4 : ltS a b
      · rfl
      · have := ltS_trans h3 h4
        rw [ltS_irr] at this
        cases this) C
  refine ⟨C.mergeSort fun x y => !ltS y x, ⟨fun h => (by rw [hr] at h; cases h), fun _ => ⟨⟨?_, fun x => by rw [hp.mem_iff, hmem]⟩, rfl⟩, ?_⟩, by rw [hp.length_eq, hlen]⟩
  · refine List.Pairwise.imp₂ (fun {a b} h1 h2 => ?_) hs (hp.nodup_iff.2 hn2)
    cases h3 : ltS a b
    · exact absurd (ltS_total h3 (by simpa using h1)) h2
    · rfl
  · show (C.mergeSort fun x y => !ltS y x).length ≤ 1024
    rw [hp.length_eq, hlen]
    refine Nat.le_trans (prod_few ht) (Nat.le_trans (Nat.pow_le_pow_right (n := 2) (j := 7) (by decide) (by rw [len_list]; exact h7)) (by decide))
/-- What is left of a rack behind a sub-rack is a sub-rack. -/
theorem rest_sub {r y : List UInt8} (hr : pileB r = true) (hy : y.Sublist r) : takeOut r y = (lessL r y, 0) ∧ (lessL r y).Sublist r := by
  obtain ⟨ht, ha, hl⟩ := pileB_iff.1 hr
  have h1 : pileB y = true := pileB_iff.2 ⟨tiles_sub hy ht, asc_sub hy ha, Nat.le_trans hy.length_le hl⟩
  have h2 : hasAll r y = true := hasAll_iff.2 fun k _ => hy.count_le _
  refine ⟨takeOut_yes hr h1 h2, (adds_sub ht ha).1 ⟨pileN_asc _ (Nat.le_refl _), pileN_tiles _ (Nat.le_refl _), fun x hx => ?_, fun j hj => ?_⟩⟩
  · obtain ⟨j, hj, rfl⟩ := pileN_mem hx
    exact tileOf_le (Nat.zero_le _) hj
  · unfold lessL
    rw [cnt_pileN _ hj]
    omega
/-- A run of one tile, and what follows it. -/
theorem run_prod {l : List UInt8} (ht : allTiles l = true) {i k : Nat} {a : UInt8} (ha : Asc l) (hik : i < k) (h1 : ∀ j, i ≤ j → j < k → l[j]? = some a) (h2 : ∀ x, l[k]? = some x → x ≠ a) :
    prodT (cnt (l.drop i)) 27 = (k - i + 1) * prodT (cnt (l.drop k)) 27 := by
  have hsplit : l.drop i = List.replicate (k - i) a ++ l.drop k := by
    apply List.ext_getElem?
    intro j
    rw [List.getElem?_drop, List.getElem?_append, List.length_replicate]
    by_cases hj : j < k - i
    · rw [if_pos hj, h1 (i + j) (by omega) (by omega), List.getElem?_replicate, if_pos hj]
    · rw [if_neg hj, List.getElem?_drop]
      congr 1
      omega
  have hai : l[i]? = some a := h1 i (Nat.le_refl _) hik
  have hta : tileB (a.toNat : Int) = true := tiles_mem ht (List.mem_of_getElem? hai)
  have hno : a ∉ l.drop k := by
    intro hm
    have hk2 : k < l.length := by
      rcases Nat.lt_or_ge k l.length with h | h
      · exact h
      · rw [List.drop_of_length_le h] at hm; cases hm
    have hx := List.getElem?_eq_getElem hk2
    have hne := h2 _ hx
    have hasc : Asc (l.drop i) := asc_sub (List.drop_sublist _ _) ha
    rw [hsplit] at hasc
    have h3 : l[k] ≤ a := by
      have h4 := asc_right hasc
      rw [List.drop_eq_getElem_cons hk2] at h4 hm
      rcases List.mem_cons.1 hm with e | hm
      · exact absurd e.symm hne
      · exact (List.pairwise_cons.1 h4).1 a hm
    have h5 : a ≤ l[k] := asc_mid hasc (List.mem_replicate.2 ⟨by omega, rfl⟩) (by rw [List.drop_eq_getElem_cons hk2]; exact List.mem_cons_self)
    exact hne (UInt8.le_antisymm h3 h5)
  have hK := kindN_lt hta
  have hc : ∀ j, j < 27 → cnt (l.drop i) j = (if j = kindN a then k - i else 0) + cnt (l.drop k) j := fun j hj => by
    rw [hsplit, cnt_append]
    congr 1
    unfold cnt
    rw [List.count_replicate]
    by_cases e : j = kindN a
    · rw [if_pos e, e, tileOf_kind hta]; simp
    · rw [if_neg e]
      have : ¬ a = tileOf j := fun x => e (by rw [x, kind_tileOf hj])
      simp [this]
  have hz : cnt (l.drop k) (kindN a) = 0 := by
    unfold cnt
    rw [tileOf_kind hta, List.count_eq_zero]
    exact hno
  have := prodT_run (F := cnt (l.drop i)) (G := cnt (l.drop k)) (K := kindN a) (r := k - i) hK (by rw [hc _ hK, if_pos rfl, hz]; rfl) hz (fun j hj hne => by rw [hc _ hj, if_neg hne, Nat.zero_add]) (m := 27) (Nat.le_refl _)
  rw [if_pos (by omega)] at this
  exact this
end Go.Proofs.Ytilagppmljpclaa
