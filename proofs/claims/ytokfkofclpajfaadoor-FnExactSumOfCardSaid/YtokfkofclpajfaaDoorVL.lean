/-
  Plain facts for the model's build: nodes as entries, the first equal one, the groups that a taking leaves.
  Rising strings: those behind a node, and the tails of a group.
  How many nodes the model's build may add.
-/
import Derived.Test.YtokfkofclpajfaaDoorVJ
import Derived.Test.YtokfkofclpajfaaDoorVA
import Derived.Test.YtokfkofclpajfaaDoorNB
namespace Go.Proofs.YtokfkofclpajfaaDoor

/-- A node as an entry. -/
def entD (x : Nod) : Ent := (x.f, x.ls.data.toList, x.ns.map Int.toNat)
def NatsD (x : Nod) : Prop := ∀ z ∈ x.ns, 0 ≤ z
theorem nats_inj : ∀ {a b : List Int}, (∀ z ∈ a, 0 ≤ z) → (∀ z ∈ b, 0 ≤ z) → a.map Int.toNat = b.map Int.toNat → a = b
  | [], [], _, _, _ => rfl
  | [], _ :: _, _, _, h => by simp at h
  | _ :: _, [], _, _, h => by simp at h
  | x :: a, y :: b, ha, hb, h => by
    simp at h
    have hx := ha x (by simp)
    have hy := hb y (by simp)
    rw [nats_inj (fun z hz => ha z (by simp [hz])) (fun z hz => hb z (by simp [hz])) h.2, show x = y by omega]
theorem sameD_ent {x y : Nod} (hx : NatsD x) (hy : NatsD y) : sameD x y = true ↔ entD x = entD y := by
  unfold sameD entD
  constructor
  · intro h
    simp only [Bool.and_eq_true, beq_iff_eq, decide_eq_true_eq] at h
    obtain ⟨h1, h2, h3⟩ := h
    have h4 : x.ls.data.toList = y.ls.data.toList := by rw [← ByteArray.toList_eq, ← ByteArray.toList_eq, h2]
    rw [h1, h3, h4]
  · intro h
    simp only [Prod.mk.injEq] at h
    obtain ⟨h1, h2, h3⟩ := h
    simp only [Bool.and_eq_true, beq_iff_eq, decide_eq_true_eq]
    refine ⟨h1, ?_, nats_inj hx hy h3⟩
    rw [show x.ls = y.ls from by
      have := Array.toList_inj.1 h2
      exact ByteArray.ext this]
theorem put_old {st : List Ent} {e : Ent} {k : Nat} (hk : st[k]? = some e) (hno : ∀ j, j < k → st[j]? ≠ some e) : put st e = (st, k) := by
  have hm := List.mem_of_getElem? hk
  unfold put
  rw [if_pos hm]
  have h1 : st[st.idxOf e]? = some e := by
    rw [List.getElem?_eq_getElem (List.idxOf_lt_length_of_mem hm)]
    simp
  have hkl := (List.getElem?_eq_some_iff.1 hk).1
  have h2 : st.idxOf e = k := by
    rcases Nat.lt_trichotomy (st.idxOf e) k with h | h | h
    · exact absurd h1 (hno _ h)
    · exact h
    · exfalso
      have h3 := List.not_of_lt_findIdx (p := (· == e)) (xs := st) (i := k) (by simpa [List.idxOf] using h)
      have h4 := (List.getElem?_eq_some_iff.1 hk).2
      simp [h4] at h3
  rw [h2]
theorem put_fresh {st : List Ent} {e : Ent} (hno : ∀ j, j < st.length → st[j]? ≠ some e) : put st e = (st ++ [e], st.length) := by
  unfold put
  rw [if_neg]
  intro hm
  obtain ⟨j, hj, he⟩ := List.getElem_of_mem hm
  exact hno j hj (by rw [List.getElem?_eq_getElem hj, he])
/-- The strings from a place on. -/
def fromL (us : List ByteArray) (a : Nat) : List (List UInt8) := (us.drop a).map (·.data.toList)
theorem fromL_end {us : List ByteArray} : fromL us us.length = [] := by unfold fromL; simp
theorem Taken.grp {us ts : List ByteArray} {a k : Nat} {c : UInt8} (h : Taken us a k c ts) (hak : a < k) (hkl : k ≤ us.length) (hne : ∀ j, a ≤ j → j < us.length → 0 < (strAt us j).size) (hend : k < us.length → ∀ (h2 : 0 < (strAt us k).size), (strAt us k)[0] ≠ c) :
    Proofs.YtokfkofclpajfaaDoor.grp (fromL us a) = (c, ts.map (·.data.toList)) :: Proofs.YtokfkofclpajfaaDoor.grp (fromL us k) := by
  have hts : ts.map (·.data.toList) ≠ [] := by
    intro e
    have := h.1
    have : ts = [] := List.map_eq_nil_iff.1 e
    subst this
    simp at *
    omega
  have h2 : fromL us a = (ts.map (·.data.toList)).map (c :: ·) ++ fromL us k := h.2
  rw [h2]
  refine grp_at hts ?_
  by_cases hk : k < us.length
  · have hy := hne k (by omega) hk
    refine .inr ⟨(strAt us k)[0], ((strAt us k).extract 1 (strAt us k).size).data.toList, fromL us (k + 1), ?_, hend hk hy⟩
    unfold fromL
    rw [drop_strAt hk, List.map_cons, head_tail hy]
  · obtain rfl : k = us.length := by omega
    exact .inl fromL_end
end Go.Proofs.YtokfkofclpajfaaDoor

namespace Go.Proofs.YtokfkofclpajfaaDoor

def RiseV (l : List (List UInt8)) : Prop := l.Pairwise (· < ·)
theorem RiseV.tails {c : UInt8} {ts rest : List (List UInt8)} (h : RiseV (ts.map (c :: ·) ++ rest)) : RiseV ts := by
  have h1 := (List.pairwise_append.1 h).1
  rw [List.pairwise_map] at h1
  exact h1.imp fun {a b} hab => by
    rcases List.cons_lt_cons_iff.1 hab with h2 | h2
    · exact absurd h2 (UInt8.lt_irrefl _)
    · exact h2.2
theorem RiseV.rest {l rest : List (List UInt8)} (h : RiseV (l ++ rest)) : RiseV rest := (List.pairwise_append.1 h).2.1
theorem RiseV.full {us : List ByteArray} (h : RiseV (fromL us 0)) {j : Nat} (h0 : 0 < j) (hj : j < us.length) : 0 < (strAt us j).size := by
  unfold fromL at h
  rw [List.drop_zero] at h
  unfold RiseV at h
  rw [List.pairwise_map] at h
  have h1 := List.pairwise_iff_getElem.1 h 0 j (by omega) hj h0
  have e : strAt us j = us[j] := by
    unfold strAt
    rw [List.getD_eq_getElem?_getD, List.getElem?_eq_getElem hj]
    rfl
  rw [e]
  rcases Nat.eq_zero_or_pos us[j].size with hz | hz
  · exfalso
    have hl : us[j].data.toList = [] := List.eq_nil_of_length_eq_zero (by rw [list_size]; exact hz)
    rw [hl] at h1
    exact List.not_lt_nil _ h1
  · exact hz
theorem Gph.W_rise {G : Gph} {n : Nat} (hN : ∀ i, i < n → ∀ j ∈ G.N i, j < n) (hL : ∀ i, i < n → (G.L i).Pairwise (· < ·)) : ∀ (k i : Nat), i < n → RiseV (G.W k i)
  | 0, i, _ => by
    unfold RiseV Gph.W
    split <;> simp
  | k + 1, i, hi => by
    unfold RiseV
    rw [Gph.W_succ]
    refine List.pairwise_append.2 ⟨by split <;> simp, ?_, ?_⟩
    · rw [List.pairwise_flatMap]
      refine ⟨fun e he => ?_, ?_⟩
      · rw [List.pairwise_map]
        exact (Gph.W_rise hN hL k e.2 (hN i hi e.2 (List.mem_map_of_mem he))).imp fun {a b} hab => List.cons_lt_cons_iff.2 (.inr ⟨rfl, hab⟩)
      · have h := hL i hi
        unfold Gph.L at h
        rw [List.pairwise_map] at h
        exact h.imp fun {a b} hab x hx y hy => by
          obtain ⟨x', _, rfl⟩ := List.mem_map.1 hx
          obtain ⟨y', _, rfl⟩ := List.mem_map.1 hy
          exact List.cons_lt_cons_iff.2 (.inl hab)
    · intro a ha b hb
      split at ha
      · simp at ha
        subst ha
        obtain ⟨e, _, hb2⟩ := List.mem_flatMap.1 hb
        obtain ⟨y', _, rfl⟩ := List.mem_map.1 hb2
        exact List.nil_lt_cons _ _
      · simp at ha
theorem isFin_from {us : List ByteArray} : isFin (fromL us 0) = decide (0 < us.length ∧ (strAt us 0).size = 0) := by
  unfold isFin fromL
  cases us with
  | nil => simp
  | cons u us =>
    have h : strAt (u :: us) 0 = u := rfl
    rw [h]
    simp only [List.drop_zero, List.map_cons, List.head?_cons, List.length_cons, Nat.zero_lt_succ, true_and]
    rw [← list_size u]
    cases u.data.toList <;> simp
theorem restOf_from {us : List ByteArray} : restOf (fromL us 0) = fromL us (if isFin (fromL us 0) = true then 1 else 0) := by
  unfold restOf
  split
  · unfold fromL
    cases us <;> simp
  · rfl
end Go.Proofs.YtokfkofclpajfaaDoor

namespace Go.Proofs.YtokfkofclpajfaaDoor

def lenS : List (List UInt8) → Nat
  | [] => 0
  | w :: ws => w.length + lenS ws
def sumC {α : Type} (c : α → Nat) : List α → Nat
  | [] => 0
  | a :: rs => c a + sumC c rs
theorem put_size (st : List Ent) (e : Ent) : (put st e).1.length ≤ st.length + 1 := by
  unfold put
  split
  · exact Nat.le_succ _
  · simp
theorem bldL_size {α : Type} {bld : List Ent → α → List Ent × Nat} {c : α → Nat} (hb : ∀ st a, (bld st a).1.length ≤ st.length + c a) : ∀ (l : List α) (st : List Ent) (acc : List Nat), (bldL bld l st acc).1.length ≤ st.length + sumC c l
  | [], st, acc => Nat.le_refl _
  | a :: rs, st, acc => by
    have h1 := bldL_size hb rs (bld st a).1 (acc ++ [(bld st a).2])
    have h2 := hb st a
    show (bldL bld rs (bld st a).1 (acc ++ [(bld st a).2])).1.length ≤ st.length + (c a + sumC c rs)
    omega
theorem grp_lens : ∀ (l : List (List UInt8)), sumC (fun ts => 1 + lenS ts) ((grp l).map (·.2)) ≤ lenS l
  | [] => Nat.le_refl _
  | [] :: ws => by
    show sumC (fun ts => 1 + lenS ts) ((grp ws).map (·.2)) ≤ 0 + lenS ws
    have := grp_lens ws
    omega
  | (c :: t) :: ws => by
    have h := grp_lens ws
    rw [grp_cons]
    cases hg : grp ws with
    | nil => simp [sumC, lenS]; omega
    | cons p gs =>
      obtain ⟨c', ts⟩ := p
      rw [hg] at h
      simp only [List.map_cons, sumC] at h
      simp only
      split
      · simp only [List.map_cons, sumC, lenS, List.length_cons]
        omega
      · simp only [List.map_cons, sumC, lenS, List.length_cons]
        omega
theorem restOf_lens (l : List (List UInt8)) : lenS (restOf l) ≤ lenS l := by
  unfold restOf
  split
  · cases l with
    | nil => exact Nat.le_refl _
    | cons w ws => simp [lenS]
  · exact Nat.le_refl _
/-- No more nodes than letters, and one. -/
theorem bldW_size : ∀ (f : Nat) (st : List Ent) (l : List (List UInt8)), (bldW f st l).1.length ≤ st.length + (1 + lenS l)
  | 0, st, l => by show st.length ≤ _; omega
  | f + 1, st, l => by
    have h1 := bldL_size (bldW_size f) ((grp (restOf l)).map (·.2)) st []
    have h2 := grp_lens (restOf l)
    have h3 := restOf_lens l
    have h4 := put_size (bldL (bldW f) ((grp (restOf l)).map (·.2)) st []).1 (isFin l, (grp (restOf l)).map (·.1), (bldL (bldW f) ((grp (restOf l)).map (·.2)) st []).2)
    show (put _ _).1.length ≤ _
    omega
theorem lenS_le {l : List (List UInt8)} {k : Nat} (h : ∀ w ∈ l, w.length ≤ k) : lenS l ≤ l.length * k := by
  induction l with
  | nil => exact Nat.zero_le _
  | cons w ws ih =>
    have h1 := ih fun x hx => h x (by simp [hx])
    have h2 := h w (by simp)
    rw [List.length_cons, Nat.succ_mul]
    show w.length + lenS ws ≤ _
    omega
end Go.Proofs.YtokfkofclpajfaaDoor
