/-
  Plain facts for numbering nodes in the order in which they are met.
-/
import Derived.Test.YtabbpnafkgljcaaDoorVO
import Derived.Test.YtabbpnafkgljcaaDoorVA
namespace Go.Proofs.YtabbpnafkgljcaaDoor
open Go.RowKit

theorem dfsL_snoc {visit : List Nat → Nat → List Nat} : ∀ (js : List Nat) (j : Nat) (vis : List Nat), dfsL visit (js ++ [j]) vis = if j ∈ dfsL visit js vis then dfsL visit js vis else visit (dfsL visit js vis) j
  | [], _, _ => rfl
  | a :: js, j, vis => dfsL_snoc js j (if a ∈ vis then vis else visit vis a)
theorem place_in {vis : List Nat} {p : Nat} (h : p ∈ vis) : place vis p = (vis.idxOf p : Int) := by unfold place; rw [if_pos h]
theorem place_out {vis : List Nat} {p : Nat} (h : p ∉ vis) : place vis p = -1 := by unfold place; rw [if_neg h]
theorem place_neg {vis : List Nat} {p : Nat} : place vis p < 0 ↔ p ∉ vis := by
  unfold place
  split
  · rename_i h
    exact ⟨fun h2 => absurd h2 (by omega), fun h2 => absurd h h2⟩
  · rename_i h
    exact ⟨fun _ => h, fun _ => by omega⟩
theorem place_lt {vis : List Nat} {n p : Nat} (h : Fit n vis) : place vis p < (n : Int) := by
  unfold place
  split
  · rename_i hm
    have h1 := idx_lt hm
    have h2 := nodup_len n vis h.1 h.2
    omega
  · omega
theorem place_low {vis : List Nat} {p : Nat} : -1 ≤ place vis p := by
  unfold place
  split <;> omega
theorem place_snoc {vis : List Nat} {k p : Nat} (hk : k ∉ vis) : place (vis ++ [k]) p = if p = k then (vis.length : Int) else place vis p := by
  by_cases hp : p = k
  · subst hp
    rw [if_pos rfl, place_in (by simp), List.idxOf_append, if_neg hk]
    simp
  · rw [if_neg hp]
    by_cases hm : p ∈ vis
    · rw [place_in hm, place_in (by simp [hm]), List.idxOf_append, if_pos hm]
    · rw [place_out hm, place_out (by simp [hm, hp])]
/-- The places of all nodes. -/
def placesN (n : Nat) (vis : List Nat) : List Int := (List.range n).map (place vis)
theorem placesN_len (n : Nat) (vis : List Nat) : (placesN n vis).length = n := by simp [placesN]
theorem placesN_at {n p : Nat} (vis : List Nat) (h : p < n) : (placesN n vis)[p]? = some (place vis p) := by simp [placesN, h]
theorem placesN_snoc {n k : Nat} {vis : List Nat} (hk : k ∉ vis) : (placesN n vis).set k (vis.length : Int) = placesN n (vis ++ [k]) := by
  refine List.ext_getElem? fun p => ?_
  rw [List.getElem?_set]
  by_cases hp : p < n
  · rw [placesN_at _ hp, placesN_at _ hp, place_snoc hk]
    by_cases e : k = p
    · subst e
      rw [if_pos rfl, if_pos (by rw [placesN_len]; exact hp), if_pos rfl]
    · rw [if_neg e, if_neg (fun e2 => e e2.symm)]
  · have h1 : (placesN n vis)[p]? = none := List.getElem?_eq_none (by rw [placesN_len]; omega)
    have h2 : (placesN n (vis ++ [k]))[p]? = none := List.getElem?_eq_none (by rw [placesN_len]; omega)
    rw [h1, h2]
    split
    · rw [if_neg (by rw [placesN_len]; omega)]
    · rfl
theorem placesN_nil (n : Nat) : placesN n [] = List.replicate n (-1) := by
  unfold placesN
  rw [List.map_congr_left (g := fun _ => (-1 : Int)) (fun p _ => place_out (by simp))]
  refine List.ext_getElem? fun p => ?_
  by_cases hp : p < n
  · simp [hp]
  · rw [List.getElem?_eq_none (by simp; omega), List.getElem?_eq_none (by simp; omega)]
/-- The nodes that have been met, without what is behind them. -/
def bareN (xs : List Nod) (vis : List Nat) : List Nod := vis.map fun p => ⟨(nodG xs p).f, (nodG xs p).ls, []⟩
theorem bareN_len (xs : List Nod) (vis : List Nat) : (bareN xs vis).length = vis.length := by simp [bareN]
theorem bareN_snoc (xs : List Nod) (vis : List Nat) (k : Nat) : bareN xs (vis ++ [k]) = bareN xs vis ++ [⟨(nodG xs k).f, (nodG xs k).ls, []⟩] := by simp [bareN]
/-- What is behind an entry, of the nodes themselves. -/
theorem stN_ent {xs : List Nod} {p : Nat} (h : p < xs.length) : stN (xs.map entD) p = (nodG xs p).ns.map Int.toNat := by
  unfold stN nodG
  rw [List.getD_eq_getElem?_getD, List.getElem?_map, List.getElem?_eq_getElem h, List.getD_eq_getElem?_getD, List.getElem?_eq_getElem h]
  rfl
theorem stD_ent {xs : List Nod} {p : Nat} (h : p < xs.length) : (xs.map entD).getD p stD = entD (nodG xs p) := by
  unfold nodG
  rw [List.getD_eq_getElem?_getD, List.getElem?_map, List.getElem?_eq_getElem h, List.getD_eq_getElem?_getD, List.getElem?_eq_getElem h]
  rfl
end Go.Proofs.YtabbpnafkgljcaaDoor
