/-
  Lists of strings laid one behind the other by the library, any number of them.
-/
import Derived.Test.YtpeobloofofnlaaL6
import Derived.Lib.AppendZeros
import Derived.Laws.OwnMore
import Derived.Laws.AppendOwn
namespace Go.Proofs.Ytpeobloofofnlaa
open Go.RowKit

theorem append_noneL {w : World} {base : Nat} {e : TypeId} {size : Nat} {P : Program} (t ty : TypeId) (i : TypeInfo) (ht : P.underlying t = some (.slice e)) (hi : P.info? e = some i)
    (v : Value) (n c : Nat) (xs : List Value) (hown : w.ownsRow base e size v n xs) : (Builtin.append_ #[t, t] ty #[v, .slice none 0 c]).run P w = .ok v w := by
  rcases hown.2 with ⟨rfl, rfl⟩ | ⟨g, cap, cur, rfl, _, _, hnc, _⟩
  · simp [Builtin.append_, run_underlying ht, sizeOf, typeInfo, hi, Builtin.lenOf, Builtin.firstCells]
  · simp [Builtin.append_, run_underlying ht, sizeOf, typeInfo, hi, Builtin.lenOf, Builtin.firstCells, hnc, storeCells]


theorem strs_oneL (ss : List ByteArray) : ∀ u ∈ ss.map Value.string, u.oneCell' = true := by
  intro u hu
  rw [List.mem_map] at hu
  obtain ⟨x, _, rfl⟩ := hu
  rfl
theorem strs_newsL {w : World} {b off : Nat} {ss : List ByteArray} (h : ∀ j, j < ss.length → w.cell? ⟨b, off + j, none⟩ = some (.string (strAt ss j))) : ∀ j u, (ss.map Value.string)[j]? = some u → w.cell? ((⟨b, off, none⟩ : Addr).add j) = some u := by
  intro j u hj
  have hjl : j < ss.length := by
    rcases Nat.lt_or_ge j ss.length with h | h
    · exact h
    · rw [List.getElem?_eq_none (by simpa using h)] at hj; cases hj
  rw [Go.WideShapes.add_plain, h j hjl, ← hj, strAt_map ss j hjl]

/-- More strings behind a row of the call's own: whatever slice they lie in. -/
theorem wpList_append_strs {w : World} {ops : Array Oper} {rest : List Oper} {o : Oper} {a : Act} {Q : Exit → Act → World → Prop} (hgd : o.guard = none) (s x : Operand)
    (ho : o.op = .call { callee := .builtin .append, args := #[s, x], argTypes := #[38, 38] }) {B : Nat} {v u : Value} {xs ys : List ByteArray} (hs : a.eval s = v) (hx : a.eval x = u)
    (hown : OwnS B w v xs) (hst : Strs w u ys) (hl : xs.length + ys.length ≤ 4000000) (hB : B ≤ w.heap.size)
    (h : ∀ v' w', OwnS B w' v' (xs ++ ys) → w.grownBy w' v.ownBlock → wpList Try.prog ops Q rest (a.put o.dst v') w') : wpList Try.prog ops Q (o :: rest) a w := by
  obtain ⟨i0, hi, hz0, hz1, hz2⟩ := info_parts infoS
  obtain ⟨ad, cap, rfl, l1, m1, k1⟩ := hst
  rcases Nat.eq_zero_or_pos ys.length with hz | hz
  · have hnil : ys = [] := List.eq_nil_of_length_eq_zero hz
    subst hnil
    rcases ad with _ | a2
    · refine Lib.wpList_append_run w hgd s x _ _ ho v _ hs hx v w (append_noneL 38 _ i0 Try.underlying38 hi _ _ _ _ hown) ?_
      exact h v w (by rw [List.append_nil]; exact hown) (World.grownBy.refl _ _)
    · refine wpList_append_own w hgd s x 38 ho B 9 i0 (.string ByteArray.empty) 1 16 Try.underlying38 hi hz0 hz1 hz2 rfl (by decide) v _ _ hs hown a2 0 cap [] hx rfl (fun j u h => by simp at h) (fun u h => by simp at h) ?_ ?_ hB ?_
      · unfold maxLen; omega
      · omega
      · intro v' w' hw hg _
        refine h v' w' ?_ hg
        rw [List.append_nil] at hw ⊢
        exact hw
  · obtain ⟨b2, o2, rfl, hb2, hk2⟩ := k1 hz
    refine wpList_append_own w hgd s x 38 ho B 9 i0 (.string ByteArray.empty) 1 16 Try.underlying38 hi hz0 hz1 hz2 rfl (by decide) v _ _ hs hown ⟨b2, o2, none⟩ ys.length cap (ys.map Value.string) hx (by simp) (strs_newsL hk2) (strs_oneL _) ?_ ?_ hB ?_
    · unfold maxLen; omega
    · omega
    · intro v' w' hw hg _
      refine h v' w' ?_ hg
      rw [← List.map_append] at hw
      unfold OwnS
      rw [List.length_append]
      exact hw

/-! ### The lists and what of them is laid -/
def partAt (ps : List (List ByteArray)) (k : Nat) : List ByteArray := ps.getD k []
def joinTo (ps : List (List ByteArray)) (k : Nat) : List ByteArray := (ps.take k).flatten
theorem joinTo_succ {ps : List (List ByteArray)} {k : Nat} (h : k < ps.length) : joinTo ps (k + 1) = joinTo ps k ++ partAt ps k := by
  unfold joinTo partAt
  rw [List.take_succ_eq_append_getElem h, List.flatten_append]
  simp [List.getD_eq_getElem?_getD, h]
theorem joinTo_all (ps : List (List ByteArray)) : joinTo ps ps.length = ps.flatten := by unfold joinTo; rw [List.take_length]
theorem joinTo_le (ps : List (List ByteArray)) (k : Nat) : (joinTo ps k).length ≤ ps.flatten.length := by
  have e : ps.flatten = (ps.take k).flatten ++ (ps.drop k).flatten := by rw [← List.flatten_append, List.take_append_drop]
  rw [e, List.length_append]
  unfold joinTo
  omega

end Go.Proofs.Ytpeobloofofnlaa
