/-
  Plain facts on what makes a grammar valid: names that are known, lists that rise.
-/
import Derived.Test.YtilagppmljpclaaH7
import Derived.Maps.OwnOps
import Derived.Maps.OwnSet
import Derived.Maps.Views
import Derived.StringKeys
namespace Go.Proofs.Ytilagppmljpclaa
open Go.RowKit Go.Maps


/-- A name is that of one of the first k affixes. -/
def knowsTo (xs : List Aff) (name : ByteArray) : Nat → Bool
  | 0 => false
  | k + 1 => knowsTo xs name k || ((affG xs k).n.toList == name.toList)
theorem knowsTo_mono {xs : List Aff} {name : ByteArray} {i : Nat} : ∀ {k : Nat}, i < k → ((affG xs i).n.toList == name.toList) = true → knowsTo xs name k = true
  | 0, h, _ => absurd h (by omega)
  | k + 1, h, e => by
    unfold knowsTo
    rcases Nat.lt_or_ge i k with h1 | h1
    · rw [knowsTo_mono h1 e, Bool.true_or]
    · obtain rfl : i = k := by omega
      rw [e, Bool.or_true]
theorem knowsTo_at {xs : List Aff} {name : ByteArray} : ∀ {k : Nat}, knowsTo xs name k = true → ∃ i, i < k ∧ ((affG xs i).n.toList == name.toList) = true
  | 0, h => by simp [knowsTo] at h
  | k + 1, h => by
    unfold knowsTo at h
    rw [Bool.or_eq_true] at h
    rcases h with h | h
    · obtain ⟨i, hi, e⟩ := knowsTo_at h
      exact ⟨i, by omega, e⟩
    · exact ⟨k, by omega, h⟩
/-- No earlier affix has the name of affix i. -/
def freshB (xs : List Aff) (i : Nat) : Bool := !knowsTo xs (affG xs i).n i
def cntFresh (xs : List Aff) : Nat → Nat
  | 0 => 0
  | k + 1 => cntFresh xs k + (if freshB xs k = true then 1 else 0)
theorem cntFresh_le (xs : List Aff) : ∀ k, cntFresh xs k ≤ k
  | 0 => Nat.le_refl _
  | k + 1 => by
    have := cntFresh_le xs k
    unfold cntFresh
    split <;> omega
theorem cntFresh_all (xs : List Aff) : ∀ k, decide (cntFresh xs k = k) = allTo (freshB xs) k
  | 0 => rfl
  | k + 1 => by
    have ih := cntFresh_all xs k
    have hle := cntFresh_le xs k
    have e : cntFresh xs (k + 1) = cntFresh xs k + (if freshB xs k = true then 1 else 0) := rfl
    rw [allTo_succ, ← ih, e]
    cases hf : freshB xs k
    · simp; omega
    · simp
/-- An affix of a grammar is valid, and its name is new. -/
def okA (xs : List Aff) (i : Nat) : Bool := affB (affG xs i).n (affG xs i).w (affG xs i).s (affG xs i).a && freshB xs i
def affsB (xs : List Aff) (i : Nat) : Bool := affB (affG xs i).n (affG xs i).w (affG xs i).s (affG xs i).a
/-- A use of a stem is a name of the grammar, and greater than the one ahead of it. -/
def useB (xs : List Aff) (us : List ByteArray) (j : Nat) : Bool := knowsTo xs (strAt us j) xs.length && (decide (j = 0) || upS (strAt us (j - 1)) (strAt us j))
def stemB (xs : List Aff) (x : Stm) : Bool := allTo (useB xs x.uses) x.uses.length && longB x.word
def okSt (xs : List Aff) (ss : List Stm) (j : Nat) : Bool := stemB xs (stmG ss j) && (decide (j = 0) || upS (stmG ss (j - 1)).word (stmG ss j).word)
/-- A grammar is valid. -/
def okG (xs : List Aff) (ss : List Stm) : Bool := allTo (okA xs) xs.length && allTo (okSt xs ss) ss.length && (decide (xs.length ≤ 12) && decide (ss.length ≤ 30))
theorem okG_affs {xs : List Aff} {ss : List Stm} (h : allTo (okA xs) xs.length = false) : okG xs ss = false := by simp [okG, h]
theorem okG_stms {xs : List Aff} {ss : List Stm} (h : allTo (okSt xs ss) ss.length = false) : okG xs ss = false := by simp [okG, h]
theorem okG_len {xs : List Aff} {ss : List Stm} (h : ¬ (xs.length ≤ 12 ∧ ss.length ≤ 30)) : okG xs ss = false := by
  unfold okG
  by_cases h1 : xs.length ≤ 12
  · have h2 : ¬ ss.length ≤ 30 := fun e => h ⟨h1, e⟩
    simp [h2]
  · simp [h1]
theorem okG_rest {xs : List Aff} {ss : List Stm} (h1 : allTo (okA xs) xs.length = true) (h2 : allTo (okSt xs ss) ss.length = true) : okG xs ss = (decide (xs.length ≤ 12) && decide (ss.length ≤ 30)) := by simp [okG, h1, h2]
theorem okA_split {xs : List Aff} : ∀ {k : Nat}, allTo (affsB xs) k = true → allTo (okA xs) k = allTo (freshB xs) k
  | 0, _ => rfl
  | k + 1, h => by
    rw [allTo_succ, Bool.and_eq_true] at h
    rw [allTo_succ, allTo_succ, okA_split h.1]
    have : okA xs k = freshB xs k := by
      have h2 := h.2
      unfold affsB at h2
      unfold okA
      rw [h2, Bool.true_and]
    rw [this]
theorem okG_fresh {xs : List Aff} {ss : List Stm} (h1 : allTo (affsB xs) xs.length = true) (h2 : allTo (okSt xs ss) ss.length = true) (h3 : xs.length ≤ 12) (h4 : ss.length ≤ 30) : okG xs ss = decide (cntFresh xs xs.length = xs.length) := by
  rw [cntFresh_all, ← okA_split h1]
  simp [okG, h2, h3, h4]
theorem okA_not {xs : List Aff} {i : Nat} (h : affsB xs i = false) : okA xs i = false := by
  unfold affsB at h
  unfold okA
  rw [h, Bool.false_and]

/-! ### The set of names -/
/-- Block B is the set of the names of the first k affixes. -/
def NameSet (w : World) (B : Nat) (xs : List Aff) (k : Nat) : Prop :=
  ∃ D : DataW Unit, Tidy D ∧ w.ownsMap Try.prog 9 (unitElem (H := Unit)) B k D ∧ (∀ s : ByteArray, has D (.string s.data.toList) = knowsTo xs s k) ∧ size D = cntFresh xs k
theorem lawS : Keyed Try.prog 9 := string_keyed Try.underlying9
theorem zeroU (w : World) : (zeroValue 180).run Try.prog w = .ok (.agg #[]) w := by kernel_rfl
theorem NameSet.kept {w w' : World} {B B' : Nat} {xs : List Aff} {k : Nat} (h : NameSet w B xs k) (hb : Below B' w w') (hB : B < B') : NameSet w' B xs k := by
  obtain ⟨D, h1, ⟨es, clock, h2, h3⟩, h4⟩ := h
  exact ⟨D, h1, ⟨es, clock, (hb.block B hB).trans h2, h3⟩, h4⟩
theorem NameSet.lt {w : World} {B : Nat} {xs : List Aff} {k : Nat} (h : NameSet w B xs k) : B < w.heap.size := by
  obtain ⟨D, h1, ⟨es, clock, h2, h3⟩, h4⟩ := h
  exact (Array.getElem?_eq_some_iff.1 h2).1
theorem NameSet.empty (w : World) (xs : List Aff) : NameSet (w.alloc (.map #[] 0)) w.heap.size xs 0 :=
  ⟨.map [], tidy_empty, World.ownsMap_made _ _ _ _, fun _ => rfl, rfl⟩
theorem lit_ne {a b : ByteArray} (h : ¬ a = b) : (Lit.string a.data.toList) ≠ .string b.data.toList := fun e => h (Go.WideShapes.bytes_inj (by injection e))
theorem name_put {D : DataW Unit} (hD : Tidy D) {xs : List Aff} {k : Nat} (hh : ∀ s : ByteArray, has D (.string s.data.toList) = knowsTo xs s k) (hs : size D = cntFresh xs k) {n : ByteArray} (hn : (affG xs k).n = n) (d : DataW Unit) :
    Tidy (D.put (.string n.data.toList) d) ∧ (∀ s : ByteArray, has (D.put (.string n.data.toList) d) (.string s.data.toList) = knowsTo xs s (k + 1)) ∧ size (D.put (.string n.data.toList) d) = cntFresh xs (k + 1) := by
  refine ⟨Tidy.put (k := .string n.data.toList) hD trivial d, fun s => ?_, ?_⟩
  · unfold knowsTo
    rw [hn]
    by_cases e : s = n
    · subst e
      rw [has_put_same (k := .string s.data.toList) hD.isMap trivial, strSame, Bool.or_true]
    · rw [has_put_other (lit_ne e), hh, strNe (fun e' => e e'.symm), Bool.or_false]
  · rw [size_put hD, hh, hs]
    have e : cntFresh xs (k + 1) = cntFresh xs k + (if freshB xs k = true then 1 else 0) := rfl
    rw [e]
    unfold freshB
    rw [hn]
    cases knowsTo xs n k <;> rfl
end Go.Proofs.Ytilagppmljpclaa
