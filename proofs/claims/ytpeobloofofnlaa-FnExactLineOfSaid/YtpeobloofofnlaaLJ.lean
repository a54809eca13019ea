/-
  A map of lists of words that the call itself has made: at each key a row of the call's own, no two keys' rows in one block.
-/
import Derived.Test.YtpeobloofofnlaaLM
import Derived.Maps.OwnOps
import Derived.Maps.OwnSet
import Derived.Maps.AppendAt
import Derived.Maps.Views
namespace Go.Proofs.Ytpeobloofofnlaa
open Go.RowKit Go.Lib

/-- What a map holds at a key, read as it is. -/
def idR (v : Value) : Option (DataW Value × List MemPlace) := some (.held v, [])
def nilD : DataW Value := .held (.slice none 0 0)
structure Groups (W : World) (k : TypeId) (B b n : Nat) (D : DataW Value) (f : Lit → List ByteArray) : Prop where
  map : W.ownsMap Try.prog k idR b n D
  low : b < B
  size : B ≤ W.heap.size
  own : ∀ κ, ∃ v, D.atKey κ nilD = .held v ∧ OwnS B W v (f κ)
  apart : ∀ κ κ' v v', κ ≠ κ' → D.atKey κ nilD = .held v → D.atKey κ' nilD = .held v' → v.ownBlock = none ∨ v.ownBlock ≠ v'.ownBlock
theorem Groups.made (w : World) (k : TypeId) (f : Lit → List ByteArray) (hf : ∀ κ, f κ = []) : Groups (w.alloc (.map #[] 0)) k (w.heap.size + 1) w.heap.size 0 (.map []) f := by
  refine ⟨World.ownsMap_made _ _ _ _, Nat.lt_succ_self _, by simp, fun κ => ⟨.slice none 0 0, rfl, by rw [hf]; exact OwnS.voidG _ _⟩, fun κ κ' v v' _ h _ => .inl ?_⟩
  injection h with h
  rw [← h]
  rfl
theorem ownsMap_below {W W' : World} {P : Program} {k : TypeId} {R : Value → Option (DataW Value × List MemPlace)} {b n : Nat} {D : DataW Value} (h : W.ownsMap P k R b n D) (hb : Below W.heap.size W W') : W'.ownsMap P k R b n D := by
  have hlt := h.lt
  obtain ⟨es, clock, h1, h2, h3, h4⟩ := h
  exact ⟨es, clock, (hb.block b hlt).trans h1, h2, h3, h4⟩
theorem Groups.below {W W' : World} {k : TypeId} {B b n : Nat} {D : DataW Value} {f : Lit → List ByteArray} (h : Groups W k B b n D f) (hb : Below W.heap.size W W') : Groups W' k B b n D f :=
  ⟨ownsMap_below h.map hb, h.low, Nat.le_trans h.size hb.size, fun κ => (h.own κ).imp fun _ ⟨h1, h2⟩ => ⟨h1, OwnS.kept h2 hb⟩, h.apart⟩
/-- One key's list is another one: in its old row or in a new one. -/
theorem Groups.put {W W2 W3 : World} {k : TypeId} {B b n : Nat} {D : DataW Value} {f f' : Lit → List ByteArray} {κ0 : Lit} {v0 v' : Value} (h : Groups W k B b n D f) (hk : WideAt.IsKeyLit κ0) (hat : D.atKey κ0 nilD = .held v0)
    (h1 : W.grownBy W2 v0.ownBlock) (ho : OwnS B W2 v' (f' κ0)) (hloc : v'.ownBlock = v0.ownBlock ∨ ∃ g, v'.ownBlock = some g ∧ W.heap.size ≤ g)
    (hm : W3.ownsMap Try.prog k idR b (n + 1) (D.put κ0 (.held v'))) (hg : W2.grownBy W3 (some b)) (hf : ∀ κ, κ ≠ κ0 → f' κ = f κ) : Groups W3 k B b (n + 1) (D.put κ0 (.held v')) f' := by
  have off : ∀ {w : World} {u : Value} {us : List ByteArray}, OwnS B w u us → u.ownBlock = none ∨ u.ownBlock ≠ some b := fun {w u us} hu => by
    cases hb : u.ownBlock with
    | none => exact .inl rfl
    | some g =>
      refine .inr fun e => ?_
      have h2 := hu.block g hb
      have h3 := h.low
      injection e with e
      omega
  have new : ∀ {κ : Lit} {v : Value}, κ ≠ κ0 → D.atKey κ nilD = .held v → v.ownBlock = none ∨ v.ownBlock ≠ v'.ownBlock := fun {κ v} hne hv => by
    rcases hloc with h2 | ⟨g, h2, h3⟩
    · rw [h2]; exact h.apart κ κ0 v v0 hne hv hat
    · obtain ⟨u, hu, hou⟩ := h.own κ
      obtain rfl : v = u := by rw [hv] at hu; injection hu
      cases hb : v.ownBlock with
      | none => exact .inl rfl
      | some j =>
        refine .inr fun e => ?_
        have h4 := hou.under j hb
        rw [h2] at e
        injection e with e
        omega
  refine ⟨hm, h.low, Nat.le_trans h.size (Nat.le_trans h1.size hg.size), fun κ => ?_, fun κ κ' u u' hne hu hu' => ?_⟩
  · by_cases hκ : κ = κ0
    · subst hκ
      exact ⟨v', Maps.atKey_put_same h.map.isMap hk _ _, World.ownsRow.kept ho hg (off ho)⟩
    · obtain ⟨v, hv, hov⟩ := h.own κ
      have h2 : OwnS B W2 v (f κ) := World.ownsRow.kept hov h1 (h.apart κ κ0 v v0 hκ hv hat)
      exact ⟨v, (Maps.atKey_put_other hκ _ _).trans hv, by rw [hf κ hκ]; exact World.ownsRow.kept h2 hg (off h2)⟩
  · by_cases hκ : κ = κ0
    · subst hκ
      rw [Maps.atKey_put_same h.map.isMap hk] at hu
      injection hu with hu
      subst hu
      rw [Maps.atKey_put_other (Ne.symm hne)] at hu'
      rcases new (Ne.symm hne) hu' with h2 | h2
      · cases hb : v'.ownBlock with
        | none => exact .inl rfl
        | some j => exact .inr (by rw [h2]; exact fun e => by cases e)
      · exact .inr (Ne.symm h2)
    · rw [Maps.atKey_put_other hκ] at hu
      by_cases hκ' : κ' = κ0
      · subst hκ'
        rw [Maps.atKey_put_same h.map.isMap hk] at hu'
        injection hu' with hu'
        subst hu'
        exact new hκ hu
      · rw [Maps.atKey_put_other hκ'] at hu'
        exact h.apart κ κ' u u' hne hu hu'

/-- The look-up at the operation. -/
theorem wpList_lookup_id {P : Program} (w : World) {ops : Array Oper} {rest : List Oper} {o : Oper} {a : Act} {Q : Exit → Act → World → Prop}
    (hg : o.guard = none) (m x : Operand) (t : TypeId) (hop : o.op = Op.lookup t m x false)
    (k e : TypeId) (K : Maps.Keyed P k) (ht : P.underlying t = some (.map k e)) (hz : (zeroValue e).run P w = .ok (.slice none 0 0) w) (b n : Nat) (D : DataW Value)
    (hm : a.eval m = .map (some b)) (hown : w.ownsMap P k idR b n D) (key : Value) (kl : Lit) (hx : a.eval x = key) (hkey : Go.keyOf P k key = some kl)
    (hK : ∀ v : Value, D.atKey kl nilD = .held v → wpList P ops Q rest (a.put o.dst v) w) :
    wpList P ops Q (o :: rest) a w := by
  refine wpList_plain hg fun K' hK' => ?_
  obtain ⟨v, ps, hrun, hR⟩ := hown.lookup K ht hz (zd := nilD) (zp := []) rfl hkey
  have hat : D.atKey kl nilD = .held v := by
    unfold idR at hR
    injection hR with hR
    injection hR with h1 _
    exact h1.symm
  unfold Oper.wp
  simp [execOp, hop, hm, hx, hrun, Result.andThen]
  exact hK' _ _ (hK v hat)

theorem zeroSlice (w : World) : (zeroValue 38).run Try.prog w = .ok (.slice none 0 0) w := by kernel_rfl
/-- One string more behind a row of the call's own, and where the row lies then. -/
theorem wpList_append_word {w : World} {ops : Array Oper} {rest : List Oper} {o : Oper} {a : Act} {Q : Exit → Act → World → Prop} (hgd : o.guard = none) (s x : Operand)
    (ho : o.op = .call { callee := .builtin .append, args := #[s, x], argTypes := #[38, 38] }) {B : Nat} {v : Value} {xs : List ByteArray} (y : ByteArray) (hs : a.eval s = v) (hx : a.eval x = .slice (some ⟨w.heap.size, 0, none⟩) 1 1)
    (hown : OwnS B w v xs) (hl : xs.length ≤ 3000000) (hB : B ≤ w.heap.size)
    (h : ∀ v' w', OwnS B w' v' (xs ++ [y]) → w.grownBy w' v.ownBlock → (v'.ownBlock = v.ownBlock ∨ ∃ g, v'.ownBlock = some g ∧ w.heap.size ≤ g) → wpList Try.prog ops Q rest (a.put o.dst v') w') :
    wpList Try.prog ops Q (o :: rest) a (w.alloc (.cells #[.string y] 9)) := by
  obtain ⟨i0, hi, hz0, hz1, hz2⟩ := info_parts infoS
  refine wpList_append_own_at _ hgd s x 38 ho B 9 i0 (.string ByteArray.empty) 1 16 Try.underlying38 hi hz0 hz1 hz2 rfl (by decide) v _ _ hs (OwnS.kept hown ((Below.refl _ _).alloc (Nat.le_refl _) _)) ⟨w.heap.size, 0, none⟩ 1 1 [.string y] hx rfl (cell_one_new _ _ _) (by simp [Value.oneCell']) ?_ ?_ ?_ ?_
  · unfold maxLen; omega
  · omega
  · simp; omega
  · intro v' w' ho' hg _ hloc
    refine h v' w' ?_ ((World.grownBy_alloc _ _ _).trans hg) (hloc.imp id fun e => ⟨_, e, by simp⟩)
    unfold OwnS
    simpa using ho'
end Go.Proofs.Ytpeobloofofnlaa
