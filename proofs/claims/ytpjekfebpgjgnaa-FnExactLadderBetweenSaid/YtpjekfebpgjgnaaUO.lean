/-
  A queue of strings (a row of the call's own that is cut in front), and the map of the words that a search has found.
-/
import Derived.Test.YtpjekfebpgjgnaaUN
import Derived.Test.YtpjekfebpgjgnaaUI
import Derived.Test.YtpjekfebpgjgnaaLJ
import Derived.Test.YtpjekfebpgjgnaaJ1
import Derived.ArgAppend
namespace Go.Proofs.Ytpjekfebpgjgnaa
open Go.RowKit Go.Lib Go.Maps

/-- A queue in memory: some cells of a row of the call's own. -/
def QueueS (B : Nat) (w : World) (v : Value) (ss : List ByteArray) : Prop :=
  ∃ g off cap cur, v = .slice (some ⟨g, off, none⟩) ss.length cap ∧ B ≤ g ∧ w.heap[g]? = some (.cells cur 9 (0, 0)) ∧ ss.length ≤ cap ∧ cap ≤ maxLen ∧ off + cap ≤ cur.size ∧ ∀ j, j < ss.length → cur[off + j]? = some (.string (strAt ss j))
theorem QueueS.made (w : World) (y : ByteArray) : QueueS w.heap.size (w.alloc (.cells #[.string y] 9)) (.slice (some ⟨w.heap.size, 0, none⟩) 1 1) [y] :=
  ⟨w.heap.size, 0, 1, #[.string y], rfl, Nat.le_refl _, heap_alloc_new w _, Nat.le_refl _, by unfold maxLen; omega, by simp, fun j hj => by
    obtain rfl : j = 0 := by simp at hj; omega
    rfl⟩
theorem QueueS.of_own {B : Nat} {w : World} {v : Value} {ss : List ByteArray} (h : OwnS B w v ss) (hp : 0 < ss.length) : QueueS B w v ss := by
  obtain ⟨hl, h2⟩ := h
  rcases h2 with ⟨_, h0⟩ | ⟨g, cap, cur, rfl, hB, hg, hn, hm, hs, ht⟩
  · omega
  · refine ⟨g, 0, cap, cur, rfl, hB, hg, hn, hm, by rw [Nat.zero_add, hs, Nat.mul_one]; exact Nat.le_refl _, fun j hj => ?_⟩
    have h1 := strAt_map ss j hj
    rw [← ht, List.getElem?_take, if_pos (by omega)] at h1
    rw [Nat.zero_add]
    simpa using h1
theorem QueueS.under {B : Nat} {w : World} {v : Value} {ss : List ByteArray} (h : QueueS B w v ss) : ∀ g, v.ownBlock = some g → B ≤ g ∧ g < w.heap.size := by
  obtain ⟨g, off, cap, cur, rfl, hB, hg, -⟩ := h
  intro g' e
  injection e with e
  subst e
  exact ⟨hB, (Array.getElem?_eq_some_iff.1 hg).1⟩
theorem QueueS.kept {B : Nat} {w w' : World} {v : Value} {ss : List ByteArray} (h : QueueS B w v ss) (hk : ∀ g, v.ownBlock = some g → g < w.heap.size → w'.heap[g]? = w.heap[g]?) : QueueS B w' v ss := by
  obtain ⟨g, off, cap, cur, rfl, hB, hg, r⟩ := h
  exact ⟨g, off, cap, cur, rfl, hB, (hk g rfl (Array.getElem?_eq_some_iff.1 hg).1).trans hg, r⟩
theorem QueueS.below {B : Nat} {w w' : World} {v : Value} {ss : List ByteArray} (h : QueueS B w v ss) (hb : Below w.heap.size w w') : QueueS B w' v ss := h.kept fun g _ hg => hb.block g hg
/-- The value, and its first cell. -/
theorem QueueS.form {B : Nat} {w : World} {v : Value} {ss : List ByteArray} (h : QueueS B w v ss) : ∃ g off cap, v = .slice (some ⟨g, off, none⟩) ss.length cap ∧ ss.length ≤ cap ∧ cap ≤ maxLen ∧ B ≤ g ∧ g < w.heap.size ∧ (0 < ss.length → w.cell? ⟨g, off, none⟩ = some (.string (strAt ss 0))) ∧
    ∀ w', w'.heap[g]? = w.heap[g]? → 0 < ss.length → QueueS B w' (.slice (if cap = 1 then some ⟨g, off, none⟩ else some ⟨g, off + 1, none⟩) (ss.drop 1).length (cap - 1)) (ss.drop 1) := by
  obtain ⟨g, off, cap, cur, rfl, hB, hg, hn, hm, hs, ht⟩ := h
  refine ⟨g, off, cap, rfl, hn, hm, hB, (Array.getElem?_eq_some_iff.1 hg).1, fun hp => ?_, fun w' hw hp => ?_⟩
  · have := ht 0 hp
    rw [Nat.add_zero] at this
    rw [cell_of_row w g off cur _ _ hg]
    exact this
  · by_cases hc : cap = 1
    · refine ⟨g, off, cap - 1, cur, by rw [if_pos hc], hB, hw.trans hg, by simp; omega, by omega, by omega, fun j hj => ?_⟩
      simp at hj
      omega
    · refine ⟨g, off + 1, cap - 1, cur, by rw [if_neg hc], hB, hw.trans hg, by simp; omega, by omega, by omega, fun j hj => ?_⟩
      have hj' : j + 1 < ss.length := by simp at hj; omega
      have := ht (j + 1) hj'
      rw [show off + 1 + j = off + (j + 1) by omega, this]
      congr 2
      rw [strAt_eq hj', strAt_eq hj, List.getElem_drop]
      congr 1
      omega
theorem take_mid {α : Type} (xs : List α) (y : α) (n : Nat) (h : n < xs.length) (j : Nat) : (xs.take n ++ [y] ++ xs.drop (n + 1))[j]? = if j = n then some y else xs[j]? := by
  rcases Nat.lt_trichotomy j n with h1 | h1 | h1
  · rw [if_neg (by omega), List.getElem?_append_left (by simp; omega), List.getElem?_append_left (by simp; omega), List.getElem?_take, if_pos h1]
  · subst h1
    rw [if_pos rfl, List.getElem?_append_left (by simp; omega), List.getElem?_append_right (by simp; omega)]
    simp [Nat.min_eq_left (Nat.le_of_lt h)]
  · rw [if_neg (by omega), List.getElem?_append_right (by simp; omega)]
    rw [List.getElem?_drop]
    congr 1
    simp
    omega
/-- One string more behind a queue. -/
theorem run_append_queue {B : Nat} {w : World} {v : Value} {xs : List ByteArray} (ty : TypeId) (h : QueueS B w v xs) (y : ByteArray) (ad : Addr) (hy : w.cell? ad = some (.string y)) (hl : xs.length ≤ 3000000) (hB : B ≤ w.heap.size) :
    ∃ v' w', (Builtin.append_ #[24, 24] ty #[v, .slice (some ad) 1 1]).run Try.prog w = .ok v' w' ∧ QueueS B w' v' (xs ++ [y]) ∧ w.grownBy w' v.ownBlock ∧ (v'.ownBlock = v.ownBlock ∨ ∃ g, v'.ownBlock = some g ∧ w.heap.size ≤ g) := by
  obtain ⟨i0, hi, hz0, hz1, hz2⟩ := info_parts infoS
  obtain ⟨g, off, cap, cur, rfl, hBg, hg, hn, hm, hs, ht⟩ := h
  have hsz : i0.size = 1 := hz1
  have hnews : ∀ j u, [Value.string y][j]? = some u → w.cell? (ad.add j) = some u := fun j u hu => by
    cases j with
    | zero =>
      have e : ad.add 0 = ad := by unfold Addr.add; split <;> simp_all
      rw [e, hy]
      simpa using hu
    | succ j => simp at hu
  by_cases hroom : xs.length + 1 ≤ cap
  · have hst := run_storeCells_at Try.prog g (off + xs.length) 9 [Value.string y] 0 cur w hg (by simp; omega) (by simp [Value.oneCell'])
    have hf := run_firstCells_some (P := Try.prog) w i0.size 1 ad 1 1 [Value.string y] (by rw [hsz]; rfl) hnews
    refine ⟨.slice (some ⟨g, off, none⟩) (xs.length + 1) cap, w.setRow g (cur.toList.take (off + xs.length) ++ [Value.string y] ++ cur.toList.drop (off + xs.length + 1)).toArray, ?_, ?_, ?_, .inl rfl⟩
    · simp only [Nat.add_zero] at hst
      rw [hsz] at hf
      simp [Builtin.append_, run_underlying Try.underlying24, sizeOf, typeInfo, hi, hsz, Builtin.lenOf, hroom, hf, Addr.add_lit, hst]
    · refine ⟨g, off, cap, _, by simp, hBg, setRow_heap w g cur _ _ _ hg, by simp; omega, hm, ?_, fun j hj => ?_⟩
      · simp only [List.size_toArray, List.length_append, List.length_take, List.length_drop, Array.length_toList, List.length_singleton]
        omega
      · have hj' : j < xs.length + 1 := by simpa using hj
        rw [List.getElem?_toArray, take_mid _ _ _ (by simp; omega)]
        by_cases e : j = xs.length
        · subst e
          rw [if_pos rfl, strAt_last]
        · rw [if_neg (by omega), strAt_left (by omega)]
          have := ht j (by omega)
          simpa using this
    · exact ⟨rfl, rfl, rfl, by simp, fun k _ hk => setRow_other w g k _ (fun e => hk (by simp [Value.ownBlock, e]))⟩
  · have holds : ∀ j u, (xs.map Value.string)[j]? = some u → w.cell? ((⟨g, off, none⟩ : Addr).add j) = some u := fun j u hu => by
      have hj : j < xs.length := by
        rcases Nat.lt_or_ge j xs.length with h | h
        · exact h
        · rw [List.getElem?_eq_none (by simpa using h)] at hu; cases hu
      have hadd : (⟨g, off, none⟩ : Addr).add j = ⟨g, off + j, none⟩ := by unfold Addr.add; split <;> simp_all
      rw [hadd, cell_of_row w g _ cur _ _ hg, ht j hj, ← hu, strAt_map xs j hj]
    obtain ⟨v', w', h1, h2, h3⟩ := run_append_arg_grows (P := Try.prog) w 24 ty 9 i0 (.string ByteArray.empty) 1 16 Try.underlying24 hi hz0 hz1 hz2 rfl (by decide) ⟨g, off, none⟩ xs.length cap (xs.map Value.string) (by simp) holds ad 1 1 [Value.string y] rfl hnews (by omega) (by unfold maxLen; omega) (by omega)
    have ho : OwnS w.heap.size w' v' (xs ++ [y]) := by unfold OwnS; simpa using h2
    refine ⟨v', w', h1, ?_, ⟨h3.os, h3.tape, h3.output, h3.size, fun k hk _ => h3.block k hk (by simp)⟩, ?_⟩
    · obtain ⟨g2, o2, c2, cu2, a1, a2, a3⟩ := QueueS.of_own ho (by simp)
      exact ⟨g2, o2, c2, cu2, a1, by omega, a3⟩
    · obtain ⟨g2, o2, c2, cu2, rfl, a2, a3⟩ := QueueS.of_own ho (by simp)
      exact .inr ⟨g2, rfl, a2⟩
theorem wpList_append_queue {w : World} {ops : Array Oper} {rest : List Oper} {o : Oper} {a : Act} {Q : Exit → Act → World → Prop} (hgd : o.guard = none) (s x : Operand)
    (ho : o.op = .call { callee := .builtin .append, args := #[s, x], argTypes := #[24, 24] }) {B : Nat} {v : Value} {xs : List ByteArray} (y : ByteArray) (hs : a.eval s = v) (hx : a.eval x = .slice (some ⟨w.heap.size, 0, none⟩) 1 1)
    (hown : QueueS B w v xs) (hl : xs.length ≤ 3000000) (hB : B ≤ w.heap.size)
    (h : ∀ v' w', QueueS B w' v' (xs ++ [y]) → w.grownBy w' v.ownBlock → (v'.ownBlock = v.ownBlock ∨ ∃ g, v'.ownBlock = some g ∧ w.heap.size ≤ g) → wpList Try.prog ops Q rest (a.put o.dst v') w') :
    wpList Try.prog ops Q (o :: rest) a (w.alloc (.cells #[.string y] 9)) := by
  refine wpList_plain hgd fun K hK => ?_
  obtain ⟨v', w', hr, h2, h3, h4⟩ := run_append_queue o.type (hown.below ((Below.refl _ _).alloc (Nat.le_refl _) (.cells #[.string y] 9))) y ⟨w.heap.size, 0, none⟩ (by rw [cell_of_row _ w.heap.size 0 _ _ _ (heap_alloc_new w _)]; rfl) hl (by simp; omega)
  unfold Oper.wp execOp
  simp only [ho, resolve, invoke, builtin, Sem.run_bind, Sem.run_pure, Result.andThen_ok, List.map_toArray, List.map_cons, List.map_nil, hs, hx, hr]
  exact hK _ _ (h v' w' h2 ((World.grownBy_alloc _ _ _).trans h3) (h4.imp id fun ⟨g, e1, e2⟩ => ⟨g, e1, by simp at e2; omega⟩))

/-- What the map of the words before says: q are the words found, pi j the place of the word before the one at place j. -/
structure Pars (w : World) (b : Nat) (q : List ByteArray) (pi : Nat → Nat) (D : DataW Value) : Prop where
  map : w.ownsMap Try.prog 9 idR b q.length D
  size : Maps.size D = q.length
  has : ∀ s : ByteArray, Maps.has D (.string s.data.toList) = true ↔ s ∈ q
  here : ∀ j, 1 ≤ j → j < q.length → ∀ z, D.atKey (.string (strAt q j).data.toList) z = .held (.string (strAt q (pi j)))
theorem litS_ne {a b : ByteArray} (h : ¬ a = b) : (Lit.string a.data.toList) ≠ .string b.data.toList := fun e => h (Go.WideShapes.bytes_inj (by injection e))
theorem Pars.below {w w' : World} {b : Nat} {q : List ByteArray} {pi : Nat → Nat} {D : DataW Value} (h : Pars w b q pi D) (hb : Below w.heap.size w w') : Pars w' b q pi D := ⟨ownsMap_below h.map hb, h.size, h.has, h.here⟩
theorem Pars.put {w w' : World} {b : Nat} {q : List ByteArray} {pi : Nat → Nat} {D : DataW Value} (h : Pars w b q pi D) {x y : ByteArray} {i : Nat} (hx : x ∉ q) (hi : i < q.length) (hp : ∀ j, 1 ≤ j → j < q.length → pi j < j) (hy : strAt q i = y)
    (hm : w'.ownsMap Try.prog 9 idR b (q.length + 1) (D.put (.string x.data.toList) (.held (.string y)))) : Pars w' b (q ++ [x]) (putAt pi q.length i) (D.put (.string x.data.toList) (.held (.string y))) := by
  have hT : Tidy D := h.map.tidy (string_keyed Try.underlying9)
  refine ⟨by simpa using hm, ?_, fun s => ?_, fun j h1 hj z => ?_⟩
  · rw [size_put hT, Bool.eq_false_iff.2 fun e => hx ((h.has x).1 e), h.size]
    simp
  · by_cases e : s = x
    · subst e
      rw [has_put_same (k := .string s.data.toList) hT.isMap trivial]
      simp
    · rw [has_put_other (litS_ne e), h.has]
      simp [e]
  · have hc : j < q.length ∨ j = q.length := by simp at hj; omega
    rcases hc with h2 | rfl
    · have hlo := hp j h1 h2
      have hne : strAt q j ≠ x := fun e => hx (by rw [← e]; exact strAt_mem h2)
      rw [strAt_left h2, Maps.atKey_put_other (litS_ne hne)]
      unfold putAt
      rw [if_neg (by omega), strAt_left (by omega)]
      exact h.here j h1 h2 z
    · rw [strAt_last, Maps.atKey_put_same h.map.isMap (show WideAt.IsKeyLit (.string x.data.toList) from trivial)]
      unfold putAt
      rw [if_pos rfl, strAt_left hi, hy]
/-- An entry of a map literal. -/
theorem wpList_insert_own {H : Type} {P : Program} (w : World) {ops : Array Oper} {rest : List Oper} {o : Oper} {a : Act} {Q : Exit → Act → World → Prop}
    (hg : o.guard = none) (m x v : Operand) (t : TypeId) (hop : o.op = Op.insert t m x v)
    (k e : TypeId) (K : Keyed P k) (ht : P.underlying t = some (.map k e)) (R : Value → Option (DataW H × List MemPlace)) (b n : Nat) (D : DataW H)
    (hm : a.eval m = .map (some b)) (hown : w.ownsMap P k R b n D) (hn : n < maxLen) (key val : Value) (kl : Lit) (hx : a.eval x = key) (hv : a.eval v = val) (hkey : Go.keyOf P k key = some kl)
    (d : DataW H) (ps : List MemPlace) (hval : R val = some (d, ps))
    (hK : ∀ w', w'.ownsMap P k R b (n + 1) (D.put kl d) → w.grownBy w' (some b) → wpList P ops Q rest (a.put o.dst undef) w') :
    wpList P ops Q (o :: rest) a w := by
  refine wpList_plain hg fun K' hK' => ?_
  obtain ⟨w', hrun, r1, r2⟩ := hown.update K ht hn hkey hval
  unfold Oper.wp
  simp [execOp, hop, hm, hx, hv, hrun, Result.andThen]
  exact hK' _ _ (hK w' r1 r2)
theorem Pars.first {w : World} {b : Nat} {a : ByteArray} {d : DataW Value} (h : w.ownsMap Try.prog 9 idR b 1 ((DataW.map []).put (.string a.data.toList) d)) : Pars w b [a] (fun _ => 0) ((DataW.map []).put (.string a.data.toList) d) := by
  have hT : Tidy (DataW.map [] : DataW Value) := tidy_empty
  refine ⟨h, ?_, fun s => ?_, fun j h1 hj => ?_⟩
  · rw [size_put hT]; rfl
  · by_cases e : s = a
    · subst e
      rw [has_put_same (k := .string s.data.toList) hT.isMap trivial]
      simp
    · rw [has_put_other (litS_ne e)]
      simp only [List.mem_singleton, e, iff_false]
      exact fun h => by cases h
  · simp at hj; omega
/-- How many entries a map has. -/
def mapSize (w : World) (b : Nat) : Nat := match w.heap[b]? with
  | some (.map es _) => es.size
  | _ => 0
theorem Pars.mapSize {w : World} {b : Nat} {q : List ByteArray} {pi : Nat → Nat} {D : DataW Value} (h : Pars w b q pi D) : mapSize w b = q.length := by
  rw [← h.size]
  obtain ⟨es, clock, hb, _, _, rfl⟩ := h.map
  unfold Go.Proofs.Ytpjekfebpgjgnaa.mapSize
  rw [hb]
  simp only [Maps.size, length_read]
end Go.Proofs.Ytpjekfebpgjgnaa
