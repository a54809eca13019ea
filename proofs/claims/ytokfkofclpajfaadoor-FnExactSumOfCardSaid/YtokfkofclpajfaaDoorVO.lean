/-
  Nodes that the call itself has made: one row of them, each with a row of numbers that lies apart from it. One node more in a row of nodes of the call's own: the append, at the operation. What is left of a list while the model builds its node; rows of strings that outlive a call.
  Plain facts for numbering nodes in the order in which they are met.
  The model's build: its memory, step by step.
-/
import Derived.Test.YtokfkofclpajfaaDoorVL
import Derived.Test.YtokfkofclpajfaaDoorJ1
import Derived.Deep.AppendLies
import Derived.Test.YtokfkofclpajfaaDoorVA
namespace Go.Proofs.YtokfkofclpajfaaDoor
open Go.RowKit

def nxG (us : List Value) (j : Nat) : Value := us.getD j .nilFunc
def slotN (us : List Value) (xs : List Nod) (j : Nat) : List Value := [.bool (nodG xs j).f, .string (nodG xs j).ls, nxG us j]
def cellsN (us : List Value) (xs : List Nod) : List Value := (List.range xs.length).flatMap (slotN us xs)
theorem nodG_snoc (xs : List Nod) (x : Nod) (j : Nat) (h : j ≤ xs.length) : nodG (xs ++ [x]) j = if j = xs.length then x else nodG xs j := by
  unfold nodG
  rw [List.getD_eq_getElem?_getD, List.getD_eq_getElem?_getD]
  split
  · subst_vars; rw [List.getElem?_append_right (Nat.le_refl _)]; simp
  · rw [List.getElem?_append_left (by omega)]
theorem nxG_snoc (us : List Value) (u : Value) (j : Nat) (h : j ≤ us.length) : nxG (us ++ [u]) j = if j = us.length then u else nxG us j := by
  unfold nxG
  rw [List.getD_eq_getElem?_getD, List.getD_eq_getElem?_getD]
  split
  · subst_vars; rw [List.getElem?_append_right (Nat.le_refl _)]; simp
  · rw [List.getElem?_append_left (by omega)]
theorem flatMap_rng {α : Type} {f g : Nat → List α} : ∀ {n : Nat}, (∀ j, j < n → f j = g j) → (List.range n).flatMap f = (List.range n).flatMap g
  | 0, _ => rfl
  | n + 1, h => by rw [List.range_succ, List.flatMap_append, List.flatMap_append, flatMap_rng (n := n) (fun j hj => h j (by omega))]; simp [h n (by omega)]
theorem cellsN_snoc (us : List Value) (xs : List Nod) (u : Value) (x : Nod) (h : us.length = xs.length) : cellsN (us ++ [u]) (xs ++ [x]) = cellsN us xs ++ [.bool x.f, .string x.ls, u] := by
  unfold cellsN
  rw [List.length_append, List.length_singleton, List.range_succ, List.flatMap_append]
  congr 1
  · refine flatMap_rng fun j hj => ?_
    unfold slotN
    rw [nodG_snoc _ _ _ (by omega), nxG_snoc _ _ _ (by omega), if_neg (by omega), if_neg (by omega)]
  · simp only [List.flatMap_cons, List.flatMap_nil, List.append_nil]
    unfold slotN
    rw [nodG_snoc _ _ _ (by omega), nxG_snoc _ _ _ (by omega), if_pos h.symm, if_pos rfl]
theorem flatMap_three {α : Type} {f : Nat → List α} (hf : ∀ j, (f j).length = 3) : ∀ {n j : Nat} (o : Nat), j < n → o < 3 → ((List.range n).flatMap f)[j * 3 + o]? = (f j)[o]? := by
  have hl : ∀ n, ((List.range n).flatMap f).length = n * 3 := by
    intro n
    induction n with
    | zero => rfl
    | succ n ih => rw [List.range_succ, List.flatMap_append, List.length_append, ih]; simp [hf]; omega
  intro n
  induction n with
  | zero => intro j o h; omega
  | succ n ih =>
    intro j o hj ho
    rw [List.range_succ, List.flatMap_append]
    by_cases h : j < n
    · rw [List.getElem?_append_left (by rw [hl]; omega)]
      exact ih o h ho
    · obtain rfl : j = n := by omega
      rw [List.getElem?_append_right (by rw [hl]; omega), hl, show j * 3 + o - j * 3 = o by omega]
      simp
theorem cellsN_at {us : List Value} {xs : List Nod} {j : Nat} (o : Nat) (h : j < xs.length) (ho : o < 3) : (cellsN us xs)[j * 3 + o]? = (slotN us xs j)[o]? := flatMap_three (fun _ => rfl) o h ho
/-- A row of numbers of the call's own. -/
def RowI (B : Nat) (w : World) (v : Value) (zs : List Int) : Prop := w.ownsRow B 2 1 v zs.length (zs.map (Value.int .i64))
theorem RowI.nil (B : Nat) (w : World) : RowI B w (.slice none 0 0) [] := ⟨rfl, .inl ⟨rfl, rfl⟩⟩
theorem RowI.ints {B : Nat} {w : World} {v : Value} {zs : List Int} (h : RowI B w v zs) (hz : ∀ z ∈ zs, (Lit.int .i64 z).wf = true) : Ints .i64 w v zs := by
  have h' := h
  rcases h.2 with ⟨rfl, h0⟩ | ⟨g, cap, cur, rfl, hB, hg, hn, hm, -⟩
  · exact ⟨none, 0, by rw [h0], by omega, Nat.zero_le _, fun h => absurd h (by omega), hz⟩
  · refine ⟨_, cap, rfl, hn, hm, fun _ => ⟨g, 0, rfl, (Array.getElem?_eq_some_iff.1 hg).1, fun j hj => ?_⟩, hz⟩
    rw [Nat.zero_add, World.ownsRow.cellAt h' j (by omega)]
    simp [List.getD_eq_getElem?_getD, List.getElem?_eq_getElem hj]
theorem row_apart {B n m : Nat} {e : TypeId} {w w' : World} {v : Value} {xs : List Value} {S : Nat → Prop} (h : w.ownsRow B e m v n xs) (hk : Apart S w w') (hv : ∀ k, v.ownBlock = some k → ¬ S k) : w'.ownsRow B e m v n xs := by
  refine ⟨h.1, ?_⟩
  rcases h.2 with h | ⟨g', cap, cur, rfl, hg1, hg, r⟩
  · exact .inl h
  · exact .inr ⟨g', cap, cur, rfl, hg1, (hk.block g' (Array.getElem?_eq_some_iff.1 hg).1 (hv g' rfl)).trans hg, r⟩
theorem row_blk {w : World} {b B n m : Nat} {t e : TypeId} {cs : Array Value} {v : Value} {xs : List Value} (h : Blk w b t cs) (hte : t ≠ e) (hr : w.ownsRow B e m v n xs) : ∀ k, v.ownBlock = some k → k ≠ b := by
  intro k hk e'
  rcases hr.2 with ⟨rfl, _⟩ | ⟨g, cap, cur, rfl, _, hg, _⟩
  · simp [Value.ownBlock] at hk
  · have hgk : g = k := by simpa [Value.ownBlock] using hk
    rw [hgk, e'] at hg
    have := (show w.heap[b]? = _ from h).symm.trans hg
    simp at this
    exact hte this.2
/-- Rows of two types lie in two blocks. -/
theorem row_row {w : World} {B B' n n' m m' : Nat} {t e : TypeId} {u v : Value} {xs ys : List Value} (hu : w.ownsRow B t m u n xs) (hte : t ≠ e) (hv : w.ownsRow B' e m' v n' ys) : ∀ k, u.ownBlock = some k → v.ownBlock ≠ some k := by
  intro k hk
  rcases hu.2 with ⟨rfl, _⟩ | ⟨g, cap, cur, rfl, _, hg, _⟩
  · simp [Value.ownBlock] at hk
  · have hgk : g = k := by simpa [Value.ownBlock] using hk
    subst hgk
    intro h2
    exact row_blk (b := g) hg hte hv g h2 rfl
/-- A row of nodes of the call's own. -/
structure Nows (B : Nat) (w : World) (v : Value) (us : List Value) (xs : List Nod) : Prop where
  len : us.length = xs.length
  row : w.ownsRow B 71 3 v xs.length (cellsN us xs)
  nx : ∀ j, j < xs.length → RowI B w (nxG us j) (nodG xs j).ns
  down : ∀ j, j < xs.length → ∀ z ∈ (nodG xs j).ns, 0 ≤ z ∧ z < (j : Int)
theorem wf_i64 {z : Int} (h0 : 0 ≤ z) (h1 : z ≤ 9223372036854775807) : (Lit.int .i64 z).wf = true := by
  simp [Lit.wf, IntKind.min, IntKind.max, IntKind.signed, IntKind.bits]
  omega
theorem Nows.small {B : Nat} {w : World} {v : Value} {us : List Value} {xs : List Nod} (h : Nows B w v us xs) : xs.length ≤ maxLen := by
  rcases h.row.2 with ⟨rfl, h0⟩ | ⟨g, cap, cur, rfl, hB, hg, hn, hm, -⟩
  · omega
  · omega
theorem Nows.fine {B : Nat} {w : World} {v : Value} {us : List Value} {xs : List Nod} (h : Nows B w v us xs) {j : Nat} (hj : j < xs.length) : ∀ z ∈ (nodG xs j).ns, (Lit.int .i64 z).wf = true := fun z hz => by
  have h1 := h.down j hj z hz
  have h2 := h.small
  unfold maxLen at h2
  exact wf_i64 h1.1 (by omega)
theorem Nows.nil (B : Nat) (w : World) : Nows B w (.slice none 0 0) [] [] := ⟨rfl, ⟨rfl, .inl ⟨rfl, rfl⟩⟩, fun j h => absurd h (by simp), fun j h => absurd h (by simp)⟩
theorem Nows.nds {B : Nat} {w : World} {v : Value} {us : List Value} {xs : List Nod} (h : Nows B w v us xs) : Nds w v xs := by
  have hr2 := h.row
  rcases h.row.2 with ⟨hv, h0⟩ | ⟨g, cap, cur, hv, hB, hg, hn, hm, -⟩
  · exact ⟨none, 0, by rw [h0, hv], by omega, Nat.zero_le _, fun h => absurd h (by omega)⟩
  · rw [hv] at hr2
    refine ⟨_, cap, hv, hn, hm, fun _ => ⟨g, 0, rfl, (Array.getElem?_eq_some_iff.1 hg).1, fun j hj => ?_⟩⟩
    have ha : ∀ o, o < 3 → w.cell? ⟨g, 0 + j * 3 + o, none⟩ = (slotN us xs j)[o]? := fun o ho => by
      rw [Nat.zero_add, World.ownsRow.cellAt hr2 (j * 3 + o) (by omega)]
      exact cellsN_at o hj ho
    exact ⟨ha 0 (by omega), ha 1 (by omega), _, ha 2 (by omega), (h.nx j hj).ints (h.fine hj)⟩
theorem Nows.apart {B : Nat} {w w' : World} {v : Value} {us : List Value} {xs : List Nod} {S : Nat → Prop} (h : Nows B w v us xs) (hk : Apart S w w') (hv : ∀ k, v.ownBlock = some k → ¬ S k) (hu : ∀ j, j < xs.length → ∀ k, (nxG us j).ownBlock = some k → ¬ S k) : Nows B w' v us xs :=
  ⟨h.len, row_apart h.row hk hv, fun j hj => row_apart (h.nx j hj) hk (hu j hj), h.down⟩
theorem Nows.snoc {B : Nat} {w w' : World} {v v' u : Value} {us : List Value} {xs : List Nod} {x : Nod} (h : Nows B w v us xs) (hr : w'.ownsRow B 71 3 v' (xs.length + 1) (cellsN us xs ++ [.bool x.f, .string x.ls, u])) (hg : w.grownBy w' v.ownBlock) (hu : RowI B w u x.ns) (hd : ∀ z ∈ x.ns, 0 ≤ z ∧ z < (xs.length : Int)) : Nows B w' v' (us ++ [u]) (xs ++ [x]) := by
  have hA : Apart (fun k => v.ownBlock = some k) w w' := (Apart.refl _ w).grown hg fun k hk _ => hk
  have hrow : ∀ {u2 : Value} {zs : List Int}, RowI B w u2 zs → RowI B w' u2 zs := fun h2 => row_apart h2 hA (row_row h2 (by decide) h.row)
  have hl := h.len
  refine ⟨by simp [hl], ?_, fun j hj => ?_, fun j hj => ?_⟩
  · rw [cellsN_snoc _ _ _ _ hl, List.length_append, List.length_singleton]
    exact hr
  · rw [List.length_append, List.length_singleton] at hj
    rw [nxG_snoc _ _ _ (by omega), nodG_snoc _ _ _ (by omega)]
    by_cases hjx : j = xs.length
    · rw [if_pos (by omega), if_pos hjx]
      exact hrow hu
    · rw [if_neg (by omega), if_neg hjx]
      exact hrow (h.nx j (by omega))
  · rw [List.length_append, List.length_singleton] at hj
    rw [nodG_snoc _ _ _ (by omega)]
    by_cases hjx : j = xs.length
    · rw [if_pos hjx, hjx]
      exact hd
    · rw [if_neg hjx]
      exact h.down j (by omega)
end Go.Proofs.YtokfkofclpajfaaDoor

namespace Go.Proofs.YtokfkofclpajfaaDoor
open Go.RowKit

theorem info_nodV : (Tryd.prog.info? 71).map (fun i => (i.zero, i.size, i.bytes)) = some (some (.agg #[.bool false, .string ByteArray.empty, .slice none 0 0]), 3, 48) := by kernel_rfl
theorem cell_three_new (w : World) (x y z : Value) (t : TypeId) : ∀ j u, [x, y, z][j]? = some u → (w.alloc (.cells #[x, y, z] t)).cell? ((⟨w.heap.size, 0, none⟩ : Addr).add j) = some u := by
  intro j u hj
  have q := (Blk.made w t #[x, y, z]).cells
  match j, hj with
  | 0, hj => simp at hj; subst hj; exact q 0
  | 1, hj => simp at hj; subst hj; exact q 1
  | 2, hj => simp at hj; subst hj; exact q 2
  | j + 3, hj => simp at hj
theorem apart_grownV {w w' : World} {o : Obj} {r : Option Nat} (hg : (w.alloc o).grownBy w' r) : Apart (fun k => r = some k) w w' := ((Apart.refl _ w).alloc o).grown hg fun _ hk _ => hk
theorem RowI.cell {B : Nat} {w : World} {u : Value} {zs : List Int} (h : RowI B w u zs) : u.oneCell' = true := by
  rcases h.2 with ⟨rfl, _⟩ | ⟨g, cap, cur, rfl, _⟩ <;> rfl
theorem Nows.alloc {B : Nat} {w : World} {v : Value} {us : List Value} {xs : List Nod} (h : Nows B w v us xs) (o : Obj) : Nows B (w.alloc o) v us xs :=
  h.apart ((Apart.refl (fun _ => False) w).alloc o) (fun _ _ e => e) (fun _ _ _ _ e => e)
theorem RowI.alloc {B : Nat} {w : World} {u : Value} {zs : List Int} (h : RowI B w u zs) (o : Obj) : RowI B (w.alloc o) u zs :=
  row_apart h ((Apart.refl (fun _ => False) w).alloc o) (fun _ _ e => e)
theorem wpList_append_nod {ops : Array Oper} {rest : List Oper} {o : Oper} {a : Act} {Q : Exit → Act → World → Prop} {B H : Nat} {W : World} (hgd : o.guard = none) (s x : Operand)
    (ho : o.op = .call { callee := .builtin .append, args := #[s, x], argTypes := #[27, 27] })
    (v u : Value) (us : List Value) (xs : List Nod) (d : Nod) (hs : a.eval s = v) (hx : a.eval x = .slice (some ⟨H, 0, none⟩) 1 1) (hH : W.heap.size = H)
    (hown : Nows B W v us xs) (hlen : xs.length ≤ 1100000) (hB : B ≤ W.heap.size) (hu : RowI B W u d.ns) (hd : ∀ z ∈ d.ns, 0 ≤ z ∧ z < (xs.length : Int))
    (h : ∀ g cap w', Nows B w' (.slice (some ⟨g, 0, none⟩) (xs.length + 1) cap) (us ++ [u]) (xs ++ [d]) → Apart (fun b => v.ownBlock = some b) W w' → (v.ownBlock = some g ∨ W.heap.size ≤ g) → wpList Tryd.prog ops Q rest (a.put o.dst (.slice (some ⟨g, 0, none⟩) (xs.length + 1) cap)) w') :
    wpList Tryd.prog ops Q (o :: rest) a (W.alloc (.cells #[.bool d.f, .string d.ls, u] 71)) := by
  obtain ⟨i0, hi, hz0, hz1, hz2⟩ := info_parts info_nodV
  subst hH
  refine wpList_append_lies _ hgd s x 27 ho B 71 i0 (.agg #[.bool false, .string ByteArray.empty, .slice none 0 0]) 3 48 Tryd.underlying27 hi hz0 hz1 hz2 rfl (by decide) v xs.length (cellsN us xs) hs (World.ownsRow.alloc hown.row _) ⟨W.heap.size, 0, none⟩ 1 1 [.bool d.f, .string d.ls, u] hx rfl ?_ ?_ (by decide) ?_ ?_ ?_ _ rfl ?_
  · exact cell_three_new _ _ _ _ _
  · intro y hy; simp at hy; rcases hy with h9 | h9 | h9 <;> rw [h9] <;> first | exact hu.cell | rfl
  · simp [maxLen]; omega
  · omega
  · simp; omega
  · intro g cap w' ho' hg hl _
    exact h g cap w' ((hown.alloc _).snoc ho' hg (hu.alloc _) hd) (apart_grownV hg) (hl.imp id fun e => by rw [e]; simp)
/-- The same in a region that draws. -/
theorem step_append_nod {ops : Array Oper} {o : Oper} {a : Act} {K : Act → World → Prop} {Q : Exit → Act → World → Prop} {E : Prop} {B H : Nat} {W : World} (hgd : o.guard = none) (s x : Operand)
    (ho : o.op = .call { callee := .builtin .append, args := #[s, x], argTypes := #[27, 27] })
    (v u : Value) (us : List Value) (xs : List Nod) (d : Nod) (hs : a.eval s = v) (hx : a.eval x = .slice (some ⟨H, 0, none⟩) 1 1) (hH : W.heap.size = H)
    (hown : Nows B W v us xs) (hlen : xs.length ≤ 1100000) (hB : B ≤ W.heap.size) (hu : RowI B W u d.ns) (hd : ∀ z ∈ d.ns, 0 ≤ z ∧ z < (xs.length : Int))
    (h : ∀ g cap w', Nows B w' (.slice (some ⟨g, 0, none⟩) (xs.length + 1) cap) (us ++ [u]) (xs ++ [d]) → Apart (fun b => v.ownBlock = some b) W w' → (v.ownBlock = some g ∨ W.heap.size ≤ g) → K (a.put o.dst (.slice (some ⟨g, 0, none⟩) (xs.length + 1) cap)) w') :
    if Region.wanted o (yielded ops a.tmps) = true then Oper.wp Tryd.prog o a (W.alloc (.cells #[.bool d.f, .string d.ls, u] 71)) K Q else E := by
  obtain ⟨i0, hi, hz0, hz1, hz2⟩ := info_parts info_nodV
  subst hH
  refine step_append_lies _ hgd s x 27 ho B 71 i0 (.agg #[.bool false, .string ByteArray.empty, .slice none 0 0]) 3 48 Tryd.underlying27 hi hz0 hz1 hz2 rfl (by decide) v xs.length (cellsN us xs) hs (World.ownsRow.alloc hown.row _) ⟨W.heap.size, 0, none⟩ 1 1 [.bool d.f, .string d.ls, u] hx rfl ?_ ?_ (by decide) ?_ ?_ ?_ _ rfl ?_
  · exact cell_three_new _ _ _ _ _
  · intro y hy; simp at hy; rcases hy with h9 | h9 | h9 <;> rw [h9] <;> first | exact hu.cell | rfl
  · simp [maxLen]; omega
  · omega
  · simp; omega
  · intro g cap w' ho' hg hl _
    exact h g cap w' ((hown.alloc _).snoc ho' hg (hu.alloc _) hd) (apart_grownV hg) (hl.imp id fun e => by rw [e]; simp)
end Go.Proofs.YtokfkofclpajfaaDoor

namespace Go.Proofs.YtokfkofclpajfaaDoor
open Go.RowKit

theorem strs_apart {w w' : World} {v : Value} {us : List ByteArray} {S : Nat → Prop} (h : Strs w v us) (hk : Apart S w w') (hv : 0 < us.length → ∀ k, v.ownBlock = some k → ¬ S k) : Strs w' v us := by
  obtain ⟨a, cap, rfl, h1, h2, h3⟩ := h
  refine ⟨a, cap, rfl, h1, h2, fun h0 => ?_⟩
  obtain ⟨b, off, rfl, hb, hc⟩ := h3 h0
  refine ⟨b, off, rfl, Nat.lt_of_lt_of_le hb hk.size, fun j hj => ?_⟩
  rw [← hc j hj]
  have e := hk.block b hb (hv h0 b rfl)
  unfold World.cell?
  simp only [e]
/-- From place a on: what is left of the nodes behind, of the letters. -/
structure Left (f : Nat) (us : List ByteArray) (st0 : List Ent) (a : Nat) (st : List Ent) (acc : List Nat) (L : List UInt8) : Prop where
  nodes : bldL (bldW f) ((grp (fromL us a)).map (·.2)) st acc = bldL (bldW f) ((grp (restOf (fromL us 0))).map (·.2)) st0 []
  lets : L ++ (grp (fromL us a)).map (·.1) = (grp (restOf (fromL us 0))).map (·.1)
theorem Left.start (f : Nat) (us : List ByteArray) (st0 : List Ent) {a : Nat} (ha : a = if isFin (fromL us 0) = true then 1 else 0) : Left f us st0 a st0 [] [] := by
  have h := restOf_from (us := us)
  rw [← ha] at h
  exact ⟨by rw [h], by rw [h]; rfl⟩
theorem Left.next {f : Nat} {us : List ByteArray} {st0 : List Ent} {a k : Nat} {st : List Ent} {acc : List Nat} {L : List UInt8} {c : UInt8} {tl : List (List UInt8)} (h : Left f us st0 a st acc L) (hg : grp (fromL us a) = (c, tl) :: grp (fromL us k)) : Left f us st0 k (bldW f st tl).1 (acc ++ [(bldW f st tl).2]) (L ++ [c]) := by
  obtain ⟨h1, h2⟩ := h
  rw [hg] at h1 h2
  exact ⟨h1, by rw [← h2]; simp⟩
theorem Left.done {f : Nat} {us : List ByteArray} {st0 st : List Ent} {acc : List Nat} {L : List UInt8} (h : Left f us st0 us.length st acc L) : bldW (f + 1) st0 (fromL us 0) = put st (isFin (fromL us 0), L, acc) := by
  obtain ⟨h1, h2⟩ := h
  rw [fromL_end] at h1 h2
  have h1' : (st, acc) = bldL (bldW f) ((grp (restOf (fromL us 0))).map (·.2)) st0 [] := h1
  have h2' : L = (grp (restOf (fromL us 0))).map (·.1) := by rw [← h2]; simp [grp]
  show put (bldL (bldW f) ((grp (restOf (fromL us 0))).map (·.2)) st0 []).1 (isFin (fromL us 0), (grp (restOf (fromL us 0))).map (·.1), (bldL (bldW f) ((grp (restOf (fromL us 0))).map (·.2)) st0 []).2) = _
  rw [← h1', ← h2']
/-- The letters and the strings that are left, in number: for bounds. -/
theorem Left.sizes {f : Nat} {us : List ByteArray} {st0 : List Ent} {a : Nat} {st : List Ent} {acc : List Nat} {L : List UInt8} (h : Left f us st0 a st acc L) : L.length + (grp (fromL us a)).length = (grp (restOf (fromL us 0))).length := by
  have := congrArg List.length h.lets
  simpa using this
end Go.Proofs.YtokfkofclpajfaaDoor

namespace Go.Proofs.YtokfkofclpajfaaDoor
open Go.RowKit

theorem dfsL_snoc {visit : List Nat → Nat → List Nat} : ∀ (js : List Nat) (j : Nat) (vis : List Nat), dfsL visit (js ++ [j]) vis = if j ∈ dfsL visit js vis then dfsL visit js vis else visit (dfsL visit js vis) j
  | [], _, _ => rfl
  | a :: js, j, vis => dfsL_snoc js j (if a ∈ vis then vis else visit vis a)
theorem place_in {vis : List Nat} {p : Nat} (h : p ∈ vis) : place vis p = (vis.idxOf p : Int) := by unfold place; rw [if_pos h]
theorem place_out {vis : List Nat} {p : Nat} (h : p ∉ vis) : place vis p = -1 := by unfold place; rw [if_neg h]
theorem place_neg {vis : List Nat} {p : Nat} : place vis p < 0 ↔ p ∉ vis := by
  unfold place
  split
  · rename_i h
    exact ⟨fun h2 => absurd h2 (by omega), fun h2 => absurd h h2⟩
  · rename_i h
    exact ⟨fun _ => h, fun _ => by omega⟩
theorem place_lt {vis : List Nat} {n p : Nat} (h : Fit n vis) : place vis p < (n : Int) := by
  unfold place
  split
  · rename_i hm
    have h1 := idx_lt hm
    have h2 := nodup_len n vis h.1 h.2
    omega
  · omega
theorem place_low {vis : List Nat} {p : Nat} : -1 ≤ place vis p := by
  unfold place
  split <;> omega
theorem place_snoc {vis : List Nat} {k p : Nat} (hk : k ∉ vis) : place (vis ++ [k]) p = if p = k then (vis.length : Int) else place vis p := by
  by_cases hp : p = k
  · subst hp
    rw [if_pos rfl, place_in (by simp), List.idxOf_append, if_neg hk]
    simp
  · rw [if_neg hp]
    by_cases hm : p ∈ vis
    · rw [place_in hm, place_in (by simp [hm]), List.idxOf_append, if_pos hm]
    · rw [place_out hm, place_out (by simp [hm, hp])]
/-- The places of all nodes. -/
def placesN (n : Nat) (vis : List Nat) : List Int := (List.range n).map (place vis)
theorem placesN_len (n : Nat) (vis : List Nat) : (placesN n vis).length = n := by simp [placesN]
theorem placesN_at {n p : Nat} (vis : List Nat) (h : p < n) : (placesN n vis)[p]? = some (place vis p) := by simp [placesN, h]
theorem placesN_snoc {n k : Nat} {vis : List Nat} (hk : k ∉ vis) : (placesN n vis).set k (vis.length : Int) = placesN n (vis ++ [k]) := by
  refine List.ext_getElem? fun p => ?_
  rw [List.getElem?_set]
  by_cases hp : p < n
  · rw [placesN_at _ hp, placesN_at _ hp, place_snoc hk]
    by_cases e : k = p
    · subst e
      rw [if_pos rfl, if_pos (by rw [placesN_len]; exact hp), if_pos rfl]
    · rw [if_neg e, if_neg (fun e2 => e e2.symm)]
  · have h1 : (placesN n vis)[p]? = none := List.getElem?_eq_none (by rw [placesN_len]; omega)
    have h2 : (placesN n (vis ++ [k]))[p]? = none := List.getElem?_eq_none (by rw [placesN_len]; omega)
    rw [h1, h2]
    split
    · rw [if_neg (by rw [placesN_len]; omega)]
    · rfl
theorem placesN_nil (n : Nat) : placesN n [] = List.replicate n (-1) := by
  unfold placesN
  rw [List.map_congr_left (g := fun _ => (-1 : Int)) (fun p _ => place_out (by simp))]
  refine List.ext_getElem? fun p => ?_
  by_cases hp : p < n
  · simp [hp]
  · rw [List.getElem?_eq_none (by simp; omega), List.getElem?_eq_none (by simp; omega)]
/-- The nodes that have been met, without what is behind them. -/
def bareN (xs : List Nod) (vis : List Nat) : List Nod := vis.map fun p => ⟨(nodG xs p).f, (nodG xs p).ls, []⟩
theorem bareN_len (xs : List Nod) (vis : List Nat) : (bareN xs vis).length = vis.length := by simp [bareN]
theorem bareN_snoc (xs : List Nod) (vis : List Nat) (k : Nat) : bareN xs (vis ++ [k]) = bareN xs vis ++ [⟨(nodG xs k).f, (nodG xs k).ls, []⟩] := by simp [bareN]
/-- What is behind an entry, of the nodes themselves. -/
theorem stN_ent {xs : List Nod} {p : Nat} (h : p < xs.length) : stN (xs.map entD) p = (nodG xs p).ns.map Int.toNat := by
  unfold stN nodG
  rw [List.getD_eq_getElem?_getD, List.getElem?_map, List.getElem?_eq_getElem h, List.getD_eq_getElem?_getD, List.getElem?_eq_getElem h]
  rfl
theorem stD_ent {xs : List Nod} {p : Nat} (h : p < xs.length) : (xs.map entD).getD p stD = entD (nodG xs p) := by
  unfold nodG
  rw [List.getD_eq_getElem?_getD, List.getElem?_map, List.getElem?_eq_getElem h, List.getD_eq_getElem?_getD, List.getElem?_eq_getElem h]
  rfl
end Go.Proofs.YtokfkofclpajfaaDoor

namespace Go.Proofs.YtokfkofclpajfaaDoor
open Go.RowKit

/-! ### Appends, in whatever world -/
theorem info_i64V : (Tryd.prog.info? 2).map (fun i => (i.zero, i.size, i.bytes)) = some (some (.int .i64 0), 1, 8) := by kernel_rfl
theorem one_at {w : World} {H : Nat} {x : Value} (h : w.cell? ⟨H, 0, none⟩ = some x) : ∀ j u, [x][j]? = some u → w.cell? ((⟨H, 0, none⟩ : Addr).add j) = some u := by
  intro j u hj
  match j, hj with
  | 0, hj => simp at hj; subst hj; rw [Go.WideShapes.add_plain]; exact h
  | j + 1, hj => simp at hj
theorem three_at {w : World} {H : Nat} {x y z : Value} {t : TypeId} (h : Blk w H t #[x, y, z]) : ∀ j u, [x, y, z][j]? = some u → w.cell? ((⟨H, 0, none⟩ : Addr).add j) = some u := by
  intro j u hj
  rw [Go.WideShapes.add_plain, Nat.zero_add, h.cells j]
  simpa using hj
theorem apart_own {w w' : World} {r : Option Nat} (hg : w.grownBy w' r) : Apart (fun k => r = some k) w w' := (Apart.refl _ w).grown hg fun _ hk _ => hk
theorem wpList_append_int {ops : Array Oper} {rest : List Oper} {o : Oper} {a : Act} {Q : Exit → Act → World → Prop} {B H : Nat} {W : World} (hgd : o.guard = none) (s x : Operand)
    (ho : o.op = .call { callee := .builtin .append, args := #[s, x], argTypes := #[53, 53] })
    (u : Value) (zs : List Int) (z : Int) (hs : a.eval s = u) (hx : a.eval x = .slice (some ⟨H, 0, none⟩) 1 1) (hc : W.cell? ⟨H, 0, none⟩ = some (.int .i64 z))
    (hown : RowI B W u zs) (n : Nat) (hn : zs.length = n) (hlen : n ≤ 1000000) (hB : B ≤ W.heap.size)
    (h : ∀ g cap w', RowI B w' (.slice (some ⟨g, 0, none⟩) (n + 1) cap) (zs ++ [z]) → Apart (fun b => u.ownBlock = some b) W w' → (u.ownBlock = some g ∨ W.heap.size ≤ g) → wpList Tryd.prog ops Q rest (a.put o.dst (.slice (some ⟨g, 0, none⟩) (n + 1) cap)) w') :
    wpList Tryd.prog ops Q (o :: rest) a W := by
  subst hn
  obtain ⟨i0, hi, hz0, hz1, hz2⟩ := info_parts info_i64V
  refine wpList_append_lies _ hgd s x 53 ho B 2 i0 (.int .i64 0) 1 8 Tryd.underlying53 hi hz0 hz1 hz2 rfl (by decide) u zs.length (zs.map (Value.int .i64)) hs hown ⟨H, 0, none⟩ 1 1 [.int .i64 z] hx rfl (one_at hc) ?_ (by decide) ?_ ?_ hB _ rfl ?_
  · intro y hy; simp at hy; subst hy; rfl
  · simp [maxLen]; omega
  · omega
  · intro g cap w' ho' hg hl _
    refine h g cap w' ?_ (apart_own hg) (hl.imp id fun e => by omega)
    unfold RowI
    rw [List.map_append, List.length_append]
    exact ho'
theorem step_append_int {ops : Array Oper} {o : Oper} {a : Act} {K : Act → World → Prop} {Q : Exit → Act → World → Prop} {E : Prop} {B H : Nat} {W : World} (hgd : o.guard = none) (s x : Operand)
    (ho : o.op = .call { callee := .builtin .append, args := #[s, x], argTypes := #[53, 53] })
    (u : Value) (zs : List Int) (z : Int) (hs : a.eval s = u) (hx : a.eval x = .slice (some ⟨H, 0, none⟩) 1 1) (hc : W.cell? ⟨H, 0, none⟩ = some (.int .i64 z))
    (hown : RowI B W u zs) (n : Nat) (hn : zs.length = n) (hlen : n ≤ 1000000) (hB : B ≤ W.heap.size)
    (h : ∀ g cap w', RowI B w' (.slice (some ⟨g, 0, none⟩) (n + 1) cap) (zs ++ [z]) → Apart (fun b => u.ownBlock = some b) W w' → (u.ownBlock = some g ∨ W.heap.size ≤ g) → K (a.put o.dst (.slice (some ⟨g, 0, none⟩) (n + 1) cap)) w') :
    if Region.wanted o (yielded ops a.tmps) = true then Oper.wp Tryd.prog o a W K Q else E := by
  subst hn
  obtain ⟨i0, hi, hz0, hz1, hz2⟩ := info_parts info_i64V
  refine step_append_lies _ hgd s x 53 ho B 2 i0 (.int .i64 0) 1 8 Tryd.underlying53 hi hz0 hz1 hz2 rfl (by decide) u zs.length (zs.map (Value.int .i64)) hs hown ⟨H, 0, none⟩ 1 1 [.int .i64 z] hx rfl (one_at hc) ?_ (by decide) ?_ ?_ hB _ rfl ?_
  · intro y hy; simp at hy; subst hy; rfl
  · simp [maxLen]; omega
  · omega
  · intro g cap w' ho' hg hl _
    refine h g cap w' ?_ (apart_own hg) (hl.imp id fun e => by omega)
    unfold RowI
    rw [List.map_append, List.length_append]
    exact ho'
theorem step_append_node {ops : Array Oper} {o : Oper} {a : Act} {K : Act → World → Prop} {Q : Exit → Act → World → Prop} {E : Prop} {B H : Nat} {W : World} (hgd : o.guard = none) (s x : Operand)
    (ho : o.op = .call { callee := .builtin .append, args := #[s, x], argTypes := #[27, 27] })
    (v u : Value) (us : List Value) (xs : List Nod) (d : Nod) (hs : a.eval s = v) (hx : a.eval x = .slice (some ⟨H, 0, none⟩) 1 1) (hc : Blk W H 71 #[.bool d.f, .string d.ls, u])
    (hown : Nows B W v us xs) (hlen : xs.length ≤ 1100000) (hB : B ≤ W.heap.size) (hu : RowI B W u d.ns) (hd : ∀ z ∈ d.ns, 0 ≤ z ∧ z < (xs.length : Int))
    (h : ∀ g cap w', Nows B w' (.slice (some ⟨g, 0, none⟩) (xs.length + 1) cap) (us ++ [u]) (xs ++ [d]) → Apart (fun b => v.ownBlock = some b) W w' → (v.ownBlock = some g ∨ W.heap.size ≤ g) → K (a.put o.dst (.slice (some ⟨g, 0, none⟩) (xs.length + 1) cap)) w') :
    if Region.wanted o (yielded ops a.tmps) = true then Oper.wp Tryd.prog o a W K Q else E := by
  obtain ⟨i0, hi, hz0, hz1, hz2⟩ := info_parts info_nodV
  refine step_append_lies _ hgd s x 27 ho B 71 i0 (.agg #[.bool false, .string ByteArray.empty, .slice none 0 0]) 3 48 Tryd.underlying27 hi hz0 hz1 hz2 rfl (by decide) v xs.length (cellsN us xs) hs hown.row ⟨H, 0, none⟩ 1 1 [.bool d.f, .string d.ls, u] hx rfl (three_at hc) ?_ (by decide) ?_ ?_ hB _ rfl ?_
  · intro y hy; simp at hy; rcases hy with h9 | h9 | h9 <;> rw [h9] <;> first | exact hu.cell | rfl
  · simp [maxLen]; omega
  · omega
  · intro g cap w' ho' hg hl _
    exact h g cap w' (hown.snoc ho' hg hu hd) (apart_own hg) (hl.imp id fun e => by omega)
theorem Nows.drew {B : Nat} {w : World} {v : Value} {us : List Value} {xs : List Nod} (h : Nows B w v us xs) : Nows B w.drew v us xs := ⟨h.len, h.row, h.nx, h.down⟩
theorem RowI.drew {B : Nat} {w : World} {u : Value} {zs : List Int} (h : RowI B w u zs) : RowI B w.drew u zs := h

/-! ### The store of nodes while they are made -/
structure BSt (B gb : Nat) (w : World) (v : Value) (us : List Value) (xs : List Nod) : Prop where
  blk : Blk w gb 150 #[v]
  row : Nows B w v us xs
/-- The blocks into which build writes. -/
def inS (gb : Nat) (v : Value) (k : Nat) : Prop := k = gb ∨ v.ownBlock = some k
/-- One of the rows of numbers lies in block k. -/
def hasRow (us : List Value) (k : Nat) : Prop := ∃ u ∈ us, u.ownBlock = some k
theorem hasRow_snoc {us : List Value} {u : Value} {k : Nat} : hasRow (us ++ [u]) k ↔ hasRow us k ∨ u.ownBlock = some k := by
  unfold hasRow
  constructor
  · rintro ⟨x, hx, h⟩
    rcases List.mem_append.1 hx with hx | hx
    · exact .inl ⟨x, hx, h⟩
    · simp at hx; subst hx; exact .inr h
  · rintro (⟨x, hx, h⟩ | h)
    · exact ⟨x, by simp [hx], h⟩
    · exact ⟨u, by simp, h⟩
theorem nxG_mem {us : List Value} {j : Nat} (h : j < us.length) : nxG us j ∈ us := by
  unfold nxG
  rw [List.getD_eq_getElem?_getD, List.getElem?_eq_getElem h]
  exact List.getElem_mem _
theorem Nows.far {B : Nat} {w w' : World} {v : Value} {us : List Value} {xs : List Nod} {S : Nat → Prop} (h : Nows B w v us xs) (hk : Apart S w w') (hv : ∀ k, v.ownBlock = some k → ¬ S k) (hu : ∀ k, hasRow us k → ¬ S k) : Nows B w' v us xs :=
  h.apart hk hv fun j hj k hk => hu k ⟨_, nxG_mem (by rw [h.len]; exact hj), hk⟩
theorem Nows.rowLt {B : Nat} {w : World} {v : Value} {us : List Value} {xs : List Nod} (h : Nows B w v us xs) {k : Nat} (hk : hasRow us k) : B ≤ k ∧ k < w.heap.size := by
  obtain ⟨u, hu, hb⟩ := hk
  obtain ⟨j, hj, rfl⟩ := List.mem_iff_getElem.1 hu
  have h1 := h.nx j (by rw [← h.len]; exact hj)
  have h2 : nxG us j = us[j] := by unfold nxG; rw [List.getD_eq_getElem?_getD, List.getElem?_eq_getElem hj]; rfl
  rw [h2] at h1
  exact World.ownsRow.lt h1 k hb
theorem Nows.rowNot {B : Nat} {w : World} {v : Value} {us : List Value} {xs : List Nod} {g : Nat} {t : TypeId} {cs : Array Value} (h : Nows B w v us xs) (hb : Blk w g t cs) (ht : t ≠ 2) : ¬ hasRow us g := by
  rintro ⟨u, hu, hk⟩
  obtain ⟨j, hj, rfl⟩ := List.mem_iff_getElem.1 hu
  have h1 := h.nx j (by rw [← h.len]; exact hj)
  have h2 : nxG us j = us[j] := by unfold nxG; rw [List.getD_eq_getElem?_getD, List.getElem?_eq_getElem hj]; rfl
  rw [h2] at h1
  exact row_blk hb ht h1 g hk rfl
theorem Nows.rowRow {B : Nat} {w : World} {v : Value} {us : List Value} {xs : List Nod} (h : Nows B w v us xs) {k : Nat} (hk : v.ownBlock = some k) : ¬ hasRow us k := by
  rintro ⟨u, hu, hb⟩
  obtain ⟨j, hj, rfl⟩ := List.mem_iff_getElem.1 hu
  have h1 := h.nx j (by rw [← h.len]; exact hj)
  have h2 : nxG us j = us[j] := by unfold nxG; rw [List.getD_eq_getElem?_getD, List.getElem?_eq_getElem hj]; rfl
  rw [h2] at h1
  exact row_row h.row (by decide) h1 k hk hb
theorem BSt.far {B gb : Nat} {w w' : World} {v : Value} {us : List Value} {xs : List Nod} {S : Nat → Prop} (h : BSt B gb w v us xs) (hk : Apart S w w') (hg : ¬ S gb) (hv : ∀ k, v.ownBlock = some k → ¬ S k) (hu : ∀ k, hasRow us k → ¬ S k) : BSt B gb w' v us xs :=
  ⟨h.blk.apart hk hg, h.row.far hk hv hu⟩
theorem BSt.below {B gb : Nat} {w w' : World} {v : Value} {us : List Value} {xs : List Nod} (h : BSt B gb w v us xs) (hb : Below w.heap.size w w') : BSt B gb w' v us xs :=
  h.far (Apart.of_below (S := fun _ => False) hb) (fun e => e) (fun _ _ e => e) (fun _ _ e => e)
theorem BSt.drew {B gb : Nat} {w : World} {v : Value} {us : List Value} {xs : List Nod} (h : BSt B gb w v us xs) : BSt B gb w.drew v us xs := ⟨h.blk.drew, h.row.drew⟩
theorem BSt.vlt {B gb : Nat} {w : World} {v : Value} {us : List Value} {xs : List Nod} (h : BSt B gb w v us xs) {k : Nat} (hk : v.ownBlock = some k) : k < w.heap.size := (World.ownsRow.lt h.row.row k hk).2
theorem BSt.vnot {B gb : Nat} {w : World} {v : Value} {us : List Value} {xs : List Nod} (h : BSt B gb w v us xs) : v.ownBlock ≠ some gb := fun e => row_blk h.blk (by decide) h.row.row gb e rfl
theorem RowI.far {B : Nat} {w w' : World} {u : Value} {zs : List Int} {S : Nat → Prop} (h : RowI B w u zs) (hk : Apart S w w') (hv : ∀ k, u.ownBlock = some k → ¬ S k) : RowI B w' u zs := row_apart h hk hv
theorem RowI.below {B : Nat} {w w' : World} {u : Value} {zs : List Int} (h : RowI B w u zs) (hb : Below w.heap.size w w') : RowI B w' u zs :=
  h.far (Apart.of_below (S := fun _ => False) hb) (fun _ _ e => e)
theorem RowI.lt {B : Nat} {w : World} {u : Value} {zs : List Int} (h : RowI B w u zs) {k : Nat} (hk : u.ownBlock = some k) : B ≤ k ∧ k < w.heap.size := World.ownsRow.lt h k hk

/-! ### In the middle of a node -/
theorem strs_blk {w : World} {v : Value} {ss : List ByteArray} (h : Strs w v ss) (h0 : 0 < ss.length) : ∀ k, v.ownBlock = some k → k < w.heap.size := by
  intro k hk
  obtain ⟨a, cap, rfl, -, -, h3⟩ := h
  obtain ⟨b, off, rfl, hb, -⟩ := h3 h0
  simp [Value.ownBlock] at hk
  omega
/-- What holds of the call from its start. -/
structure FixB (B gb f : Nat) (w : World) (v vl : Value) (ls : List ByteArray) (us : List Value) (xs : List Nod) : Prop where
  size : ∀ s ∈ ls, s.size < f + 1
  f14 : f + 1 ≤ 14
  len : ls.length ≤ 3000
  rise : RiseV (fromL ls 0)
  strs : Strs w vl ls
  off : 0 < ls.length → ∀ k, vl.ownBlock = some k → ¬ inS gb v k
  heap : B ≤ w.heap.size
  good : Good (xs.map entD)
  room : xs.length + (1 + lenS (fromL ls 0)) ≤ 1000000
  bst : BSt B gb w v us xs
theorem FixB.vl {B gb f : Nat} {w : World} {v vl : Value} {ls : List ByteArray} {us : List Value} {xs : List Nod} (h : FixB B gb f w v vl ls us xs) (h0 : 0 < ls.length) {k : Nat} (hk : vl.ownBlock = some k) : k < w.heap.size := strs_blk h.strs h0 k hk
/-- The memory: the node under way lies in a block of its own, whose third cell holds uc; its row is u. -/
structure MemB (B gb : Nat) (w wr : World) (v vl : Value) (fin : Bool) (ls : List ByteArray) (us : List Value) (v1 : Value) (us1 : List Value) (xs1 : List Nod) (u uc : Value) (acc : List Nat) (L : ByteArray) : Prop where
  bst : BSt B gb wr v1 us1 xs1
  node : Blk wr w.heap.size 71 #[.bool fin, .string L, uc]
  row : RowI B wr u (acc.map Int.ofNat)
  strs : Strs wr vl ls
  apart : Apart (inS gb v) w wr
  near : ∀ j, v1.ownBlock = some j → v.ownBlock = some j ∨ w.heap.size < j
  rows : ∀ j, hasRow us1 j → hasRow us j ∨ w.heap.size < j
  own : ∀ j, u.ownBlock = some j → w.heap.size < j ∧ ¬ hasRow us1 j
section
variable {B gb f : Nat} {w wr w2 : World} {v vl : Value} {fin : Bool} {ls : List ByteArray} {us : List Value} {xs : List Nod} {v1 : Value} {us1 : List Value} {xs1 : List Nod} {u uc : Value} {acc : List Nat} {L : ByteArray}
theorem MemB.below (h : MemB B gb w wr v vl fin ls us v1 us1 xs1 u uc acc L) (hb : Below wr.heap.size wr w2) : MemB B gb w w2 v vl fin ls us v1 us1 xs1 u uc acc L :=
  ⟨h.bst.below hb, h.node.kept hb h.node.lt, h.row.below hb, h.strs.below hb, h.apart.belowA hb, h.near, h.rows, h.own⟩
theorem MemB.drew (h : MemB B gb w wr v vl fin ls us v1 us1 xs1 u uc acc L) : MemB B gb w wr.drew v vl fin ls us v1 us1 xs1 u uc acc L := h.below (Below.refl _ _).drew
theorem MemB.alloc (h : MemB B gb w wr v vl fin ls us v1 us1 xs1 u uc acc L) (o : Obj) : MemB B gb w (wr.alloc o) v vl fin ls us v1 us1 xs1 u uc acc L := h.below ((Below.refl _ _).alloc (Nat.le_refl _) o)
theorem MemB.vnb (hF : FixB B gb f w v vl ls us xs) (h : MemB B gb w wr v vl fin ls us v1 us1 xs1 u uc acc L) : v1.ownBlock ≠ some w.heap.size := fun e => by
  rcases h.near _ e with h1 | h1
  · have := hF.bst.vlt h1; omega
  · omega
/-- A store into the node's block. -/
theorem MemB.store (hF : FixB B gb f w v vl ls us xs) (h : MemB B gb w wr v vl fin ls us v1 us1 xs1 u uc acc L) {L2 : ByteArray} {uc2 : Value} (j : Nat) (x : Value) (hx : (#[Value.bool fin, .string L, uc] : Array Value).setIfInBounds j x = #[.bool fin, .string L2, uc2]) :
    MemB B gb w (wr.setCell ⟨w.heap.size, j, none⟩ x) v vl fin ls us v1 us1 xs1 u uc2 acc L2 := by
  have hA : Apart (fun k => k = w.heap.size) wr (wr.setCell ⟨w.heap.size, j, none⟩ x) := (Apart.refl (fun k => k = w.heap.size) wr).setCell (p := ⟨w.heap.size, j, none⟩) (fun _ => rfl) x
  have hg := hF.bst.blk.lt
  have hn := h.node.stored j x
  rw [hx] at hn
  refine ⟨h.bst.far hA (fun e => by omega) (fun k hk e => h.vnb hF (by rw [hk, e])) (fun k hk e => h.bst.row.rowNot h.node (by decide) (by rw [← e]; exact hk)), hn, h.row.far hA (fun k hk e => by have := (h.own k hk).1; omega), ?_, h.apart.setCell (p := ⟨w.heap.size, j, none⟩) (fun hh => absurd hh (by simp)) x, h.near, h.rows, h.own⟩
  exact strs_apart h.strs hA fun h0 k hk e => by have := hF.vl h0 hk; omega
/-- The call of itself. -/
theorem MemB.called (hF : FixB B gb f w v vl ls us xs) (h : MemB B gb w wr v vl fin ls us v1 us1 xs1 u uc acc L) {v2 : Value} {us2 : List Value} {xs2 : List Nod} (hb : BSt B gb w2 v2 us2 xs2) (hA : Apart (inS gb v1) wr w2)
    (hv : ∀ k, v2.ownBlock = some k → v1.ownBlock = some k ∨ wr.heap.size ≤ k) (hr : ∀ k, hasRow us2 k → hasRow us1 k ∨ wr.heap.size ≤ k) : MemB B gb w w2 v vl fin ls us v2 us2 xs2 u uc acc L := by
  have hg := hF.bst.blk.lt
  have hnl := h.node.lt
  refine ⟨hb, h.node.apart hA ?_, h.row.far hA ?_, strs_apart h.strs hA ?_, h.apart.trans hA ?_, ?_, ?_, ?_⟩
  · rintro (e | e)
    · omega
    · exact h.vnb hF e
  · rintro k hk (e | e)
    · have := (h.own k hk).1; omega
    · exact row_row h.row (by decide) h.bst.row.row k hk e
  · rintro h0 k hk (e | e)
    · exact hF.off h0 k hk (.inl e)
    · rcases h.near k e with h1 | h1
      · exact hF.off h0 k hk (.inr h1)
      · have := hF.vl h0 hk; omega
  · rintro i hi (e | e)
    · exact .inl e
    · rcases h.near i e with h1 | h1
      · exact .inr h1
      · omega
  · intro j hj
    rcases hv j hj with h1 | h1
    · exact h.near j h1
    · exact .inr (by omega)
  · intro j hj
    rcases hr j hj with h1 | h1
    · exact h.rows j h1
    · exact .inr (by omega)
  · intro j hj
    refine ⟨(h.own j hj).1, fun hh => ?_⟩
    rcases hr j hh with h1 | h1
    · exact (h.own j hj).2 h1
    · have := (h.row.lt hj).2; omega
/-- One number more behind the node's row. -/
theorem MemB.more (hF : FixB B gb f w v vl ls us xs) (h : MemB B gb w wr v vl fin ls us v1 us1 xs1 u uc acc L) {g n cap p : Nat} (hr : RowI B w2 (.slice (some ⟨g, 0, none⟩) n cap) ((acc ++ [p]).map Int.ofNat)) (hA : Apart (fun b => u.ownBlock = some b) wr w2)
    (hl : u.ownBlock = some g ∨ wr.heap.size ≤ g) : MemB B gb w w2 v vl fin ls us v1 us1 xs1 (.slice (some ⟨g, 0, none⟩) n cap) uc (acc ++ [p]) L := by
  have hg := hF.bst.blk.lt
  have hnl := h.node.lt
  refine ⟨h.bst.far hA (fun e => by have := (h.own _ e).1; omega) (fun k hk e => row_row h.row (by decide) h.bst.row.row k e hk) (fun k hk e => (h.own k e).2 hk), h.node.apart hA (fun e => by have := (h.own _ e).1; omega), hr, strs_apart h.strs hA (fun h0 k hk e => by have := (h.own _ e).1; have := hF.vl h0 hk; omega), h.apart.trans hA (fun i hi e => by have := (h.own _ e).1; omega), h.near, h.rows, ?_⟩
  intro j hj
  simp [Value.ownBlock] at hj
  subst hj
  rcases hl with h1 | h1
  · exact h.own _ h1
  · exact ⟨by omega, fun hh => by have := (h.bst.row.rowLt hh).2; omega⟩
end

/-! ### The plain side -/
structure PlainB (f : Nat) (ls : List ByteArray) (st0 : List Ent) (k0 k : Nat) (xs1 : List Nod) (acc : List Nat) (L : ByteArray) : Prop where
  left : Left f ls st0 k (xs1.map entD) acc L.data.toList
  lt : ∀ z ∈ acc, z < xs1.length
  good : Good (xs1.map entD)
  room : xs1.length + (sumC (fun ts => 1 + lenS ts) ((grp (fromL ls k)).map (·.2)) + 1) ≤ 1000000
  few : acc.length ≤ k
  fewL : L.size ≤ k
  base : k0 ≤ k
theorem fromL_drop {ls : List ByteArray} {k : Nat} : fromL ls k = (fromL ls 0).drop k := by unfold fromL; rw [List.drop_zero, List.map_drop]
theorem rise_from {ls : List ByteArray} (h : RiseV (fromL ls 0)) (k : Nat) : RiseV (fromL ls k) := by
  rw [fromL_drop]
  exact List.Pairwise.sublist (List.drop_sublist _ _) h
theorem lenS_drop {ls : List ByteArray} (k : Nat) (hk : k ≤ 1) : lenS (fromL ls k) ≤ lenS (fromL ls 0) := by
  rcases Nat.eq_zero_or_pos k with rfl | h
  · exact Nat.le_refl _
  · obtain rfl : k = 1 := by omega
    cases ls with
    | nil => exact Nat.le_refl _
    | cons a ls =>
      show lenS (ls.map (·.data.toList)) ≤ a.data.toList.length + lenS (ls.map (·.data.toList))
      omega
theorem PlainB.start {f : Nat} {ls : List ByteArray} {xs : List Nod} {k0 : Nat} (hk : k0 = if isFin (fromL ls 0) = true then 1 else 0) (hg : Good (xs.map entD)) (hroom : xs.length + (1 + lenS (fromL ls 0)) ≤ 1000000) : PlainB f ls (xs.map entD) k0 k0 xs [] ByteArray.empty := by
  have h1 := grp_lens (fromL ls k0)
  have h2 := lenS_drop (ls := ls) k0 (by rw [hk]; split <;> omega)
  refine ⟨Left.start f ls _ hk, by simp, hg, by omega, by simp, by simp, Nat.le_refl _⟩
theorem PlainB.step {f : Nat} {ls : List ByteArray} {st0 : List Ent} {k0 k k2 : Nat} {xs1 xs2 : List Nod} {acc : List Nat} {L L2 : ByteArray} {c : UInt8} {ts : List ByteArray} (h : PlainB f ls st0 k0 k xs1 acc L) (hg : grp (fromL ls k) = (c, ts.map (·.data.toList)) :: grp (fromL ls k2)) (hk : k < k2)
    (hf : 0 < f ∧ ∀ w ∈ ts.map (·.data.toList), w.length < f) (hL : L2.data.toList = L.data.toList ++ [c]) (hx : xs2.map entD = (bldW f (xs1.map entD) (fromL ts 0)).1) : PlainB f ls st0 k0 k2 xs2 (acc ++ [(bldW f (xs1.map entD) (fromL ts 0)).2]) L2 := by
  have e0 : fromL ts 0 = ts.map (·.data.toList) := rfl
  rw [e0] at hx ⊢
  obtain ⟨g1, g2, g3⟩ := bldW_good f (xs1.map entD) (ts.map (·.data.toList)) hf h.good
  have hsz := bldW_size f (xs1.map entD) (ts.map (·.data.toList))
  have hlen := congrArg List.length hx
  rw [List.length_map] at hlen
  rw [List.length_map] at hsz
  have hup := g3.length_le
  rw [List.length_map] at hup
  have hroom := h.room
  rw [hg, List.map_cons] at hroom
  simp only [sumC] at hroom
  refine ⟨?_, fun z hz => ?_, by rw [hx]; exact g1, by omega, by have := h.few; simp; omega, ?_, by have := h.base; omega⟩
  · rw [hx, hL]
    exact h.left.next hg
  · simp at hz
    rcases hz with hz | rfl
    · have := h.lt z hz; omega
    · omega
  · have h1 := list_size L2
    have h2 := list_size L
    rw [hL] at h1
    simp at h1
    have := h.fewL
    have h3 : L.data.size = L.size := rfl
    omega
theorem PlainB.tails {f : Nat} {ls : List ByteArray} {st0 : List Ent} {k0 k k2 : Nat} {xs1 : List Nod} {acc : List Nat} {L : ByteArray} {c : UInt8} {ts : List ByteArray} (h : PlainB f ls st0 k0 k xs1 acc L) (hg : grp (fromL ls k) = (c, ts.map (·.data.toList)) :: grp (fromL ls k2)) :
    xs1.length + (1 + lenS (fromL ts 0)) ≤ 1000000 := by
  have hroom := h.room
  rw [hg, List.map_cons] at hroom
  simp only [sumC] at hroom
  have e0 : fromL ts 0 = ts.map (·.data.toList) := rfl
  rw [e0]
  omega
/-- The tails of a group: shorter, rising, no more of them. -/
theorem tails_fix {ls ts : List ByteArray} {k k2 : Nat} {c : UInt8} {f : Nat} (ht : Taken ls k k2 c ts) (hr : RiseV (fromL ls 0)) (hs : ∀ s ∈ ls, s.size < f + 1) (hk : k < k2) (hkl : k2 ≤ ls.length) :
    RiseV (fromL ts 0) ∧ (∀ s ∈ ts, s.size < f) ∧ 0 < f ∧ ts.length ≤ ls.length ∧ ∀ w ∈ ts.map (·.data.toList), w.length < f := by
  have h2 : fromL ls k = (ts.map (·.data.toList)).map (c :: ·) ++ fromL ls k2 := ht.2
  have hr2 := rise_from hr k
  rw [h2] at hr2
  have hw : ∀ w ∈ ts.map (·.data.toList), w.length < f := by
    intro w hw
    have hm : (c :: w) ∈ fromL ls k := by
      rw [h2]
      exact List.mem_append_left _ (List.mem_map.2 ⟨w, hw, rfl⟩)
    unfold fromL at hm
    obtain ⟨s, hsm, he⟩ := List.mem_map.1 hm
    have h3 := hs s (List.mem_of_mem_drop hsm)
    have h4 := list_size s
    rw [he, List.length_cons] at h4
    omega
  have hl := ht.1
  refine ⟨hr2.tails, fun s hs2 => ?_, ?_, by omega, hw⟩
  · have := hw _ (List.mem_map.2 ⟨s, hs2, rfl⟩)
    rw [list_size] at this
    exact this
  · cases ts with
    | nil => simp at hl; omega
    | cons s ts =>
      have := hw s.data.toList (by simp)
      omega
end Go.Proofs.YtokfkofclpajfaaDoor
