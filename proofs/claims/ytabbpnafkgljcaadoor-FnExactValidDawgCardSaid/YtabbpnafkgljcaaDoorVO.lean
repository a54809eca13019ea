/-
  Nodes that the call itself has made: one row of them, each with a row of numbers that lies apart from it.
  One node more in a row of nodes of the call's own: the append, at the operation.
  What is left of a list while the model builds its node; rows of strings that outlive a call.
-/
import Derived.Test.YtabbpnafkgljcaaDoorVL
import Derived.Test.YtabbpnafkgljcaaDoorJ1
import Derived.Deep.AppendLies
namespace Go.Proofs.YtabbpnafkgljcaaDoor
open Go.RowKit

def nxG (us : List Value) (j : Nat) : Value := us.getD j .nilFunc
def slotN (us : List Value) (xs : List Nod) (j : Nat) : List Value := [.bool (nodG xs j).f, .string (nodG xs j).ls, nxG us j]
def cellsN (us : List Value) (xs : List Nod) : List Value := (List.range xs.length).flatMap (slotN us xs)
theorem nodG_snoc (xs : List Nod) (x : Nod) (j : Nat) (h : j ≤ xs.length) : nodG (xs ++ [x]) j = if j = xs.length then x else nodG xs j := by
  unfold nodG
  rw [List.getD_eq_getElem?_getD, List.getD_eq_getElem?_getD]
  split
  · subst_vars; rw [List.getElem?_append_right (Nat.le_refl _)]; simp
  · rw [List.getElem?_append_left (by omega)]
theorem nxG_snoc (us : List Value) (u : Value) (j : Nat) (h : j ≤ us.length) : nxG (us ++ [u]) j = if j = us.length then u else nxG us j := by
  unfold nxG
  rw [List.getD_eq_getElem?_getD, List.getD_eq_getElem?_getD]
  split
  · subst_vars; rw [List.getElem?_append_right (Nat.le_refl _)]; simp
  · rw [List.getElem?_append_left (by omega)]
theorem flatMap_rng {α : Type} {f g : Nat → List α} : ∀ {n : Nat}, (∀ j, j < n → f j = g j) → (List.range n).flatMap f = (List.range n).flatMap g
  | 0, _ => rfl
  | n + 1, h => by rw [List.range_succ, List.flatMap_append, List.flatMap_append, flatMap_rng (n := n) (fun j hj => h j (by omega))]; simp [h n (by omega)]
theorem cellsN_snoc (us : List Value) (xs : List Nod) (u : Value) (x : Nod) (h : us.length = xs.length) : cellsN (us ++ [u]) (xs ++ [x]) = cellsN us xs ++ [.bool x.f, .string x.ls, u] := by
  unfold cellsN
  rw [List.length_append, List.length_singleton, List.range_succ, List.flatMap_append]
  congr 1
  · refine flatMap_rng fun j hj => ?_
    unfold slotN
    rw [nodG_snoc _ _ _ (by omega), nxG_snoc _ _ _ (by omega), if_neg (by omega), if_neg (by omega)]
  · simp only [List.flatMap_cons, List.flatMap_nil, List.append_nil]
    unfold slotN
    rw [nodG_snoc _ _ _ (by omega), nxG_snoc _ _ _ (by omega), if_pos h.symm, if_pos rfl]
theorem flatMap_three {α : Type} {f : Nat → List α} (hf : ∀ j, (f j).length = 3) : ∀ {n j : Nat} (o : Nat), j < n → o < 3 → ((List.range n).flatMap f)[j * 3 + o]? = (f j)[o]? := by
  have hl : ∀ n, ((List.range n).flatMap f).length = n * 3 := by
    intro n
    induction n with
    | zero => rfl
    | succ n ih => rw [List.range_succ, List.flatMap_append, List.length_append, ih]; simp [hf]; omega
  intro n
  induction n with
  | zero => intro j o h; omega
  | succ n ih =>
    intro j o hj ho
    rw [List.range_succ, List.flatMap_append]
    by_cases h : j < n
    · rw [List.getElem?_append_left (by rw [hl]; omega)]
      exact ih o h ho
    · obtain rfl : j = n := by omega
      rw [List.getElem?_append_right (by rw [hl]; omega), hl, show j * 3 + o - j * 3 = o by omega]
      simp
theorem cellsN_at {us : List Value} {xs : List Nod} {j : Nat} (o : Nat) (h : j < xs.length) (ho : o < 3) : (cellsN us xs)[j * 3 + o]? = (slotN us xs j)[o]? := flatMap_three (fun _ => rfl) o h ho
/-- A row of numbers of the call's own. -/
def RowI (B : Nat) (w : World) (v : Value) (zs : List Int) : Prop := w.ownsRow B 2 1 v zs.length (zs.map (Value.int .i64))
theorem RowI.nil (B : Nat) (w : World) : RowI B w (.slice none 0 0) [] := ⟨rfl, .inl ⟨rfl, rfl⟩⟩
theorem RowI.ints {B : Nat} {w : World} {v : Value} {zs : List Int} (h : RowI B w v zs) (hz : ∀ z ∈ zs, (Lit.int .i64 z).wf = true) : Ints .i64 w v zs := by
  have h' := h
  rcases h.2 with ⟨rfl, h0⟩ | ⟨g, cap, cur, rfl, hB, hg, hn, hm, -⟩
  · exact ⟨none, 0, by rw [h0], by omega, Nat.zero_le _, fun h => absurd h (by omega), hz⟩
  · refine ⟨_, cap, rfl, hn, hm, fun _ => ⟨g, 0, rfl, (Array.getElem?_eq_some_iff.1 hg).1, fun j hj => ?_⟩, hz⟩
    rw [Nat.zero_add, World.ownsRow.cellAt h' j (by omega)]
    simp [List.getD_eq_getElem?_getD, List.getElem?_eq_getElem hj]
theorem row_apart {B n m : Nat} {e : TypeId} {w w' : World} {v : Value} {xs : List Value} {S : Nat → Prop} (h : w.ownsRow B e m v n xs) (hk : Apart S w w') (hv : ∀ k, v.ownBlock = some k → ¬ S k) : w'.ownsRow B e m v n xs := by
  refine ⟨h.1, ?_⟩
  rcases h.2 with h | ⟨g', cap, cur, rfl, hg1, hg, r⟩
  · exact .inl h
  · exact .inr ⟨g', cap, cur, rfl, hg1, (hk.block g' (Array.getElem?_eq_some_iff.1 hg).1 (hv g' rfl)).trans hg, r⟩
theorem row_blk {w : World} {b B n m : Nat} {t e : TypeId} {cs : Array Value} {v : Value} {xs : List Value} (h : Blk w b t cs) (hte : t ≠ e) (hr : w.ownsRow B e m v n xs) : ∀ k, v.ownBlock = some k → k ≠ b := by
  intro k hk e'
  rcases hr.2 with ⟨rfl, _⟩ | ⟨g, cap, cur, rfl, _, hg, _⟩
  · simp [Value.ownBlock] at hk
  · have hgk : g = k := by simpa [Value.ownBlock] using hk
    rw [hgk, e'] at hg
    have := (show w.heap[b]? = _ from h).symm.trans hg
    simp at this
    exact hte this.2
/-- Rows of two types lie in two blocks. -/
theorem row_row {w : World} {B B' n n' m m' : Nat} {t e : TypeId} {u v : Value} {xs ys : List Value} (hu : w.ownsRow B t m u n xs) (hte : t ≠ e) (hv : w.ownsRow B' e m' v n' ys) : ∀ k, u.ownBlock = some k → v.ownBlock ≠ some k := by
  intro k hk
  rcases hu.2 with ⟨rfl, _⟩ | ⟨g, cap, cur, rfl, _, hg, _⟩
  · simp [Value.ownBlock] at hk
  · have hgk : g = k := by simpa [Value.ownBlock] using hk
    subst hgk
    intro h2
    exact row_blk (b := g) hg hte hv g h2 rfl
/-- A row of nodes of the call's own. -/
structure Nows (B : Nat) (w : World) (v : Value) (us : List Value) (xs : List Nod) : Prop where
  len : us.length = xs.length
  row : w.ownsRow B 50 3 v xs.length (cellsN us xs)
  nx : ∀ j, j < xs.length → RowI B w (nxG us j) (nodG xs j).ns
  down : ∀ j, j < xs.length → ∀ z ∈ (nodG xs j).ns, 0 ≤ z ∧ z < (j : Int)
theorem wf_i64 {z : Int} (h0 : 0 ≤ z) (h1 : z ≤ 9223372036854775807) : (Lit.int .i64 z).wf = true := by
  simp [Lit.wf, IntKind.min, IntKind.max, IntKind.signed, IntKind.bits]
  omega
theorem Nows.small {B : Nat} {w : World} {v : Value} {us : List Value} {xs : List Nod} (h : Nows B w v us xs) : xs.length ≤ maxLen := by
  rcases h.row.2 with ⟨rfl, h0⟩ | ⟨g, cap, cur, rfl, hB, hg, hn, hm, -⟩
  · omega
  · omega
theorem Nows.fine {B : Nat} {w : World} {v : Value} {us : List Value} {xs : List Nod} (h : Nows B w v us xs) {j : Nat} (hj : j < xs.length) : ∀ z ∈ (nodG xs j).ns, (Lit.int .i64 z).wf = true := fun z hz => by
  have h1 := h.down j hj z hz
  have h2 := h.small
  unfold maxLen at h2
  exact wf_i64 h1.1 (by omega)
theorem Nows.nil (B : Nat) (w : World) : Nows B w (.slice none 0 0) [] [] := ⟨rfl, ⟨rfl, .inl ⟨rfl, rfl⟩⟩, fun j h => absurd h (by simp), fun j h => absurd h (by simp)⟩
theorem Nows.nds {B : Nat} {w : World} {v : Value} {us : List Value} {xs : List Nod} (h : Nows B w v us xs) : Nds w v xs := by
  have hr2 := h.row
  rcases h.row.2 with ⟨hv, h0⟩ | ⟨g, cap, cur, hv, hB, hg, hn, hm, -⟩
  · exact ⟨none, 0, by rw [h0, hv], by omega, Nat.zero_le _, fun h => absurd h (by omega)⟩
  · rw [hv] at hr2
    refine ⟨_, cap, hv, hn, hm, fun _ => ⟨g, 0, rfl, (Array.getElem?_eq_some_iff.1 hg).1, fun j hj => ?_⟩⟩
    have ha : ∀ o, o < 3 → w.cell? ⟨g, 0 + j * 3 + o, none⟩ = (slotN us xs j)[o]? := fun o ho => by
      rw [Nat.zero_add, World.ownsRow.cellAt hr2 (j * 3 + o) (by omega)]
      exact cellsN_at o hj ho
    exact ⟨ha 0 (by omega), ha 1 (by omega), _, ha 2 (by omega), (h.nx j hj).ints (h.fine hj)⟩
theorem Nows.apart {B : Nat} {w w' : World} {v : Value} {us : List Value} {xs : List Nod} {S : Nat → Prop} (h : Nows B w v us xs) (hk : Apart S w w') (hv : ∀ k, v.ownBlock = some k → ¬ S k) (hu : ∀ j, j < xs.length → ∀ k, (nxG us j).ownBlock = some k → ¬ S k) : Nows B w' v us xs :=
  ⟨h.len, row_apart h.row hk hv, fun j hj => row_apart (h.nx j hj) hk (hu j hj), h.down⟩
theorem Nows.snoc {B : Nat} {w w' : World} {v v' u : Value} {us : List Value} {xs : List Nod} {x : Nod} (h : Nows B w v us xs) (hr : w'.ownsRow B 50 3 v' (xs.length + 1) (cellsN us xs ++ [.bool x.f, .string x.ls, u])) (hg : w.grownBy w' v.ownBlock) (hu : RowI B w u x.ns) (hd : ∀ z ∈ x.ns, 0 ≤ z ∧ z < (xs.length : Int)) : Nows B w' v' (us ++ [u]) (xs ++ [x]) := by
  have hA : Apart (fun k => v.ownBlock = some k) w w' := (Apart.refl _ w).grown hg fun k hk _ => hk
  have hrow : ∀ {u2 : Value} {zs : List Int}, RowI B w u2 zs → RowI B w' u2 zs := fun h2 => row_apart h2 hA (row_row h2 (by decide) h.row)
  have hl := h.len
  refine ⟨by simp [hl], ?_, fun j hj => ?_, fun j hj => ?_⟩
  · rw [cellsN_snoc _ _ _ _ hl, List.length_append, List.length_singleton]
    exact hr
  · rw [List.length_append, List.length_singleton] at hj
    rw [nxG_snoc _ _ _ (by omega), nodG_snoc _ _ _ (by omega)]
    by_cases hjx : j = xs.length
    · rw [if_pos (by omega), if_pos hjx]
      exact hrow hu
    · rw [if_neg (by omega), if_neg hjx]
      exact hrow (h.nx j (by omega))
  · rw [List.length_append, List.length_singleton] at hj
    rw [nodG_snoc _ _ _ (by omega)]
    by_cases hjx : j = xs.length
    · rw [if_pos hjx, hjx]
      exact hd
    · rw [if_neg hjx]
      exact h.down j (by omega)
end Go.Proofs.YtabbpnafkgljcaaDoor

namespace Go.Proofs.YtabbpnafkgljcaaDoor
open Go.RowKit

theorem info_nodV : (Tryd.prog.info? 50).map (fun i => (i.zero, i.size, i.bytes)) = some (some (.agg #[.bool false, .string ByteArray.empty, .slice none 0 0]), 3, 48) := by kernel_rfl
theorem cell_three_new (w : World) (x y z : Value) (t : TypeId) : ∀ j u, [x, y, z][j]? = some u → (w.alloc (.cells #[x, y, z] t)).cell? ((⟨w.heap.size, 0, none⟩ : Addr).add j) = some u := by
  intro j u hj
  have q := (Blk.made w t #[x, y, z]).cells
  match j, hj with
  | 0, hj => simp at hj; subst hj; exact q 0
  | 1, hj => simp at hj; subst hj; exact q 1
  | 2, hj => simp at hj; subst hj; exact q 2
  | j + 3, hj => simp at hj
theorem apart_grownV {w w' : World} {o : Obj} {r : Option Nat} (hg : (w.alloc o).grownBy w' r) : Apart (fun k => r = some k) w w' := ((Apart.refl _ w).alloc o).grown hg fun _ hk _ => hk
theorem RowI.cell {B : Nat} {w : World} {u : Value} {zs : List Int} (h : RowI B w u zs) : u.oneCell' = true := by
  rcases h.2 with ⟨rfl, _⟩ | ⟨g, cap, cur, rfl, _⟩ <;> rfl
theorem Nows.alloc {B : Nat} {w : World} {v : Value} {us : List Value} {xs : List Nod} (h : Nows B w v us xs) (o : Obj) : Nows B (w.alloc o) v us xs :=
  h.apart ((Apart.refl (fun _ => False) w).alloc o) (fun _ _ e => e) (fun _ _ _ _ e => e)
theorem RowI.alloc {B : Nat} {w : World} {u : Value} {zs : List Int} (h : RowI B w u zs) (o : Obj) : RowI B (w.alloc o) u zs :=
  row_apart h ((Apart.refl (fun _ => False) w).alloc o) (fun _ _ e => e)
theorem wpList_append_nod {ops : Array Oper} {rest : List Oper} {o : Oper} {a : Act} {Q : Exit → Act → World → Prop} {B H : Nat} {W : World} (hgd : o.guard = none) (s x : Operand)
    (ho : o.op = .call { callee := .builtin .append, args := #[s, x], argTypes := #[24, 24] })
    (v u : Value) (us : List Value) (xs : List Nod) (d : Nod) (hs : a.eval s = v) (hx : a.eval x = .slice (some ⟨H, 0, none⟩) 1 1) (hH : W.heap.size = H)
    (hown : Nows B W v us xs) (hlen : xs.length ≤ 1100000) (hB : B ≤ W.heap.size) (hu : RowI B W u d.ns) (hd : ∀ z ∈ d.ns, 0 ≤ z ∧ z < (xs.length : Int))
    (h : ∀ g cap w', Nows B w' (.slice (some ⟨g, 0, none⟩) (xs.length + 1) cap) (us ++ [u]) (xs ++ [d]) → Apart (fun b => v.ownBlock = some b) W w' → (v.ownBlock = some g ∨ W.heap.size ≤ g) → wpList Tryd.prog ops Q rest (a.put o.dst (.slice (some ⟨g, 0, none⟩) (xs.length + 1) cap)) w') :
    wpList Tryd.prog ops Q (o :: rest) a (W.alloc (.cells #[.bool d.f, .string d.ls, u] 50)) := by
  obtain ⟨i0, hi, hz0, hz1, hz2⟩ := info_parts info_nodV
  subst hH
  refine wpList_append_lies _ hgd s x 24 ho B 50 i0 (.agg #[.bool false, .string ByteArray.empty, .slice none 0 0]) 3 48 Tryd.underlying24 hi hz0 hz1 hz2 rfl (by decide) v xs.length (cellsN us xs) hs (World.ownsRow.alloc hown.row _) ⟨W.heap.size, 0, none⟩ 1 1 [.bool d.f, .string d.ls, u] hx rfl ?_ ?_ (by decide) ?_ ?_ ?_ _ rfl ?_
  · exact cell_three_new _ _ _ _ _
  · intro y hy; simp at hy; rcases hy with h9 | h9 | h9 <;> rw [h9] <;> first | exact hu.cell | rfl
  · simp [maxLen]; omega
  · omega
  · simp; omega
  · intro g cap w' ho' hg hl _
    exact h g cap w' ((hown.alloc _).snoc ho' hg (hu.alloc _) hd) (apart_grownV hg) (hl.imp id fun e => by rw [e]; simp)
/-- The same in a region that draws. -/
theorem step_append_nod {ops : Array Oper} {o : Oper} {a : Act} {K : Act → World → Prop} {Q : Exit → Act → World → Prop} {E : Prop} {B H : Nat} {W : World} (hgd : o.guard = none) (s x : Operand)
    (ho : o.op = .call { callee := .builtin .append, args := #[s, x], argTypes := #[24, 24] })
    (v u : Value) (us : List Value) (xs : List Nod) (d : Nod) (hs : a.eval s = v) (hx : a.eval x = .slice (some ⟨H, 0, none⟩) 1 1) (hH : W.heap.size = H)
    (hown : Nows B W v us xs) (hlen : xs.length ≤ 1100000) (hB : B ≤ W.heap.size) (hu : RowI B W u d.ns) (hd : ∀ z ∈ d.ns, 0 ≤ z ∧ z < (xs.length : Int))
    (h : ∀ g cap w', Nows B w' (.slice (some ⟨g, 0, none⟩) (xs.length + 1) cap) (us ++ [u]) (xs ++ [d]) → Apart (fun b => v.ownBlock = some b) W w' → (v.ownBlock = some g ∨ W.heap.size ≤ g) → K (a.put o.dst (.slice (some ⟨g, 0, none⟩) (xs.length + 1) cap)) w') :
    if Region.wanted o (yielded ops a.tmps) = true then Oper.wp Tryd.prog o a (W.alloc (.cells #[.bool d.f, .string d.ls, u] 50)) K Q else E := by
  obtain ⟨i0, hi, hz0, hz1, hz2⟩ := info_parts info_nodV
  subst hH
  refine step_append_lies _ hgd s x 24 ho B 50 i0 (.agg #[.bool false, .string ByteArray.empty, .slice none 0 0]) 3 48 Tryd.underlying24 hi hz0 hz1 hz2 rfl (by decide) v xs.length (cellsN us xs) hs (World.ownsRow.alloc hown.row _) ⟨W.heap.size, 0, none⟩ 1 1 [.bool d.f, .string d.ls, u] hx rfl ?_ ?_ (by decide) ?_ ?_ ?_ _ rfl ?_
  · exact cell_three_new _ _ _ _ _
  · intro y hy; simp at hy; rcases hy with h9 | h9 | h9 <;> rw [h9] <;> first | exact hu.cell | rfl
  · simp [maxLen]; omega
  · omega
  · simp; omega
  · intro g cap w' ho' hg hl _
    exact h g cap w' ((hown.alloc _).snoc ho' hg (hu.alloc _) hd) (apart_grownV hg) (hl.imp id fun e => by rw [e]; simp)
end Go.Proofs.YtabbpnafkgljcaaDoor

namespace Go.Proofs.YtabbpnafkgljcaaDoor
open Go.RowKit

theorem strs_apart {w w' : World} {v : Value} {us : List ByteArray} {S : Nat → Prop} (h : Strs w v us) (hk : Apart S w w') (hv : 0 < us.length → ∀ k, v.ownBlock = some k → ¬ S k) : Strs w' v us := by
  obtain ⟨a, cap, rfl, h1, h2, h3⟩ := h
  refine ⟨a, cap, rfl, h1, h2, fun h0 => ?_⟩
  obtain ⟨b, off, rfl, hb, hc⟩ := h3 h0
  refine ⟨b, off, rfl, Nat.lt_of_lt_of_le hb hk.size, fun j hj => ?_⟩
  rw [← hc j hj]
  have e := hk.block b hb (hv h0 b rfl)
  unfold World.cell?
  simp only [e]
/-- From place a on: what is left of the nodes behind, of the letters. -/
structure Left (f : Nat) (us : List ByteArray) (st0 : List Ent) (a : Nat) (st : List Ent) (acc : List Nat) (L : List UInt8) : Prop where
  nodes : bldL (bldW f) ((grp (fromL us a)).map (·.2)) st acc = bldL (bldW f) ((grp (restOf (fromL us 0))).map (·.2)) st0 []
  lets : L ++ (grp (fromL us a)).map (·.1) = (grp (restOf (fromL us 0))).map (·.1)
theorem Left.start (f : Nat) (us : List ByteArray) (st0 : List Ent) {a : Nat} (ha : a = if isFin (fromL us 0) = true then 1 else 0) : Left f us st0 a st0 [] [] := by
  have h := restOf_from (us := us)
  rw [← ha] at h
  exact ⟨by rw [h], by rw [h]; rfl⟩
theorem Left.next {f : Nat} {us : List ByteArray} {st0 : List Ent} {a k : Nat} {st : List Ent} {acc : List Nat} {L : List UInt8} {c : UInt8} {tl : List (List UInt8)} (h : Left f us st0 a st acc L) (hg : grp (fromL us a) = (c, tl) :: grp (fromL us k)) : Left f us st0 k (bldW f st tl).1 (acc ++ [(bldW f st tl).2]) (L ++ [c]) := by
  obtain ⟨h1, h2⟩ := h
  rw [hg] at h1 h2
  exact ⟨h1, by rw [← h2]; simp⟩
theorem Left.done {f : Nat} {us : List ByteArray} {st0 st : List Ent} {acc : List Nat} {L : List UInt8} (h : Left f us st0 us.length st acc L) : bldW (f + 1) st0 (fromL us 0) = put st (isFin (fromL us 0), L, acc) := by
  obtain ⟨h1, h2⟩ := h
  rw [fromL_end] at h1 h2
  have h1' : (st, acc) = bldL (bldW f) ((grp (restOf (fromL us 0))).map (·.2)) st0 [] := h1
  have h2' : L = (grp (restOf (fromL us 0))).map (·.1) := by rw [← h2]; simp [grp]
  show put (bldL (bldW f) ((grp (restOf (fromL us 0))).map (·.2)) st0 []).1 (isFin (fromL us 0), (grp (restOf (fromL us 0))).map (·.1), (bldL (bldW f) ((grp (restOf (fromL us 0))).map (·.2)) st0 []).2) = _
  rw [← h1', ← h2']
/-- The letters and the strings that are left, in number: for bounds. -/
theorem Left.sizes {f : Nat} {us : List ByteArray} {st0 : List Ent} {a : Nat} {st : List Ent} {acc : List Nat} {L : List UInt8} (h : Left f us st0 a st acc L) : L.length + (grp (fromL us a)).length = (grp (restOf (fromL us 0))).length := by
  have := congrArg List.length h.lets
  simpa using this
end Go.Proofs.YtabbpnafkgljcaaDoor
