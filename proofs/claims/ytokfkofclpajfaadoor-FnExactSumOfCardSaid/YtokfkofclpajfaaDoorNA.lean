/-
  Words for automata in memory: a slice that holds nodes; how it is opened.
-/
import Derived.Test.YtokfkofclpajfaaDoorK1
import Derived.Test.YtokfkofclpajfaaDoorK5
import Derived.Deep.Strs
namespace Go.Proofs.YtokfkofclpajfaaDoor
open Go.ChangeShapes Go.WideShapes Go.ChangeAt Go.RowKit Go.Joins Go.Deep

/-- A node as data. -/
structure Nod where
  f : Bool
  ls : ByteArray
  ns : List Int
def nod0 : Nod := ⟨false, ByteArray.empty, []⟩
def nodG (xs : List Nod) (j : Nat) : Nod := xs.getD j nod0
/-- The node x lies in block b from place o on. -/
def NodIs (W : World) (b o : Nat) (x : Nod) : Prop :=
  W.cell? ⟨b, o, none⟩ = some (.bool x.f) ∧ W.cell? ⟨b, o + 1, none⟩ = some (.string x.ls) ∧ ∃ u, W.cell? ⟨b, o + 2, none⟩ = some u ∧ Ints .i64 W u x.ns
/-- The slice value v holds these nodes. -/
def Nds (W : World) (v : Value) (xs : List Nod) : Prop :=
  ∃ (a : Option Addr) (cap : Nat), v = .slice a xs.length cap ∧ xs.length ≤ cap ∧ cap ≤ maxLen ∧
    (0 < xs.length → ∃ b off, a = some ⟨b, off, none⟩ ∧ b < W.heap.size ∧ ∀ j, j < xs.length → NodIs W b (off + j * 3) (nodG xs j))
section
variable {W w' : World} {v : Value} {b o : Nat}
theorem NodIs.below {x : Nod} (h : NodIs W b o x) (hb : Below W.heap.size W w') (hl : b < W.heap.size) : NodIs w' b o x := by
  obtain ⟨h0, h1, u, h2, h3⟩ := h
  exact ⟨(hb.cell (p := ⟨b, o, none⟩) hl).trans h0, (hb.cell (p := ⟨b, o + 1, none⟩) hl).trans h1, u, (hb.cell (p := ⟨b, o + 2, none⟩) hl).trans h2, h3.below hb⟩
theorem Nds.below {xs : List Nod} (h : Nds W v xs) (hb : Below W.heap.size W w') : Nds w' v xs := by
  obtain ⟨a, cap, hv, h1, h2, h3⟩ := h
  refine ⟨a, cap, hv, h1, h2, fun hp => ?_⟩
  obtain ⟨b, off, ha, hlt, hc⟩ := h3 hp
  exact ⟨b, off, ha, Nat.lt_of_lt_of_le hlt hb.size, fun j hj => NodIs.below (hc j hj) hb hlt⟩
theorem Nds.alloc {xs : List Nod} (h : Nds W v xs) (o : Obj) : Nds (W.alloc o) v xs := h.below ((Below.refl _ _).alloc (Nat.le_refl _) o)
theorem Nds.drewN {xs : List Nod} (h : Nds W v xs) (m : Nat) : Nds (W.drewN m) v xs := h.below (below_drewN (Below.refl _ _) m)
theorem Nds.drew {xs : List Nod} (h : Nds W v xs) : Nds W.drew v xs := h.below (Below.refl _ _).drew
theorem Nds.len {xs : List Nod} (h : Nds W v xs) : xs.length ≤ 9223372036854775807 := by
  obtain ⟨a, cap, _, h1, h2, _⟩ := h
  unfold maxLen at h2
  omega
end
/-- A list out of facts at each place. -/
theorem list_ofN {α : Type} (d : α) (Q : Nat → α → Prop) : ∀ (n : Nat), (∀ i, i < n → ∃ x, Q i x) → ∃ l : List α, l.length = n ∧ ∀ i, i < n → Q i (l.getD i d)
  | 0, _ => ⟨[], rfl, fun _ h => absurd h (by omega)⟩
  | n + 1, h => by
    obtain ⟨l, hl, hq⟩ := list_ofN d Q n fun i hi => h i (by omega)
    obtain ⟨x, hx⟩ := h n (by omega)
    refine ⟨l ++ [x], by simp [hl], fun i hi => ?_⟩
    rcases Nat.lt_or_ge i n with h1 | h1
    · have := hq i h1
      rwa [List.getD_eq_getElem?_getD, List.getElem?_append_left (by omega), ← List.getD_eq_getElem?_getD]
    · obtain rfl : i = n := by omega
      rw [List.getD_eq_getElem?_getD, List.getElem?_append_right (by omega), hl]
      simpa using hx
theorem mem_getDN {α : Type} (d : α) {l : List α} {x : α} (h : x ∈ l) : ∃ i, i < l.length ∧ l.getD i d = x := by
  obtain ⟨i, hi, rfl⟩ := List.mem_iff_getElem.1 h
  exact ⟨i, hi, by simp [List.getD_eq_getElem?_getD, hi]⟩
theorem nodG_mem {xs : List Nod} {k : Nat} (h : k < xs.length) : nodG xs k ∈ xs := by
  unfold nodG
  rw [List.getD_eq_getElem?_getD, List.getElem?_eq_getElem h]
  exact List.getElem_mem _

section
variable {H : Type} {enc : TypeId × Value → H} {P : Program} {w : World} {base : Nat} {held : Bool}
theorem cells_atN {a : Addr} {n : Nat} {cs : List Value} (h : w.cells? base a n = some cs) (hn : 0 < n) : cs.length = n ∧ a.spot = none ∧ ∀ i, i < n → w.cell? ⟨a.block, a.off + i, none⟩ = cs[i]? := by
  obtain ⟨_, hl, hc⟩ := World.cells?_some h
  obtain ⟨b, off, spot⟩ := a
  have hspot : spot = none := by
    have h0 := hc 0 hn
    rw [List.getElem?_eq_getElem (by omega)] at h0
    simpa [Addr.add] using World.cell?_spot h0
  subst hspot
  exact ⟨hl, rfl, fun i hi => by rw [← Go.WideShapes.add_plain]; exact hc i hi⟩
theorem add_noneN {a : Addr} (n : Nat) (h : a.spot = none) : a.add n = ⟨a.block, a.off + n, none⟩ := by
  obtain ⟨b, off, spot⟩ := a
  simp only at h
  subst h
  exact Go.WideShapes.add_plain _ _ _
theorem add_zeroN {a : Addr} : a.add 0 = a := by simp [Addr.add]
theorem nods_cell {t e es : TypeId} {f0 f1 f2 : Field} {fuel : Nat} {v : Value} {y : DataW H × List MemPlace} (ht : P.underlying t = some (.slice e)) (he : P.underlying e = some (.struct #[f0, f1, f2]))
    (hone : oneCellFields P #[f0, f1, f2] = true) (hC : P.cellsOf e = 3) (t0 : P.underlying f0.type = some .bool) (t1 : P.underlying f1.type = some .string) (t2 : P.underlying f2.type = some (.slice es)) (t3 : P.underlying es = some (.int .i64)) (t4 : P.cellsOf es = 1)
    (h : DataW.trod enc P w base (fun _ => true) held fuel t [v] = some y) : ∃ xs, Nds w v xs ∧ ∀ x ∈ xs, x.ls.size ≤ maxLen := by
  rcases open_slice ht h with ⟨hcs, _⟩ | ⟨a, len, cap, m, n, D, Pl, hcs, hbb, hl, hm, hmm, hx, hel⟩
  · simp at hcs
    exact ⟨[], ⟨none, 0, hcs, Nat.le_refl _, Nat.zero_le _, fun h => absurd h (by simp)⟩, fun _ h => by simp at h⟩
  · simp at hcs hmm
    subst hmm
    obtain ⟨o0, k0⟩ := hone_of hone 0 f0 rfl
    obtain ⟨o1, k1⟩ := hone_of hone 1 f1 rfl
    obtain ⟨o2, k2⟩ := hone_of hone 2 f2 rfl
    rw [hC] at hel hx
    have hQ : ∀ i, i < len → ∃ x : Nod, NodIs w a.block (a.off + i * 3) x ∧ x.ls.size ≤ maxLen ∧ a.spot = none ∧ a.block < w.heap.size := by
      intro i hi
      obtain ⟨cs', hcs', htr⟩ := hel i (by omega)
      obtain ⟨hlen, hsp, hcell⟩ := cells_atN hcs' (by omega)
      obtain ⟨y0, y1, y2, n', _, _, h0, h1, h2⟩ := trod_struct3 he htr
      match cs', hlen with
      | [v0, v1, v2], _ =>
        simp only [o0, o1, o2, k0, k1, k2, List.drop, List.take] at h0 h1 h2
        obtain ⟨s0, rfl, _⟩ := bool_cell t0 h0
        obtain ⟨s1, rfl, _, z1⟩ := string_cell t1 h1
        obtain ⟨zs, hzs⟩ := ints_cell t2 t3 t4 h2
        have hsn : a.spot = none := by
          obtain ⟨cs0, hc0, _⟩ := hel 0 (by omega)
          have := (cells_atN hc0 (by omega)).2.1
          rwa [Nat.zero_mul, add_zeroN] at this
        have hadd := add_noneN (i * 3) hsn
        have hblk : (a.add (i * 3)).block = a.block := by rw [hadd]
        have hoff : (a.add (i * 3)).off = a.off + i * 3 := by rw [hadd]
        have hbl := World.cells?_block hcs' (by omega)
        rw [hblk] at hbl
        rw [hblk, hoff] at hcell
        exact ⟨⟨s0, s1, zs⟩, ⟨hcell 0 (by omega), hcell 1 (by omega), v2, hcell 2 (by omega), hzs⟩, z1, hsn, hbl⟩
    obtain ⟨l, hll, hq⟩ := list_ofN nod0 _ len hQ
    refine ⟨l, ⟨some a, m, by rw [hll]; exact hcs, by omega, hm, fun hp => ?_⟩, fun x hx => ?_⟩
    · obtain ⟨_, _, hsn, hbl⟩ := hq 0 (by omega)
      obtain ⟨b, off, spot⟩ := a
      simp only at hsn
      subst hsn
      exact ⟨b, off, rfl, hbl, fun j hj => (hq j (by omega)).1⟩
    · obtain ⟨i, hi, rfl⟩ := mem_getDN nod0 hx
      exact (hq i (by omega)).2.1
end
end Go.Proofs.YtokfkofclpajfaaDoor
