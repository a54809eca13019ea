/-
  Words for grammars in memory: a slice that holds affixes, a slice that holds stems; and how they are opened.
-/
import Derived.Test.YtilagppmljpclaaK1
import Derived.Test.YtilagppmljpclaaK5
import Derived.Test.YtilagppmljpclaaF3
namespace Go.Proofs.Ytilagppmljpclaa
open Go.ChangeShapes Go.WideShapes Go.ChangeAt Go.RowKit Go.Joins Go.Deep

/-- An affix xs data. -/
structure Aff where
  n : ByteArray
  f : Bool
  w : ByteArray
  s : ByteArray
  a : ByteArray
/-- A stem xs data. -/
structure Stm where
  word : ByteArray
  uses : List ByteArray
def aff0 : Aff := ⟨ByteArray.empty, false, ByteArray.empty, ByteArray.empty, ByteArray.empty⟩
def stm0 : Stm := ⟨ByteArray.empty, []⟩
def affG (xs : List Aff) (j : Nat) : Aff := xs.getD j aff0
def stmG (ss : List Stm) (j : Nat) : Stm := ss.getD j stm0
def Aff.val (x : Aff) : Value := .agg #[.string x.n, .bool x.f, .string x.w, .string x.s, .string x.a]
/-- The affix x lies in block b from place o on. -/
def AffIs (W : World) (b o : Nat) (x : Aff) : Prop := AffAt W b o x.f x.n x.w x.s x.a
/-- The stem x lies in block b from place o on. -/
def StmIs (W : World) (b o : Nat) (x : Stm) : Prop := W.cell? ⟨b, o, none⟩ = some (.string x.word) ∧ ∃ u, W.cell? ⟨b, o + 1, none⟩ = some u ∧ Strs W u x.uses
/-- All texts of an affix are xs long xs texts can be. -/
structure AffFine (x : Aff) : Prop where
  n : x.n.size ≤ maxLen
  w : x.w.size ≤ maxLen
  s : x.s.size ≤ maxLen
  a : x.a.size ≤ maxLen
structure StmFine (x : Stm) : Prop where
  word : x.word.size ≤ maxLen
  uses : ∀ u ∈ x.uses, u.size ≤ maxLen
/-- The slice value v holds these affixes. -/
def Affs (W : World) (v : Value) (xs : List Aff) : Prop :=
  ∃ (a : Option Addr) (cap : Nat), v = .slice a xs.length cap ∧ xs.length ≤ cap ∧ cap ≤ maxLen ∧
    (0 < xs.length → ∃ b off, a = some ⟨b, off, none⟩ ∧ b < W.heap.size ∧ ∀ j, j < xs.length → AffIs W b (off + j * 5) (affG xs j))
/-- The slice value v holds these stems. -/
def Stms (W : World) (v : Value) (ss : List Stm) : Prop :=
  ∃ (a : Option Addr) (cap : Nat), v = .slice a ss.length cap ∧ ss.length ≤ cap ∧ cap ≤ maxLen ∧
    (0 < ss.length → ∃ b off, a = some ⟨b, off, none⟩ ∧ b < W.heap.size ∧ ∀ j, j < ss.length → StmIs W b (off + j * 2) (stmG ss j))
section
variable {W w' : World} {v : Value} {b o : Nat}
theorem AffAt.below {f : Bool} {n w s a : ByteArray} (h : AffAt W b o f n w s a) (hb : Below W.heap.size W w') (hl : b < W.heap.size) : AffAt w' b o f n w s a :=
  ⟨(hb.cell (p := ⟨b, o, none⟩) hl).trans h.c0, (hb.cell (p := ⟨b, o + 1, none⟩) hl).trans h.c1, (hb.cell (p := ⟨b, o + 2, none⟩) hl).trans h.c2, (hb.cell (p := ⟨b, o + 3, none⟩) hl).trans h.c3, (hb.cell (p := ⟨b, o + 4, none⟩) hl).trans h.c4⟩
theorem StmIs.below {x : Stm} (h : StmIs W b o x) (hb : Below W.heap.size W w') (hl : b < W.heap.size) : StmIs w' b o x := by
  obtain ⟨h0, u, h1, h2⟩ := h
  exact ⟨(hb.cell (p := ⟨b, o, none⟩) hl).trans h0, u, (hb.cell (p := ⟨b, o + 1, none⟩) hl).trans h1, h2.below hb⟩
theorem Affs.below {xs : List Aff} (h : Affs W v xs) (hb : Below W.heap.size W w') : Affs w' v xs := by
  obtain ⟨a, cap, hv, h1, h2, h3⟩ := h
  refine ⟨a, cap, hv, h1, h2, fun hp => ?_⟩
  obtain ⟨b, off, ha, hlt, hc⟩ := h3 hp
  exact ⟨b, off, ha, Nat.lt_of_lt_of_le hlt hb.size, fun j hj => AffAt.below (hc j hj) hb hlt⟩
theorem Stms.below {ss : List Stm} (h : Stms W v ss) (hb : Below W.heap.size W w') : Stms w' v ss := by
  obtain ⟨a, cap, hv, h1, h2, h3⟩ := h
  refine ⟨a, cap, hv, h1, h2, fun hp => ?_⟩
  obtain ⟨b, off, ha, hlt, hc⟩ := h3 hp
  exact ⟨b, off, ha, Nat.lt_of_lt_of_le hlt hb.size, fun j hj => StmIs.below (hc j hj) hb hlt⟩
theorem Affs.alloc {xs : List Aff} (h : Affs W v xs) (o : Obj) : Affs (W.alloc o) v xs := h.below ((Below.refl _ _).alloc (Nat.le_refl _) o)
theorem Stms.alloc {ss : List Stm} (h : Stms W v ss) (o : Obj) : Stms (W.alloc o) v ss := h.below ((Below.refl _ _).alloc (Nat.le_refl _) o)
theorem Affs.len {xs : List Aff} (h : Affs W v xs) : xs.length ≤ 9223372036854775807 := by
  obtain ⟨a, cap, _, h1, h2, _⟩ := h
  unfold maxLen at h2
  omega
theorem Stms.len {ss : List Stm} (h : Stms W v ss) : ss.length ≤ 9223372036854775807 := by
  obtain ⟨a, cap, _, h1, h2, _⟩ := h
  unfold maxLen at h2
  omega
end
/-- A list out of facts at each place. -/
theorem list_of {α : Type} (d : α) (Q : Nat → α → Prop) : ∀ (n : Nat), (∀ i, i < n → ∃ x, Q i x) → ∃ l : List α, l.length = n ∧ ∀ i, i < n → Q i (l.getD i d)
  | 0, _ => ⟨[], rfl, fun _ h => absurd h (by omega)⟩
  | n + 1, h => by
    obtain ⟨l, hl, hq⟩ := list_of d Q n fun i hi => h i (by omega)
    obtain ⟨x, hx⟩ := h n (by omega)
    refine ⟨l ++ [x], by simp [hl], fun i hi => ?_⟩
    rcases Nat.lt_or_ge i n with h1 | h1
    · have := hq i h1
      rwa [List.getD_eq_getElem?_getD, List.getElem?_append_left (by omega), ← List.getD_eq_getElem?_getD]
    · obtain rfl : i = n := by omega
      rw [List.getD_eq_getElem?_getD, List.getElem?_append_right (by omega), hl]
      simpa using hx
theorem mem_getD {α : Type} (d : α) {l : List α} {x : α} (h : x ∈ l) : ∃ i, i < l.length ∧ l.getD i d = x := by
  obtain ⟨i, hi, rfl⟩ := List.mem_iff_getElem.1 h
  exact ⟨i, hi, by simp [List.getD_eq_getElem?_getD, hi]⟩

section
variable {H : Type} {enc : TypeId × Value → H} {P : Program} {w : World} {base : Nat} {held : Bool}
theorem cells_at {a : Addr} {n : Nat} {cs : List Value} (h : w.cells? base a n = some cs) (hn : 0 < n) : cs.length = n ∧ a.spot = none ∧ ∀ i, i < n → w.cell? ⟨a.block, a.off + i, none⟩ = cs[i]? := by
  obtain ⟨_, hl, hc⟩ := World.cells?_some h
  obtain ⟨b, off, spot⟩ := a
  have hspot : spot = none := by
    have h0 := hc 0 hn
    rw [List.getElem?_eq_getElem (by omega)] at h0
    simpa [Addr.add] using World.cell?_spot h0
  subst hspot
  exact ⟨hl, rfl, fun i hi => by rw [← Go.WideShapes.add_plain]; exact hc i hi⟩
theorem add_none {a : Addr} (n : Nat) (h : a.spot = none) : a.add n = ⟨a.block, a.off + n, none⟩ := by
  obtain ⟨b, off, spot⟩ := a
  simp only at h
  subst h
  exact Go.WideShapes.add_plain _ _ _
theorem add_zero {a : Addr} : a.add 0 = a := by simp [Addr.add]
theorem affs_cell {t e : TypeId} {f0 f1 f2 f3 f4 : Field} {fuel : Nat} {v : Value} {y : DataW H × List MemPlace} (ht : P.underlying t = some (.slice e)) (he : P.underlying e = some (.struct #[f0, f1, f2, f3, f4]))
    (hone : oneCellFields P #[f0, f1, f2, f3, f4] = true) (hC : P.cellsOf e = 5) (t0 : P.underlying f0.type = some .string) (t1 : P.underlying f1.type = some .bool) (t2 : P.underlying f2.type = some .string) (t3 : P.underlying f3.type = some .string) (t4 : P.underlying f4.type = some .string)
    (h : DataW.trod enc P w base (fun _ => true) held fuel t [v] = some y) : ∃ xs, Affs w v xs ∧ ∀ x ∈ xs, AffFine x := by
  have hlt := DataW.trod_lt _ _ _ _ h
  rcases open_slice ht h with ⟨hcs, _⟩ | ⟨a, len, cap, m, n, D, Pl, hcs, hbb, hl, hm, hmm, hx, hel⟩
  · simp at hcs
    exact ⟨[], ⟨none, 0, hcs, Nat.le_refl _, Nat.zero_le _, fun h => absurd h (by simp)⟩, fun _ h => by simp at h⟩
  · simp at hcs hmm
    subst hmm
    obtain ⟨o0, k0⟩ := hone_of hone 0 f0 rfl
    obtain ⟨o1, k1⟩ := hone_of hone 1 f1 rfl
    obtain ⟨o2, k2⟩ := hone_of hone 2 f2 rfl
    obtain ⟨o3, k3⟩ := hone_of hone 3 f3 rfl
    obtain ⟨o4, k4⟩ := hone_of hone 4 f4 rfl
    rw [hC] at hel hx
    have hQ : ∀ i, i < len → ∃ x : Aff, AffIs w a.block (a.off + i * 5) x ∧ AffFine x ∧ a.spot = none ∧ a.block < w.heap.size := by
      intro i hi
      obtain ⟨cs', hcs', htr⟩ := hel i (by omega)
      obtain ⟨hlen, hsp, hcell⟩ := cells_at hcs' (by omega)
      obtain ⟨y0, y1, y2, y3, y4, n', _, _, h0, h1, h2, h3, h4⟩ := trod_struct5 he htr
      match cs', hlen with
      | [v0, v1, v2, v3, v4], _ =>
        simp only [o0, o1, o2, o3, o4, k0, k1, k2, k3, k4, List.drop, List.take] at h0 h1 h2 h3 h4
        obtain ⟨s0, rfl, _, z0⟩ := string_cell t0 h0
        obtain ⟨s1, rfl, _⟩ := bool_cell t1 h1
        obtain ⟨s2, rfl, _, z2⟩ := string_cell t2 h2
        obtain ⟨s3, rfl, _, z3⟩ := string_cell t3 h3
        obtain ⟨s4, rfl, _, z4⟩ := string_cell t4 h4
        have hsn : a.spot = none := by
          obtain ⟨cs0, hc0, _⟩ := hel 0 (by omega)
          have := (cells_at hc0 (by omega)).2.1
          rwa [Nat.zero_mul, add_zero] at this
        have hadd := add_none (i * 5) hsn
        have hblk : (a.add (i * 5)).block = a.block := by rw [hadd]
        have hoff : (a.add (i * 5)).off = a.off + i * 5 := by rw [hadd]
        have hbl := World.cells?_block hcs' (by omega)
        rw [hblk] at hbl
        rw [hblk, hoff] at hcell
        exact ⟨⟨s0, s1, s2, s3, s4⟩, ⟨hcell 0 (by omega), hcell 1 (by omega), hcell 2 (by omega), hcell 3 (by omega), hcell 4 (by omega)⟩, ⟨z0, z2, z3, z4⟩, hsn, hbl⟩
    obtain ⟨l, hll, hq⟩ := list_of aff0 _ len hQ
    refine ⟨l, ⟨some a, m, by rw [hll]; exact hcs, by omega, hm, fun hp => ?_⟩, fun x hx => ?_⟩
    · obtain ⟨_, _, hsn, hbl⟩ := hq 0 (by omega)
      obtain ⟨b, off, spot⟩ := a
      simp only at hsn
      subst hsn
      exact ⟨b, off, rfl, hbl, fun j hj => (hq j (by omega)).1⟩
    · obtain ⟨i, hi, rfl⟩ := mem_getD aff0 hx
      exact (hq i (by omega)).2.1
theorem stms_cell {t e es : TypeId} {f0 f1 : Field} {fuel : Nat} {v : Value} {y : DataW H × List MemPlace} (ht : P.underlying t = some (.slice e)) (he : P.underlying e = some (.struct #[f0, f1]))
    (hone : oneCellFields P #[f0, f1] = true) (hC : P.cellsOf e = 2) (t0 : P.underlying f0.type = some .string) (t1 : P.underlying f1.type = some (.slice es)) (t2 : P.underlying es = some .string) (t3 : P.cellsOf es = 1)
    (h : DataW.trod enc P w base (fun _ => true) held fuel t [v] = some y) : ∃ ss, Stms w v ss ∧ ∀ x ∈ ss, StmFine x := by
  rcases open_slice ht h with ⟨hcs, _⟩ | ⟨a, len, cap, m, n, D, Pl, hcs, hbb, hl, hm, hmm, hx, hel⟩
  · simp at hcs
    exact ⟨[], ⟨none, 0, hcs, Nat.le_refl _, Nat.zero_le _, fun h => absurd h (by simp)⟩, fun _ h => by simp at h⟩
  · simp at hcs hmm
    subst hmm
    obtain ⟨o0, k0⟩ := hone_of hone 0 f0 rfl
    obtain ⟨o1, k1⟩ := hone_of hone 1 f1 rfl
    rw [hC] at hel hx
    have hQ : ∀ i, i < len → ∃ x : Stm, StmIs w a.block (a.off + i * 2) x ∧ StmFine x ∧ a.spot = none ∧ a.block < w.heap.size := by
      intro i hi
      obtain ⟨cs', hcs', htr⟩ := hel i (by omega)
      obtain ⟨hlen, hsp, hcell⟩ := cells_at hcs' (by omega)
      obtain ⟨y0, y1, n', _, _, h0, h1⟩ := trod_struct2 he htr
      match cs', hlen with
      | [v0, v1], _ =>
        simp only [o0, o1, k0, k1, List.drop, List.take] at h0 h1
        obtain ⟨s0, rfl, _, z0⟩ := string_cell t0 h0
        obtain ⟨ss, hss, zs⟩ := strs_cell t1 t2 t3 h1
        have hsn : a.spot = none := by
          obtain ⟨cs0, hc0, _⟩ := hel 0 (by omega)
          have := (cells_at hc0 (by omega)).2.1
          rwa [Nat.zero_mul, add_zero] at this
        have hadd := add_none (i * 2) hsn
        have hblk : (a.add (i * 2)).block = a.block := by rw [hadd]
        have hoff : (a.add (i * 2)).off = a.off + i * 2 := by rw [hadd]
        have hbl := World.cells?_block hcs' (by omega)
        rw [hblk] at hbl
        rw [hblk, hoff] at hcell
        exact ⟨⟨s0, ss⟩, ⟨hcell 0 (by omega), v1, hcell 1 (by omega), hss⟩, ⟨z0, zs⟩, hsn, hbl⟩
    obtain ⟨l, hll, hq⟩ := list_of stm0 _ len hQ
    refine ⟨l, ⟨some a, m, by rw [hll]; exact hcs, by omega, hm, fun hp => ?_⟩, fun x hx => ?_⟩
    · obtain ⟨_, _, hsn, hbl⟩ := hq 0 (by omega)
      obtain ⟨b, off, spot⟩ := a
      simp only at hsn
      subst hsn
      exact ⟨b, off, rfl, hbl, fun j hj => (hq j (by omega)).1⟩
    · obtain ⟨i, hi, rfl⟩ := mem_getD stm0 hx
      exact (hq i (by omega)).2.1
end
end Go.Proofs.Ytilagppmljpclaa
