/-
  Numbers behind nodes: the model's memory while it lays what is behind each node.
  Nodes numbered in the order in which they are met: the model's l06Number, whole.
-/
import Derived.Test.YtokfkofclpajfaaDoorVW
import Derived.Test.YtokfkofclpajfaaDoorRM
namespace Go.Proofs.YtokfkofclpajfaaDoor
open Go.RowKit

/-! ### Nodes have few letters -/
theorem grp_few : ∀ (l : List (List UInt8)), (grp l).length ≤ l.length ∧ ∀ c ts, (c, ts) ∈ grp l → ts.length ≤ l.length
  | [] => ⟨Nat.le_refl _, fun _ _ h => by simp [grp] at h⟩
  | [] :: ws => by
    obtain ⟨h1, h2⟩ := grp_few ws
    exact ⟨Nat.le_succ_of_le h1, fun c ts h => Nat.le_succ_of_le (h2 c ts h)⟩
  | (d :: t) :: ws => by
    obtain ⟨h1, h2⟩ := grp_few ws
    rw [grp_cons]
    cases hg : grp ws with
    | nil =>
      refine ⟨by simp, fun c ts h => ?_⟩
      simp at h
      rw [h.2]
      simp
    | cons p gs =>
      obtain ⟨c', ts'⟩ := p
      rw [hg] at h1 h2
      simp only [List.length_cons] at h1 ⊢
      split
      · refine ⟨by simp; omega, fun c ts h => ?_⟩
        rcases List.mem_cons.1 h with h | h
        · simp only [Prod.mk.injEq] at h
          have := h2 c' ts' (by simp)
          rw [h.2]
          simp
          omega
        · have := h2 c ts (by simp [h])
          omega
      · refine ⟨by simp; omega, fun c ts h => ?_⟩
        rcases List.mem_cons.1 h with h | h
        · simp only [Prod.mk.injEq] at h
          rw [h.2]
          simp
        · have := h2 c ts h
          omega
theorem bldL_narrow {α : Type} {bld : List Ent → α → List Ent × Nat} {P : Ent → Prop} : ∀ (l : List α) (st : List Ent) (acc : List Nat), (∀ a ∈ l, ∀ st, (∀ e ∈ st, P e) → ∀ e ∈ (bld st a).1, P e) → (∀ e ∈ st, P e) → (∀ e ∈ (bldL bld l st acc).1, P e) ∧ (bldL bld l st acc).2.length = acc.length + l.length
  | [], _, _, _, h => ⟨h, rfl⟩
  | a :: l, st, acc, hb, h => by
    obtain ⟨h1, h2⟩ := bldL_narrow l (bld st a).1 (acc ++ [(bld st a).2]) (fun x hx => hb x (by simp [hx])) (hb a (by simp) st h)
    refine ⟨h1, ?_⟩
    show (bldL bld l (bld st a).1 (acc ++ [(bld st a).2])).2.length = _
    rw [h2]
    simp
    omega
theorem restOf_few (l : List (List UInt8)) : (restOf l).length ≤ l.length := by
  unfold restOf
  split
  · simp
  · exact Nat.le_refl _
theorem bldW_narrow : ∀ (f : Nat) (st : List Ent) (l : List (List UInt8)) (m : Nat), l.length ≤ m → (∀ e ∈ st, e.2.2.length ≤ m) → ∀ e ∈ (bldW f st l).1, e.2.2.length ≤ m
  | 0, _, _, _, _, h => h
  | f + 1, st, l, m, hl, h => by
    have hr := restOf_few l
    obtain ⟨g1, g2⟩ := grp_few (restOf l)
    obtain ⟨h1, h2⟩ := bldL_narrow (P := fun e => e.2.2.length ≤ m) ((grp (restOf l)).map (·.2)) st [] (fun ts hts st' hst' => by
      obtain ⟨p, hp, rfl⟩ := List.mem_map.1 hts
      have := g2 p.1 p.2 hp
      exact bldW_narrow f st' p.2 m (by omega) hst') h
    intro e he
    unfold bldW at he
    unfold put at he
    split at he
    · exact h1 e he
    · rcases List.mem_append.1 he with he | he
      · exact h1 e he
      · simp at he
        subst he
        simp only
        rw [h2]
        simp
        omega

/-! ### One number more behind a node -/
theorem cellsN_len (us : List Value) (xs : List Nod) : (cellsN us xs).length = xs.length * 3 := by
  unfold cellsN
  generalize xs.length = n
  induction n with
  | zero => rfl
  | succ n ih => rw [List.range_succ, List.flatMap_append, List.length_append, ih]; simp [slotN]; omega
theorem nodG_set {ys : List Nod} {j q : Nat} {d : Nod} (hj : j < ys.length) : nodG (ys.set j d) q = if q = j then d else nodG ys q := by
  unfold nodG
  rw [List.getD_eq_getElem?_getD, List.getElem?_set, List.getD_eq_getElem?_getD]
  by_cases e : j = q
  · subst e
    rw [if_pos rfl, if_pos hj, if_pos rfl]
    rfl
  · rw [if_neg e, if_neg (fun h => e h.symm)]
theorem nxG_set {us : List Value} {j q : Nat} {u : Value} (hj : j < us.length) : nxG (us.set j u) q = if q = j then u else nxG us q := by
  unfold nxG
  rw [List.getD_eq_getElem?_getD, List.getElem?_set, List.getD_eq_getElem?_getD]
  by_cases e : j = q
  · subst e
    rw [if_pos rfl, if_pos hj, if_pos rfl]
    rfl
  · rw [if_neg e, if_neg (fun h => e h.symm)]
theorem cellsN_set {us : List Value} {ys : List Nod} {j : Nat} {u : Value} {d : Nod} (hj : j < ys.length) (hl : us.length = ys.length) (hf : d.f = (nodG ys j).f) (hs : d.ls = (nodG ys j).ls) : (cellsN us ys).set (j * 3 + 2) u = cellsN (us.set j u) (ys.set j d) := by
  refine List.ext_getElem? fun m => ?_
  rw [List.getElem?_set]
  by_cases hm : m < ys.length * 3
  · obtain ⟨q, r, hr, rfl⟩ : ∃ q r, r < 3 ∧ m = q * 3 + r := ⟨m / 3, m % 3, Nat.mod_lt _ (by omega), by omega⟩
    have hq : q < ys.length := by omega
    rw [cellsN_at r hq hr, cellsN_at r (by rw [List.length_set]; exact hq) hr]
    unfold slotN
    rw [nodG_set hj, nxG_set (by rw [hl]; exact hj)]
    by_cases e : q = j
    · subst e
      rw [if_pos rfl, if_pos rfl, hf, hs]
      by_cases h2 : r = 2
      · subst h2
        rw [if_pos rfl, if_pos (by rw [cellsN_len]; omega)]
        rfl
      · rw [if_neg (by omega)]
        have h3 : r = 0 ∨ r = 1 := by omega
        rcases h3 with rfl | rfl <;> rfl
    · rw [if_neg (by omega), if_neg e, if_neg e]
  · have h1 : (cellsN us ys)[m]? = none := List.getElem?_eq_none (by rw [cellsN_len]; omega)
    have h2 : (cellsN (us.set j u) (ys.set j d))[m]? = none := List.getElem?_eq_none (by rw [cellsN_len, List.length_set]; omega)
    rw [h1, h2]
    split
    · rw [if_neg (by rw [cellsN_len]; omega)]
    · rfl
/-- A row of nodes of the call's own, whose rows of numbers lie apart from each other. -/
structure Outs (B : Nat) (w : World) (v : Value) (us : List Value) (ys : List Nod) : Prop where
  len : us.length = ys.length
  row : w.ownsRow B 71 3 v ys.length (cellsN us ys)
  nx : ∀ j, j < ys.length → RowI B w (nxG us j) (nodG ys j).ns
  sep : ∀ i j, i < ys.length → j < ys.length → i ≠ j → ∀ k, (nxG us i).ownBlock = some k → (nxG us j).ownBlock ≠ some k
  fine : ∀ j, j < ys.length → ∀ z ∈ (nodG ys j).ns, (Lit.int .i64 z).wf = true
theorem Nows.outs {B : Nat} {w : World} {v : Value} {us : List Value} {xs : List Nod} (h : Nows B w v us xs) (hb : ∀ k, ¬ hasRow us k) : Outs B w v us xs :=
  ⟨h.len, h.row, h.nx, fun i _ hi _ _ k hk => (hb k ⟨_, nxG_mem (by rw [h.len]; exact hi), hk⟩).elim, fun _ hj => h.fine hj⟩
theorem Outs.nds {B : Nat} {w : World} {v : Value} {us : List Value} {xs : List Nod} (h : Outs B w v us xs) : Nds w v xs := by
  have hr2 := h.row
  rcases h.row.2 with ⟨hv, h0⟩ | ⟨g, cap, cur, hv, hB, hg, hn, hm, -⟩
  · exact ⟨none, 0, by rw [h0, hv], by omega, Nat.zero_le _, fun h => absurd h (by omega)⟩
  · rw [hv] at hr2
    refine ⟨_, cap, hv, hn, hm, fun _ => ⟨g, 0, rfl, (Array.getElem?_eq_some_iff.1 hg).1, fun j hj => ?_⟩⟩
    have ha : ∀ o, o < 3 → w.cell? ⟨g, 0 + j * 3 + o, none⟩ = (slotN us xs j)[o]? := fun o ho => by
      rw [Nat.zero_add, World.ownsRow.cellAt hr2 (j * 3 + o) (by omega)]
      exact cellsN_at o hj ho
    exact ⟨ha 0 (by omega), ha 1 (by omega), _, ha 2 (by omega), (h.nx j hj).ints (h.fine j hj)⟩
theorem Outs.far {B : Nat} {w w' : World} {v : Value} {us : List Value} {xs : List Nod} {S : Nat → Prop} (h : Outs B w v us xs) (hk : Apart S w w') (hv : ∀ k, v.ownBlock = some k → ¬ S k) (hu : ∀ j, j < xs.length → ∀ k, (nxG us j).ownBlock = some k → ¬ S k) : Outs B w' v us xs :=
  ⟨h.len, row_apart h.row hk hv, fun j hj => row_apart (h.nx j hj) hk (hu j hj), h.sep, h.fine⟩
theorem Outs.below {B : Nat} {w w' : World} {v : Value} {us : List Value} {xs : List Nod} (h : Outs B w v us xs) (hb : Below w.heap.size w w') : Outs B w' v us xs :=
  h.far (Apart.of_below (S := fun _ => False) hb) (fun _ _ e => e) (fun _ _ _ _ e => e)
theorem Outs.form {B : Nat} {w : World} {v : Value} {us : List Value} {ys : List Nod} (h : Outs B w v us ys) (h0 : 0 < ys.length) : ∃ g cap, v = .slice (some ⟨g, 0, none⟩) ys.length cap := by
  rcases h.row.2 with ⟨_, h1⟩ | ⟨g, cap, cur, rfl, _⟩
  · omega
  · exact ⟨g, cap, rfl⟩
theorem Outs.cell {B g cap : Nat} {w : World} {us : List Value} {ys : List Nod} (h : Outs B w (.slice (some ⟨g, 0, none⟩) ys.length cap) us ys) {j : Nat} (hj : j < ys.length) : w.cell? ⟨g, j * 3 + 2, none⟩ = some (nxG us j) ∧ w.frozen? ⟨g, j * 3 + 2, none⟩ = false := by
  refine ⟨?_, World.ownsRow.frozenAt h.row _⟩
  rw [World.ownsRow.cellAt h.row (j * 3 + 2) (by omega), cellsN_at 2 hj (by omega)]
  rfl
/-- The memory while what is behind each node is laid. -/
structure NMem (W : World) (gr : Nat) (vold : Value) (n : Nat) (ord : List Nat) (w : World) (vp vo : Value) (us : List Value) (ys : List Nod) : Prop where
  below : Below W.heap.size W w
  base : W.heap.size ≤ gr
  blk : Blk w gr 165 #[vold, vp, vo]
  plc : RowI W.heap.size w vp (placesN n ord)
  out : Outs W.heap.size w vo us ys
  sepP : ∀ j, j < ys.length → ∀ k, (nxG us j).ownBlock = some k → vp.ownBlock ≠ some k
section
variable {W w w2 : World} {gr : Nat} {vold vp vo : Value} {n : Nat} {ord : List Nat} {us : List Value} {ys : List Nod}
theorem NMem.below' (h : NMem W gr vold n ord w vp vo us ys) (hb : Below w.heap.size w w2) : NMem W gr vold n ord w2 vp vo us ys :=
  ⟨h.below.trans (hb.mono h.below.size), h.base, h.blk.kept hb h.blk.lt, h.plc.below hb, h.out.below hb, h.sepP⟩
theorem NMem.more {g c g2 m c2 j : Nat} {z : Int} (h : NMem W gr vold n ord w vp (.slice (some ⟨g, 0, none⟩) ys.length c) us ys) (hj : j < ys.length) (hr : RowI W.heap.size w2 (.slice (some ⟨g2, 0, none⟩) m c2) ((nodG ys j).ns ++ [z])) (hk : Apart (fun b => (nxG us j).ownBlock = some b) w w2)
    (hl : (nxG us j).ownBlock = some g2 ∨ w.heap.size ≤ g2) (hz : (Lit.int .i64 z).wf = true) :
    NMem W gr vold n ord (w2.setCell ⟨g, j * 3 + 2, none⟩ (.slice (some ⟨g2, 0, none⟩) m c2)) vp (.slice (some ⟨g, 0, none⟩) ys.length c) (us.set j (.slice (some ⟨g2, 0, none⟩) m c2)) (ys.set j ⟨(nodG ys j).f, (nodG ys j).ls, (nodG ys j).ns ++ [z]⟩) := by
  have hbase : ∀ b, (nxG us j).ownBlock = some b → W.heap.size ≤ b := fun b hb => ((h.out.nx j hj).lt hb).1
  have hlt : ∀ q, q < ys.length → ∀ b, (nxG us q).ownBlock = some b → b < w.heap.size := fun q hq b hb => ((h.out.nx q hq).lt hb).2
  have hgl := World.ownsRow.lt h.out.row g rfl
  have hb2 : Below W.heap.size W w2 := h.below.trans (hk.below (fun i hi e => by have := hbase i e; omega) h.below.size)
  have hgu : ∀ q, q < ys.length → (nxG us q).ownBlock ≠ some g := fun q hq e => row_row (h.out.nx q hq) (by decide) h.out.row g e rfl
  have hblk := h.blk.apart hk (fun e => row_blk h.blk (by decide) (h.out.nx j hj) gr e rfl)
  have hplc := h.plc.far hk (fun b hb e => h.sepP j hj b e hb)
  have hrow := row_apart h.out.row hk (fun b hb e => by
    have : g = b := by simpa [Value.ownBlock] using hb
    subst this
    exact hgu j hj e)
  have hst := World.ownsRow.stored hrow (j * 3 + 2) (.slice (some ⟨g2, 0, none⟩) m c2)
  have hA : Apart (fun b => b = g) w2 (w2.setCell ⟨g, j * 3 + 2, none⟩ (.slice (some ⟨g2, 0, none⟩) m c2)) := (Apart.refl (fun b => b = g) w2).setCell (p := ⟨g, j * 3 + 2, none⟩) (fun _ => rfl) _
  have hjl : j < us.length := by rw [h.out.len]; exact hj
  refine ⟨hb2.setCell (p := ⟨g, j * 3 + 2, none⟩) hgl.1 _, h.base, hblk.apart hA (fun e => row_blk h.blk (by decide) h.out.row g rfl e.symm), hplc.far hA (fun b hb e => by subst e; exact row_row h.plc (by decide) h.out.row b hb rfl), ⟨by simp [h.out.len], ?_, ?_, ?_, ?_⟩, ?_⟩
  · rw [List.length_set, ← cellsN_set (d := ⟨(nodG ys j).f, (nodG ys j).ls, (nodG ys j).ns ++ [z]⟩) hj h.out.len rfl rfl]
    exact hst.1
  · intro q hq
    rw [List.length_set] at hq
    rw [nxG_set hjl, nodG_set hj]
    by_cases e : q = j
    · rw [if_pos e, if_pos e]
      refine hr.far hA fun b hb e2 => ?_
      have : g2 = b := by simpa [Value.ownBlock] using hb
      subst this
      subst e2
      rcases hl with h1 | h1
      · exact hgu j hj h1
      · omega
    · rw [if_neg e, if_neg e]
      exact ((h.out.nx q hq).far hk (fun b hb e2 => h.out.sep q j hq hj e b hb e2)).far hA (fun b hb e2 => hgu q hq (by rw [hb, e2]))
  · intro p q hp hq hpq k hk1
    rw [List.length_set] at hp hq
    rw [nxG_set hjl] at hk1
    rw [nxG_set hjl]
    by_cases e : p = j
    · rw [if_pos e] at hk1
      have : g2 = k := by simpa [Value.ownBlock] using hk1
      subst this
      rw [if_neg (by omega)]
      rcases hl with h1 | h1
      · exact h.out.sep j q hj hq (by omega) _ h1
      · intro h2
        have := hlt q hq _ h2
        omega
    · rw [if_neg e] at hk1
      by_cases e2 : q = j
      · rw [if_pos e2]
        intro h2
        have : g2 = k := by simpa [Value.ownBlock] using h2
        subst this
        rcases hl with h1 | h1
        · exact h.out.sep j p hj hp (by omega) _ h1 hk1
        · have := hlt p hp _ hk1
          omega
      · rw [if_neg e2]
        exact h.out.sep p q hp hq hpq k hk1
  · intro q hq
    rw [List.length_set] at hq
    rw [nodG_set hj]
    by_cases e : q = j
    · rw [if_pos e]
      intro x hx
      rcases List.mem_append.1 hx with hx | hx
      · exact h.out.fine j hj x hx
      · simp at hx; subst hx; exact hz
    · rw [if_neg e]
      exact h.out.fine q hq
  · intro q hq k hk1
    rw [List.length_set] at hq
    rw [nxG_set hjl] at hk1
    by_cases e : q = j
    · rw [if_pos e] at hk1
      have : g2 = k := by simpa [Value.ownBlock] using hk1
      subst this
      rcases hl with h1 | h1
      · exact h.sepP j hj _ h1
      · intro h2
        have := (h.plc.lt h2).2
        omega
    · rw [if_neg e] at hk1
      exact h.sepP q hq k hk1
end

/-! ### What has been laid -/
def fullN (xs : List Nod) (ord : List Nat) (p : Nat) : List Int := (nodG xs p).ns.map fun z => place ord z.toNat
def outAt (xs : List Nod) (ord : List Nat) (k i p : Nat) : Nod := ⟨(nodG xs p).f, (nodG xs p).ls, if p < k then fullN xs ord p else if p = k then (fullN xs ord p).take i else []⟩
def outsN (xs : List Nod) (ord : List Nat) (k i : Nat) : List Nod := ord.map (outAt xs ord k i)
theorem outsN_len (xs : List Nod) (ord : List Nat) (k i : Nat) : (outsN xs ord k i).length = ord.length := by simp [outsN]
theorem outsN_start (xs : List Nod) (ord : List Nat) : outsN xs ord 0 0 = bareN xs ord := by
  unfold outsN bareN
  refine List.map_congr_left fun p _ => ?_
  unfold outAt
  rw [if_neg (by omega)]
  split <;> simp
theorem outsN_skip {xs : List Nod} {ord : List Nat} {k : Nat} (hk : k ∉ ord) : outsN xs ord k 0 = outsN xs ord (k + 1) 0 := by
  unfold outsN
  refine List.map_congr_left fun p hp => ?_
  have hpk : p ≠ k := fun e => hk (e ▸ hp)
  unfold outAt
  congr 1
  by_cases h : p < k
  · rw [if_pos h, if_pos (by omega)]
  · rw [if_neg h, if_neg hpk, if_neg (by omega)]
    split <;> simp
theorem outsN_done {xs : List Nod} {ord : List Nat} {k : Nat} : outsN xs ord k (nodG xs k).ns.length = outsN xs ord (k + 1) 0 := by
  unfold outsN
  refine List.map_congr_left fun p _ => ?_
  unfold outAt
  congr 1
  by_cases h : p < k
  · rw [if_pos h, if_pos (by omega)]
  · rw [if_neg h]
    by_cases e : p = k
    · subst e
      rw [if_pos rfl, if_pos (by omega), List.take_of_length_le (by unfold fullN; simp)]
    · rw [if_neg e, if_neg (by omega)]
      split <;> simp
theorem outsN_at {xs : List Nod} {ord : List Nat} {k i a p : Nat} (ha : ord[a]? = some p) : nodG (outsN xs ord k i) a = outAt xs ord k i p := by
  unfold nodG outsN
  rw [List.getD_eq_getElem?_getD, List.getElem?_map, ha]
  rfl
theorem outsN_next {xs : List Nod} {ord : List Nat} {k i : Nat} (hd : ord.Nodup) (hk : k ∈ ord) (hi : i < (nodG xs k).ns.length) :
    (outsN xs ord k i).set (ord.idxOf k) ⟨(nodG (outsN xs ord k i) (ord.idxOf k)).f, (nodG (outsN xs ord k i) (ord.idxOf k)).ls, (nodG (outsN xs ord k i) (ord.idxOf k)).ns ++ [place ord ((nodG xs k).ns.getD i 0).toNat]⟩ = outsN xs ord k (i + 1) := by
  have ha := idx_get hk
  rw [outsN_at ha]
  have he : outAt xs ord k (i + 1) k = ⟨(outAt xs ord k i k).f, (outAt xs ord k i k).ls, (outAt xs ord k i k).ns ++ [place ord ((nodG xs k).ns.getD i 0).toNat]⟩ := by
    unfold outAt
    simp only [Nat.lt_irrefl, if_false, if_true]
    congr 1
    rw [List.take_add_one]
    congr 1
    unfold fullN
    rw [List.getElem?_map, List.getElem?_eq_getElem hi, List.getD_eq_getElem?_getD, List.getElem?_eq_getElem hi]
    rfl
  rw [← he]
  refine List.ext_getElem? fun q => ?_
  rw [List.getElem?_set]
  unfold outsN
  rw [List.getElem?_map, List.getElem?_map, List.length_map]
  by_cases e : ord.idxOf k = q
  · subst e
    rw [if_pos rfl, if_pos (idx_lt hk), ha]
    rfl
  · rw [if_neg e]
    cases hq : ord[q]? with
    | none => rfl
    | some p =>
      have hpk : p ≠ k := fun h => by
        subst h
        exact e (idx_nodup hd hq)
      simp only [Option.map_some, Option.some.injEq]
      unfold outAt
      congr 1
      rw [if_neg hpk, if_neg hpk]
theorem outsN_all {xs : List Nod} {ord : List Nat} (hf : ∀ p ∈ ord, p < xs.length) : (outsN xs ord xs.length 0).map contD = ord.map fun p => (((xs.map entD).getD p stD).1, ((xs.map entD).getD p stD).2.1, (stN (xs.map entD) p).map (place ord)) := by
  unfold outsN
  rw [List.map_map]
  refine List.map_congr_left fun p hp => ?_
  have hpn := hf p hp
  simp only [Function.comp]
  rw [stD_ent hpn, stN_ent hpn]
  unfold contD outAt entD
  simp only [if_pos hpn]
  unfold fullN
  rw [List.map_map]
  rfl
end Go.Proofs.YtokfkofclpajfaaDoor

namespace Go.Proofs.YtokfkofclpajfaaDoor
open Go.RowKit

/-- What is known from the start. -/
structure NumSt (W gw : World) (gr : Nat) (v vp : Value) (i : Nat) : Prop where
  below : Below W.heap.size W gw
  blk : Blk gw gr 165 #[v, vp, .slice none 0 0]
  row : RowI W.heap.size gw vp (List.replicate i (-1))
theorem num_start (W : World) (v : Value) : NumSt W (W.alloc (.cells #[v, .slice none 0 0, .slice none 0 0] 165)) W.heap.size v (.slice none 0 0) 0 :=
  ⟨(Below.refl _ _).alloc (Nat.le_refl _) _, Blk.made W 165 _, RowI.nil _ _⟩
theorem NumSt.more {W w w2 : World} {v vp : Value} {i g c : Nat} (h : NumSt W w W.heap.size v vp i) (hr : RowI W.heap.size w2 (.slice (some ⟨g, 0, none⟩) (i + 1) c) (List.replicate i (-1) ++ [-1])) (hk : Apart (fun b => vp.ownBlock = some b) w w2) :
    NumSt W (w2.setCell ⟨W.heap.size, 1, none⟩ (.slice (some ⟨g, 0, none⟩) (i + 1) c)) W.heap.size v (.slice (some ⟨g, 0, none⟩) (i + 1) c) (i + 1) := by
  have hb2 : Below W.heap.size W w2 := h.below.trans (hk.below (fun j hj e => by have := (h.row.lt e).1; omega) h.below.size)
  have hblk := h.blk.apart hk (fun e => row_blk h.blk (by decide) h.row _ e rfl)
  have hA : Apart (fun b => b = W.heap.size) w2 (w2.setCell ⟨W.heap.size, 1, none⟩ (.slice (some ⟨g, 0, none⟩) (i + 1) c)) := (Apart.refl (fun b => b = W.heap.size) w2).setCell (p := ⟨W.heap.size, 1, none⟩) (fun _ => rfl) _
  refine ⟨hb2.setCell (p := ⟨W.heap.size, 1, none⟩) (Nat.le_refl _) _, hblk.stored 1 _, ?_⟩
  rw [List.replicate_succ', ]
  exact hr.far hA (fun b hb e => row_blk hblk (by decide) hr b hb e)
theorem RMem.next {W w : World} {gr : Nat} {vold vp vo : Value} {xs : List Nod} {us : List Value} {vis : List Nat} (h : RMem W gr vold xs w vp vo us vis vis) : NMem W gr vold xs.length vis w vp vo us (outsN xs vis 0 0) := by
  refine ⟨h.below, h.base, h.blk, h.plc, ?_, ?_⟩
  · rw [outsN_start]
    exact h.out.outs h.bare
  · rw [outsN_start]
    intro j hj k hk
    exact (h.bare k ⟨_, nxG_mem (by rw [h.out.len]; exact hj), hk⟩).elim
theorem NMem.place {W w : World} {gr n g cap : Nat} {vold vo : Value} {ord : List Nat} {us : List Value} {ys : List Nod} (h : NMem W gr vold n ord w (.slice (some ⟨g, 0, none⟩) n cap) vo us ys) {k : Nat} (hk : k < n) : w.cell? ⟨g, k, none⟩ = some (.int .i64 (Proofs.YtokfkofclpajfaaDoor.place ord k)) := by
  have hp := h.plc
  unfold RowI at hp
  rw [placesN_len] at hp
  rw [World.ownsRow.cellAt hp k (by omega), List.getElem?_map, placesN_at _ hk]
  rfl
theorem NMem.placeForm {W w : World} {gr n : Nat} {vold vp vo : Value} {ord : List Nat} {us : List Value} {ys : List Nod} (h : NMem W gr vold n ord w vp vo us ys) (h0 : 0 < n) : ∃ g cap, vp = .slice (some ⟨g, 0, none⟩) n cap := by
  obtain ⟨a, cap, rfl, -, -, h3⟩ := own_form h.plc
  rw [placesN_len] at h3 ⊢
  obtain ⟨g, rfl, -⟩ := h3 h0
  exact ⟨g, cap, rfl⟩
theorem Apart.cell {S : Nat → Prop} {w w' : World} {b o : Nat} (h : Apart S w w') (hb : b < w.heap.size) (hn : ¬ S b) : w'.cell? ⟨b, o, none⟩ = w.cell? ⟨b, o, none⟩ := by
  have e := h.block b hb hn
  unfold World.cell?
  simp only [e]
theorem place_wf {ord : List Nat} {n p : Nat} (h : Fit n ord) (hn : n ≤ 1000000) : (Lit.int .i64 (place ord p)).wf = true := by
  have h1 := place_lt (p := p) h
  have h2 := place_low (vis := ord) (p := p)
  simp [Lit.wf, IntKind.min, IntKind.max, IntKind.signed, IntKind.bits]
  omega

set_option maxRecDepth 100000 in
set_option maxHeartbeats 8000000 in
theorem l06Number_any {v : Value} {us : List Value} {xs : List Nod} {B : Nat} (W : World) (hN : Nows B W v us xs) (root : Nat) (hr : root < xs.length) (hsm : xs.length ≤ 1000000) (hfew : ∀ p, p < xs.length → (nodG xs p).ns.length ≤ 3000) :
    Calls Tryd.prog 125 #[v, .int .i64 root] W fun e w' => ∃ vo us' ys, e = .returned vo ∧ Outs W.heap.size w' vo us' ys ∧ ys.map contD = numA (xs.map entD) root ∧ Below W.heap.size W w' := by
  have hx := hN.nds
  have hdn : ∀ p, p < xs.length → ∀ z ∈ (nodG xs p).ns, 0 ≤ z ∧ z < (p : Int) := fun p hp => hN.down p hp
  have hNb : ∀ i, i < xs.length → ∀ j ∈ stN (xs.map entD) i, j < xs.length := fun i hi j hj => by
    rw [stN_ent hi] at hj
    obtain ⟨z, hz, rfl⟩ := List.mem_map.1 hj
    have := hdn i hi z hz
    omega
  have HFIT := Shh.mk (dfs_fit hNb xs.length [] root ⟨List.nodup_nil, by simp⟩ hr (by simp))
  have HV := Shh.mk (fun w h => visit_any (W := W) (gr := W.heap.size) hx hsm hdn xs.length root [] w hr hr (by simp) ⟨List.nodup_nil, by simp⟩ h)
  have HX := Shh.mk hx
  have HDN := Shh.mk hdn
  have HFEW := Shh.mk hfew
  have HS := Shh.mk (num_start W v)
  obtain ⟨ord, hord⟩ : ∃ ord, dfs (stN (xs.map entD)) xs.length [] root = ord := ⟨_, rfl⟩
  have HNUM := Shh.mk (show numA (xs.map entD) root = (outsN xs ord xs.length 0).map contD by
    rw [outsN_all (fun p hp => HFIT.out.2 p (by rw [hord]; exact hp))]
    unfold numA ordA
    rw [List.length_map, hord])
  rw [hord] at HFIT HV
  obtain ⟨na, nc, rfl, hn1, hn2, hn3⟩ := hx
  clear hdn hNb hfew hN hord hn3
  go_enter Tryd.func125, Tryd.ntmps125
  go_wp2
  go_loopw [14] (fun z wr => ∃ (i : Nat) (vp : Value), i ≤ xs.length ∧ z = .int .i64 i ∧ Shh (NumSt W wr W.heap.size (.slice na xs.length nc) vp i)) (fun z _ => xs.length - (intOf z).toNat)
  case atStart => exact ⟨0, _, Nat.zero_le _, rfl, HS⟩
  case round =>
    obtain ⟨i, vp, hil, rfl, hs⟩ := hrel
    have HS1 := hs
    have c1 := hs.out.blk.cells 1
    have HB1 := Shh.mk hs.out.below.size
    clear hs HS
    by_cases hi : i < xs.length
    · go_wp2_with (at_builtin; refine wpList_append_int (B := W.heap.size) (H := wr.heap.size) rfl _ _ rfl vp (List.replicate i (-1)) (-1) rfl rfl ((Blk.made wr 2 #[.int .i64 (-1)]).cells 0) (HS1.out.row.alloc _) i (List.length_replicate ..) (by omega) (by have h1 := HB1.out; simp; omega) ?_; intro g7 c7 w7 ho7 hk7 _; have hbl7 := (HS1.out.blk.alloc (.cells #[.int .i64 (-1)] 2)).apart hk7 (fun e => row_blk HS1.out.blk (by decide) HS1.out.row _ e rfl); have n7 : w7.cell? ⟨W.heap.size, 1, none⟩ = some vp := hbl7.cells 1; have m7 := hbl7.marks 1; have HS2 := Shh.mk (NumSt.more ⟨HS1.out.below.alloc HS1.out.below.size (.cells #[.int .i64 (-1)] 2), HS1.out.blk.alloc _, HS1.out.row.alloc _⟩ ho7 hk7); clear ho7 hk7 hbl7)
      go_roundw
      case rel => exact ⟨i + 1, _, by omega, by go_num, HS2⟩
      case measure => simp [intOf]; omega
    · obtain rfl : i = xs.length := by omega
      have HR0 := Shh.mk (show RSt W W.heap.size (.slice na xs.length nc) xs wr [] from ⟨vp, .slice none 0 0, [], HS1.out.below, Nat.le_refl _, HS1.out.blk, by rw [placesN_nil]; exact HS1.out.row, Nows.nil _ _, fun k hk => by obtain ⟨u, hu, _⟩ := hk; simp at hu⟩)
      go_wp2_with (go_at_call 136; refine (HV.out wr HR0.out).mono ?_; rintro e w3 ⟨⟨vr, rfl⟩, hst3⟩; have HR3 := Shh.mk (show ∃ vp vo us, NMem W W.heap.size (.slice na xs.length nc) xs.length ord w3 vp vo us (outsN xs ord 0 0) from by obtain ⟨vp3, vo3, us3, h3⟩ := hst3; exact ⟨vp3, vo3, us3, h3.next⟩); clear hst3)
      clear HR0 HS1 HB1
      go_loopw [6, 7, 8] (fun z _ _ wr => ∃ (k : Nat) (vp vo : Value) (us : List Value), k ≤ xs.length ∧ z = .int .i64 k ∧ Shh (NMem W W.heap.size (.slice na xs.length nc) xs.length ord wr vp vo us (outsN xs ord k 0))) (fun z _ _ _ => xs.length - (intOf z).toNat)
      case atStart => obtain ⟨vp3, vo3, us3, h3⟩ := HR3.out; exact ⟨0, vp3, vo3, us3, Nat.zero_le _, rfl, ⟨h3⟩⟩
      case round =>
        obtain ⟨k, vp, vo, us, hkl, rfl, hm⟩ := hrel
        obtain ⟨w4, hw4⟩ : ∃ w4 : World, w4 = wr := ⟨_, rfl⟩
        subst hw4
        have HM := hm
        obtain ⟨gp, pc, rfl⟩ := hm.out.placeForm (by omega)
        have c1 := hm.out.blk.cells 1
        have c2 := hm.out.blk.cells 2
        clear HR3 hm
        by_cases hk : k < xs.length
        · have hp := HM.out.place hk
          by_cases hko : k ∈ ord
          · rw [place_in hko] at hp
            have HAT := Shh.mk (idx_get hko)
            have HAL := Shh.mk (idx_lt hko)
            obtain ⟨at_, hat⟩ : ∃ a, ord.idxOf k = a := ⟨_, rfl⟩
            rw [hat] at hp HAT HAL
            have HATE := Shh.mk hat
            have hneg : ¬ (at_ : Int) < 0 := by omega
            obtain ⟨go_, oc, hvo⟩ := HM.out.out.form (by rw [outsN_len]; have := HAL.out; omega)
            rw [outsN_len] at hvo
            subst hvo
            have hatl : at_ < ord.length := HAL.out
            have hordl : ord.length ≤ xs.length := nodup_len _ _ HFIT.out.1 HFIT.out.2
            clear hat
            go_wp2
            go_loopw [8] (fun z wr => ∃ (i : Nat) (us : List Value), i ≤ (nodG xs k).ns.length ∧ z = .int .i64 i ∧ Shh (NMem W W.heap.size (.slice na xs.length nc) xs.length ord wr (.slice (some ⟨gp, 0, none⟩) xs.length pc) (.slice (some ⟨go_, 0, none⟩) ord.length oc) us (outsN xs ord k i))) (fun z _ => (nodG xs k).ns.length - (intOf z).toNat)
            case atStart => exact ⟨0, us, Nat.zero_le _, rfl, HM⟩
            case round =>
              obtain ⟨i, us, hil, rfl, hm⟩ := hrel
              clear hp c1 c2 HM
              have HM := hm
              clear hm
              have hfew := HFEW.out k hk
              obtain ⟨ad, cd, e1, -, -, hc3⟩ := HX.out
              obtain ⟨bn, on, rfl, hbn, hc4⟩ := hc3 (by omega)
              simp only [Value.slice.injEq] at e1
              obtain ⟨rfl, -, rfl⟩ := e1
              obtain ⟨-, -, u, n2W, hu⟩ := hc4 k hk
              have HDK := Shh.mk (HDN.out k hk)
              obtain ⟨ns, hns⟩ : ∃ ns, (nodG xs k).ns = ns := ⟨_, rfl⟩
              have HNS := Shh.mk hns
              rw [hns] at hil hfew hu HDK
              have hul := hu.len
              obtain ⟨ua, uc, rfl, hu1, hu2, hu3, hu4⟩ := hu
              have n2 := (HM.out.below.cell (p := ⟨bn, on + k * 3 + 2, none⟩) hbn).trans n2W
              have d1 := HM.out.blk.cells 1
              have d2 := HM.out.blk.cells 2
              clear hc4 hc3 hu4 hns
              by_cases hi : i < ns.length
              · obtain ⟨bu, ou, rfl, hbu, hcu⟩ := hu3 (by omega)
                have cuW := hcu i hi
                have cu := (HM.out.below.cell (p := ⟨bu, ou + i, none⟩) hbu).trans cuW
                have hzz : 0 ≤ ns.getD i 0 ∧ ns.getD i 0 < (k : Int) := by rw [List.getD_eq_getElem?_getD, List.getElem?_eq_getElem hi]; exact HDK.out _ (List.getElem_mem hi)
                obtain ⟨z, hz⟩ : ∃ z, ns.getD i 0 = z := ⟨_, rfl⟩
                have HZ := Shh.mk hz
                rw [hz] at cu hzz cuW
                obtain ⟨j, rfl⟩ : ∃ j : Nat, z = (j : Int) := ⟨z.toNat, by omega⟩
                have hjn : j < xs.length := by omega
                have cp := HM.out.place hjn
                have hPW := place_wf (p := j) HFIT.out hsm
                obtain ⟨P, hP⟩ : ∃ P, place ord j = P := ⟨_, rfl⟩
                have HP := Shh.mk hP
                rw [hP] at cp hPW
                have HPW := Shh.mk hPW
                have hOF := HM.out.out
                have hlo : (outsN xs ord k i).length = ord.length := outsN_len ..
                have HNX := Shh.mk (show (outsN xs ord k i).set at_ ⟨(nodG (outsN xs ord k i) at_).f, (nodG (outsN xs ord k i) at_).ls, (nodG (outsN xs ord k i) at_).ns ++ [P]⟩ = outsN xs ord k (i + 1) from by
                  have h9 := outsN_next (xs := xs) (i := i) HFIT.out.1 hko (by rw [HNS.out]; exact hi)
                  rw [HATE.out, HNS.out, HZ.out, Int.toNat_natCast, HP.out] at h9
                  exact h9)
                have HLN := Shh.mk (show (nodG (outsN xs ord k i) at_).ns.length = i from by
                  rw [outsN_at HAT.out]
                  unfold outAt fullN
                  simp only [Nat.lt_irrefl, if_false, if_true]
                  rw [List.length_take, List.length_map, HNS.out]
                  omega)
                have co : wr.cell? ⟨go_, at_ * 3 + 2, none⟩ = some (nxG us at_) := by
                  rw [← hlo] at hOF
                  exact (hOF.cell (by omega)).1
                obtain ⟨U, hU⟩ : ∃ U, nxG us at_ = U := ⟨_, rfl⟩
                have HU := Shh.mk hU
                rw [hU] at co
                have HMB := Shh.mk HM.out.below.size
                have KW := Shh.mk (fun wx (hb : Below W.heap.size W wx) (hk : Blk wx W.heap.size 165 #[.slice (some ⟨bn, on, none⟩) xs.length nc, .slice (some ⟨gp, 0, none⟩) xs.length pc, .slice (some ⟨go_, 0, none⟩) ord.length oc]) (ho : wx.cell? ⟨go_, at_ * 3 + 2, none⟩ = some U) (hp : wx.cell? ⟨gp, j, none⟩ = some (.int .i64 P)) => (⟨hk.cells 1, hk.cells 2, ho, (hb.cell (p := ⟨bn, on + k * 3 + 2, none⟩) hbn).trans n2W, (hb.cell (p := ⟨bu, ou + i, none⟩) hbu).trans cuW, hp⟩ : wx.cell? ⟨W.heap.size, 1, none⟩ = some (.slice (some ⟨gp, 0, none⟩) xs.length pc) ∧ wx.cell? ⟨W.heap.size, 2, none⟩ = some (.slice (some ⟨go_, 0, none⟩) ord.length oc) ∧ wx.cell? ⟨go_, at_ * 3 + 2, none⟩ = some U ∧ wx.cell? ⟨bn, on + k * 3 + 2, none⟩ = some (.slice (some ⟨bu, ou, none⟩) ns.length uc) ∧ wx.cell? ⟨bu, ou + i, none⟩ = some (.int .i64 (j : Int)) ∧ wx.cell? ⟨gp, j, none⟩ = some (.int .i64 P)))
                have hgo := (World.ownsRow.lt HM.out.out.row go_ rfl).2
                have hgp := (HM.out.plc.lt (k := gp) rfl).2
                have K1 := Shh.mk (fun wx (hb : Below wr.heap.size wr wx) => KW.out wx (HM.out.below.trans (hb.mono HMB.out)) (HM.out.blk.kept hb HM.out.blk.lt) ((hb.cell (p := ⟨go_, at_ * 3 + 2, none⟩) hgo).trans co) ((hb.cell (p := ⟨gp, j, none⟩) hgp).trans cp))
                have HGO := Shh.mk (show U.ownBlock ≠ some go_ from fun e => row_row (HM.out.out.nx at_ (by rw [hlo]; omega)) (by decide) HM.out.out.row go_ (by rw [HU.out]; exact e) rfl)
                have HGP := Shh.mk (show U.ownBlock ≠ some gp from fun e => HM.out.sepP at_ (by rw [hlo]; omega) gp (by rw [HU.out]; exact e) rfl)
                have HGR := Shh.mk (show U.ownBlock ≠ some W.heap.size from fun e => row_blk HM.out.blk (by decide) (HM.out.out.nx at_ (by rw [hlo]; omega)) W.heap.size (by rw [HU.out]; exact e) rfl)
                have HRU := Shh.mk (show RowI W.heap.size wr U (nodG (outsN xs ord k i) at_).ns from by have h9 := HM.out.out.nx at_ (by rw [hlo]; omega); rw [HU.out] at h9; exact h9)
                have HM2 := Shh.mk (show NMem W W.heap.size (.slice (some ⟨bn, on, none⟩) xs.length nc) xs.length ord wr (.slice (some ⟨gp, 0, none⟩) xs.length pc) (.slice (some ⟨go_, 0, none⟩) (outsN xs ord k i).length oc) us (outsN xs ord k i) from by rw [hlo]; exact HM.out)
                have hAl : at_ < (outsN xs ord k i).length := by rw [hlo]; exact hatl
                have HLO := Shh.mk hlo
                clear n2W cuW hOF hlo hP hU
                go_wp2
                clear co cp cu n2 d1 d2
                refine wp_region_M 29 (fun wx => wx.cell? ⟨W.heap.size, 1, none⟩ = some (.slice (some ⟨gp, 0, none⟩) xs.length pc) ∧ wx.cell? ⟨W.heap.size, 2, none⟩ = some (.slice (some ⟨go_, 0, none⟩) ord.length oc) ∧ wx.cell? ⟨go_, at_ * 3 + 2, none⟩ = some U ∧ wx.cell? ⟨bn, on + k * 3 + 2, none⟩ = some (.slice (some ⟨bu, ou, none⟩) ns.length uc) ∧ wx.cell? ⟨bu, ou + i, none⟩ = some (.int .i64 (j : Int)) ∧ wx.cell? ⟨gp, j, none⟩ = some (.int .i64 P)) (by kernel_rfl) (K1.out _ (Below.refl _ _).drew) (fun hHeld => ?_)
                refine wpAnyM_take (i := 0) (oi := _) (v := ?v0) rfl (by kernel_rfl) (fun _ _ _ h => h) (Or.inl ⟨by rfl, ?y0⟩) (by assumption) ?r0
                case y0 => (intro wS hSw; obtain ⟨hs0, hs1, hs2, hs3, hs4, hs5⟩ := hSw; go_simp; try with_reducible rfl)
                simp only [Act.put]
                refine wpAnyM_take (i := 1) (oi := _) (v := ?v1) rfl (by kernel_rfl) (fun _ _ _ h => h) (Or.inl ⟨by rfl, ?y1⟩) (by assumption) ?r1
                case y1 => (intro wS hSw; obtain ⟨hs0, hs1, hs2, hs3, hs4, hs5⟩ := hSw; go_simp; try with_reducible rfl)
                simp only [Act.put]
                refine wpAnyM_take (i := 2) (oi := _) (v := ?v2) rfl (by kernel_rfl) (fun _ _ _ h => h) (Or.inl ⟨by rfl, ?y2⟩) (by assumption) ?r2
                case y2 => (intro wS hSw; obtain ⟨hs0, hs1, hs2, hs3, hs4, hs5⟩ := hSw; go_simp; try with_reducible rfl)
                simp only [Act.put]
                refine wpAnyM_take (i := 3) (oi := _) (v := ?v3) rfl (by kernel_rfl) (fun _ _ _ h => h) (Or.inl ⟨by rfl, ?y3⟩) (by assumption) ?r3
                case y3 => (intro wS hSw; obtain ⟨hs0, hs1, hs2, hs3, hs4, hs5⟩ := hSw; go_simp; try with_reducible rfl)
                simp only [Act.put]
                refine wpAnyM_take (i := 4) (oi := _) (v := ?v4) rfl (by kernel_rfl) (fun _ _ _ h => h) (Or.inl ⟨by rfl, ?y4⟩) (by assumption) ?r4
                case y4 => (intro wS hSw; obtain ⟨hs0, hs1, hs2, hs3, hs4, hs5⟩ := hSw; go_simp; try with_reducible rfl)
                simp only [Act.put]
                refine wpAnyM_take (i := 5) (oi := _) (v := ?v5) rfl (by kernel_rfl) (fun _ _ _ h => h) (Or.inl ⟨by rfl, ?y5⟩) (by assumption) ?r5
                case y5 => (intro wS hSw; obtain ⟨hs0, hs1, hs2, hs3, hs4, hs5⟩ := hSw; go_simp; try with_reducible rfl)
                simp only [Act.put]
                refine wpAnyM_take (i := 6) (oi := _) (v := ?v6) rfl (by kernel_rfl) (fun _ _ _ h => h) (Or.inl ⟨by rfl, ?y6⟩) (by assumption) ?r6
                case y6 => (intro wS hSw; obtain ⟨hs0, hs1, hs2, hs3, hs4, hs5⟩ := hSw; go_simp; try with_reducible rfl)
                simp only [Act.put]
                refine wpAnyM_take (i := 7) (oi := _) (v := ?v7) rfl (by kernel_rfl) (fun _ _ _ h => h) (Or.inl ⟨by rfl, ?y7⟩) (by assumption) ?r7
                case y7 => (intro wS hSw; obtain ⟨hs0, hs1, hs2, hs3, hs4, hs5⟩ := hSw; go_simp; try with_reducible rfl)
                simp only [Act.put]
                refine wpAnyM_take (i := 8) (oi := _) (v := ?v8) rfl (by kernel_rfl) (fun _ _ _ h => h) (Or.inl ⟨by rfl, ?y8⟩) (by assumption) ?r8
                case y8 => (intro wS hSw; obtain ⟨hs0, hs1, hs2, hs3, hs4, hs5⟩ := hSw; go_simp; try with_reducible rfl)
                simp only [Act.put]
                refine wpAnyM_take (i := 9) (oi := _) (v := ?v9) rfl (by kernel_rfl) (fun _ _ _ h => h) (Or.inl ⟨by rfl, ?y9⟩) (by assumption) ?r9
                case y9 => (intro wS hSw; obtain ⟨hs0, hs1, hs2, hs3, hs4, hs5⟩ := hSw; go_simp; try with_reducible rfl)
                simp only [Act.put]
                refine wpAnyM_take (i := 10) (oi := _) (v := ?v10) rfl (by kernel_rfl) (fun _ _ _ h => h) (Or.inl ⟨by rfl, ?y10⟩) (by assumption) ?r10
                case y10 => (intro wS hSw; obtain ⟨hs0, hs1, hs2, hs3, hs4, hs5⟩ := hSw; go_simp; try with_reducible rfl)
                simp only [Act.put]
                refine wpAnyM_take (i := 11) (oi := _) (v := ?v11) rfl (by kernel_rfl) (fun _ _ _ h => h) (Or.inl ⟨by rfl, ?y11⟩) (by assumption) ?r11
                case y11 => (intro wS hSw; obtain ⟨hs0, hs1, hs2, hs3, hs4, hs5⟩ := hSw; go_simp; try with_reducible rfl)
                simp only [Act.put]
                refine wpAnyM_take (i := 12) (oi := _) (v := ?v12) rfl (by kernel_rfl) (fun _ _ _ h => h) (Or.inl ⟨by rfl, ?y12⟩) (by assumption) ?r12
                case y12 => (intro wS hSw; obtain ⟨hs0, hs1, hs2, hs3, hs4, hs5⟩ := hSw; go_simp; try with_reducible rfl)
                simp only [Act.put]
                refine wpAnyM_take (i := 13) (oi := _) (v := ?v13) rfl (by kernel_rfl) (fun _ _ _ h => h) (Or.inl ⟨by rfl, ?y13⟩) (by assumption) ?r13
                case y13 => (intro wS hSw; obtain ⟨hs0, hs1, hs2, hs3, hs4, hs5⟩ := hSw; go_simp; try with_reducible rfl)
                simp only [Act.put]
                refine wpAnyM_take (i := 14) (oi := _) (v := ?v14) rfl (by kernel_rfl) (fun _ _ _ h => h) (Or.inl ⟨by rfl, ?y14⟩) (by assumption) ?r14
                case y14 => (intro wS hSw; obtain ⟨hs0, hs1, hs2, hs3, hs4, hs5⟩ := hSw; go_simp; try with_reducible rfl)
                simp only [Act.put]
                refine wpAnyM_take (i := 15) (oi := _) (v := ?v15) rfl (by kernel_rfl) (fun _ _ _ h => h) (Or.inl ⟨by rfl, ?y15⟩) (by assumption) ?r15
                case y15 => (intro wS hSw; obtain ⟨hs0, hs1, hs2, hs3, hs4, hs5⟩ := hSw; go_simp; try with_reducible rfl)
                simp only [Act.put]
                refine wpAnyM_take (i := 16) (oi := _) (v := ?v16) rfl (by kernel_rfl) (fun _ _ _ h => h) (Or.inl ⟨by rfl, ?y16⟩) (by assumption) ?r16
                case y16 => (intro wS hSw; obtain ⟨hs0, hs1, hs2, hs3, hs4, hs5⟩ := hSw; go_simp; try with_reducible rfl)
                simp only [Act.put]
                refine wpAnyM_take (i := 17) (oi := _) (v := ?v17) rfl (by kernel_rfl) (fun _ _ _ h => h) (Or.inl ⟨by rfl, ?y17⟩) (by assumption) ?r17
                case y17 => (intro wS hSw; obtain ⟨hs0, hs1, hs2, hs3, hs4, hs5⟩ := hSw; go_simp; try with_reducible rfl)
                simp only [Act.put]
                refine wpAnyM_take (i := 18) (oi := _) (v := ?v18) rfl (by kernel_rfl) (fun _ _ _ h => h) (Or.inl ⟨by rfl, ?y18⟩) (by assumption) ?r18
                case y18 => (intro wS hSw; obtain ⟨hs0, hs1, hs2, hs3, hs4, hs5⟩ := hSw; go_simp; try with_reducible rfl)
                simp only [Act.put]
                refine wpAnyM_take (i := 19) (oi := _) (v := ?v19) rfl (by kernel_rfl) (fun _ _ _ h => h) (Or.inl ⟨by rfl, ?y19⟩) (by assumption) ?r19
                case y19 => (intro wS hSw; obtain ⟨hs0, hs1, hs2, hs3, hs4, hs5⟩ := hSw; go_simp; try with_reducible rfl)
                simp only [Act.put]
                refine wpAnyM_take (i := 20) (oi := _) (v := ?v20) rfl (by kernel_rfl) (fun _ _ _ h => h) (Or.inl ⟨by rfl, ?y20⟩) (by assumption) ?r20
                case y20 => (intro wS hSw; obtain ⟨hs0, hs1, hs2, hs3, hs4, hs5⟩ := hSw; go_simp; try with_reducible rfl)
                simp only [Act.put]
                refine wpAnyM_take (i := 21) (oi := _) (v := ?v21) rfl (by kernel_rfl) (fun _ _ _ h => h) (Or.inl ⟨by rfl, ?y21⟩) (by assumption) ?r21
                case y21 => (intro wS hSw; obtain ⟨hs0, hs1, hs2, hs3, hs4, hs5⟩ := hSw; go_simp; try with_reducible rfl)
                simp only [Act.put]
                refine wpAnyM_take (i := 22) (oi := _) (v := ?v22) rfl (by kernel_rfl) (fun _ _ _ h => h) (Or.inl ⟨by rfl, ?y22⟩) (by assumption) ?r22
                case y22 => (intro wS hSw; obtain ⟨hs0, hs1, hs2, hs3, hs4, hs5⟩ := hSw; go_simp; try with_reducible rfl)
                simp only [Act.put]
                refine wpAnyM_take (i := 23) (oi := _) (v := ?v23) rfl (by kernel_rfl) (fun _ _ _ h => h) (Or.inl ⟨by rfl, ?y23⟩) (by assumption) ?r23
                case y23 => (intro wS hSw; obtain ⟨hs0, hs1, hs2, hs3, hs4, hs5⟩ := hSw; go_simp; try with_reducible rfl)
                simp only [Act.put]
                refine wpAnyM_take (i := 24) (oi := _) (v := ?v24) rfl (by kernel_rfl) (fun _ _ _ h => h) (Or.inl ⟨by rfl, ?y24⟩) (by assumption) ?r24
                case y24 => (intro wS hSw; obtain ⟨hs0, hs1, hs2, hs3, hs4, hs5⟩ := hSw; go_simp; try with_reducible rfl)
                simp only [Act.put]
                refine wpAnyM_take (i := 25) (oi := _) (v := ?v25) rfl (by kernel_rfl) (fun _ _ _ h => h) (Or.inl ⟨by rfl, ?y25⟩) (by assumption) ?r25
                case y25 => (intro wS hSw; obtain ⟨hs0, hs1, hs2, hs3, hs4, hs5⟩ := hSw; go_simp; try with_reducible rfl)
                simp only [Act.put]
                refine wpAnyM_take (i := 26) (oi := _) (v := ?v26) rfl (by kernel_rfl) (fun _ _ _ h => h) (Or.inl ⟨by rfl, ?y26⟩) (by assumption) ?r26
                case y26 => (intro wS hSw; obtain ⟨hs0, hs1, hs2, hs3, hs4, hs5⟩ := hSw; go_simp; try with_reducible rfl)
                simp only [Act.put]
                refine wpAnyM_one (i := 27) (o := _) (by kernel_rfl) rfl (fun K hK => ?_)
                go_simp
                refine hK.out _ _ (fun _ => K1.out _ ((Below.refl _ _).alloc (Nat.le_refl _) _).drew) (fun hHeld2 => ?_)
                (try simp only [Act.put])
                clear hHeld K hK
                refine wpAnyM_one (i := 28) (o := _) (by kernel_rfl) rfl (fun K hK => ?_)
                refine step_append_int (B := W.heap.size) (H := wr.heap.size) (by rfl) _ _ (by rfl) U (nodG (outsN xs ord k i) at_).ns P (by rfl) (by rfl) ((Blk.made wr 2 #[.int .i64 P]).drew.cells 0) (HRU.out.alloc _).drew i HLN.out (by omega) (by have h1 := HMB.out; simp [World.drew]; omega) ?_
                intro g7 c7 w7 ho7 hk7 hl7
                have HNN := Shh.mk ((HM2.out.below' (((Below.refl _ _).alloc (Nat.le_refl _) (.cells #[.int .i64 P] 2)).drew)).more hAl ho7 (by rw [HU.out]; exact hk7) (by rw [HU.out]; exact hl7) HPW.out)
                have hbW : Below W.heap.size W w7 := (HM.out.below.trans ((((Below.refl _ _).alloc (Nat.le_refl _) (.cells #[.int .i64 P] 2)).drew).mono HMB.out)).trans (hk7.below (fun q hq e => by have := (HRU.out.lt e).1; omega) (by have h1 := HMB.out; simp [World.drew]; omega))
                have o7 : w7.cell? ⟨go_, at_ * 3 + 2, none⟩ = some U := (hk7.cell (by simp [World.drew]; omega) HGO.out).trans (hHeld2 (by decide)).2.2.1
                have p7 : w7.cell? ⟨gp, j, none⟩ = some (.int .i64 P) := (hk7.cell (by simp [World.drew]; omega) HGP.out).trans (hHeld2 (by decide)).2.2.2.2.2
                have K7 := Shh.mk (KW.out w7 hbW ((HM.out.blk.alloc (.cells #[.int .i64 P] 2)).drew.apart hk7 HGR.out) o7 p7)
                have m7 : w7.frozen? ⟨go_, at_ * 3 + 2, none⟩ = false := World.ownsRow.frozenAt (row_apart ((World.ownsRow.alloc HM2.out.out.row (.cells #[.int .i64 P] 2)).drew) hk7 (fun b hb e => by
                  have : go_ = b := by simpa [Value.ownBlock] using hb
                  subst this
                  exact HGO.out e)) _
                clear ho7 hk7 hl7 hbW p7
                refine hK.out _ _ (fun _ => K7.out) (fun _ => ?_)
                (try simp only [Act.put])
                clear hHeld2 K hK
                refine wpAnyM_one (i := 29) (o := _) (by kernel_rfl) rfl (fun K hK => ?_)
                go_simp
                refine hK.out _ _ (fun h => absurd h (by decide)) (fun _ => ?_)
                (try simp only [Act.put])
                clear K hK
                refine wpAnyM_one (i := 30) (o := _) (by kernel_rfl) rfl (fun K hK => ?_)
                go_simp
                refine hK.out _ _ (fun h => absurd h (by decide)) (fun _ => ?_)
                (try simp only [Act.put])
                clear K hK
                refine wpAnyM_one (i := 31) (o := _) (by kernel_rfl) rfl (fun K hK => ?_)
                go_simp
                refine hK.out _ _ (fun h => absurd h (by decide)) (fun _ => ?_)
                refine wpAnyM_done (by kernel_rfl) ?_ _
                (try simp only [Act.put])
                have HN9 := Shh.mk (show NMem W W.heap.size (.slice (some ⟨bn, on, none⟩) xs.length nc) xs.length ord (w7.setCell ⟨go_, at_ * 3 + 2, none⟩ (.slice (some ⟨g7, 0, none⟩) (i + 1) c7)) (.slice (some ⟨gp, 0, none⟩) xs.length pc) (.slice (some ⟨go_, 0, none⟩) ord.length oc) (us.set at_ (.slice (some ⟨g7, 0, none⟩) (i + 1) c7)) (outsN xs ord k (i + 1)) from by
                  have h9 := HNN.out
                  rw [HNX.out, HLO.out] at h9
                  exact h9)
                clear o7 m7 K hK HNN K7 K1 KW
                go_wp2
                go_roundw
                case rel => exact ⟨i + 1, _, by rw [HNS.out]; omega, by go_num, HN9⟩
                case measure => simp [intOf, HNS.out]; omega
              · obtain rfl : i = ns.length := by omega
                have HM8 := Shh.mk (show NMem W W.heap.size (.slice (some ⟨bn, on, none⟩) xs.length nc) xs.length ord wr (.slice (some ⟨gp, 0, none⟩) xs.length pc) (.slice (some ⟨go_, 0, none⟩) ord.length oc) us (outsN xs ord (k + 1) 0) from by
                  rw [← outsN_done, HNS.out]
                  exact HM.out)
                go_wp2
                go_roundw
                case rel => exact ⟨k + 1, _, _, us, by omega, by go_num, HM8⟩
                case measure => simp [intOf]; omega
          · rw [place_out hko] at hp
            have HM8 := Shh.mk (show NMem W W.heap.size (.slice na xs.length nc) xs.length ord w4 (.slice (some ⟨gp, 0, none⟩) xs.length pc) vo us (outsN xs ord (k + 1) 0) from by
              rw [← outsN_skip hko]
              exact HM.out)
            go_wp2
            go_roundw
            case rel => exact ⟨k + 1, _, vo, us, by omega, by go_num, HM8⟩
            case measure => simp [intOf]; omega
        · obtain rfl : k = xs.length := by omega
          go_wp2
          go_ret
          exact ⟨vo, us, _, rfl, HM.out.out, HNUM.out.symm, HM.out.below⟩
end Go.Proofs.YtokfkofclpajfaaDoor
