/-
  Plain facts on graphs: nodes in the order in which they are met, whatever their names; nodes that have ended.
  Plain facts on automata: the strings behind a node, longest paths, nodes made anew from strings.
  Plain facts on automata: nodes made anew and numbered as they are met are the nodes that there were.
  Plain facts on automata: what is made anew from strings has no two equal nodes, no cycle, and numbers in the order in which nodes are met.
  Plain facts on automata: what is valid, and that this is what is made anew from its strings.
-/
import Derived.Test.YtokfkofclpajfaaDoorA
import Derived.Test.YtokfkofclpajfaaDoorNA
namespace Go.Proofs.YtokfkofclpajfaaDoor

/-! ### Lists of different numbers below a bound -/
theorem nodup_len : ∀ (n : Nat) (l : List Nat), l.Nodup → (∀ x ∈ l, x < n) → l.length ≤ n
  | 0, l, _, h => by
    cases l with
    | nil => exact Nat.le_refl _
    | cons x r => exact absurd (h x (by simp)) (by omega)
  | n + 1, l, hd, h => by
    by_cases hm : n ∈ l
    · have h1 := nodup_len n (l.erase n) (hd.erase n) (fun x hx => by
        have h2 := h x (List.mem_of_mem_erase hx)
        have h3 : x ≠ n := fun e => by subst e; exact (List.Nodup.not_mem_erase hd) hx
        omega)
      rw [List.length_erase_of_mem hm] at h1
      omega
    · have h1 := nodup_len n l hd (fun x hx => by
        have h2 := h x hx
        have h3 : x ≠ n := fun e => by subst e; exact hm hx
        omega)
      omega
theorem nodup_room {n i : Nat} {l : List Nat} (hd : l.Nodup) (h : ∀ x ∈ l, x < n) (hi : i < n) (hn : i ∉ l) : l.length < n := by
  have h1 := nodup_len n (i :: l) (List.nodup_cons.2 ⟨hn, hd⟩) (fun x hx => by
    rcases List.mem_cons.1 hx with rfl | hx
    · exact hi
    · exact h x hx)
  simp at h1
  omega

/-! ### The order in which nodes are met -/
def dfsL (visit : List Nat → Nat → List Nat) : List Nat → List Nat → List Nat
  | [], vis => vis
  | j :: js, vis => dfsL visit js (if j ∈ vis then vis else visit vis j)
def dfs (N : Nat → List Nat) : Nat → List Nat → Nat → List Nat
  | 0, vis, _ => vis
  | f + 1, vis, i => dfsL (dfs N f) (N i) (vis ++ [i])
theorem dfsL_pre {visit : List Nat → Nat → List Nat} (h : ∀ vis i, vis <+: visit vis i) : ∀ (js vis : List Nat), vis <+: dfsL visit js vis
  | [], vis => List.prefix_refl _
  | j :: js, vis => by
    unfold dfsL
    refine List.IsPrefix.trans ?_ (dfsL_pre h js _)
    split
    · exact List.prefix_refl _
    · exact h vis j
theorem dfs_pre (N : Nat → List Nat) : ∀ f vis i, vis <+: dfs N f vis i
  | 0, _, _ => List.prefix_refl _
  | f + 1, vis, i => (List.prefix_append vis [i]).trans (dfsL_pre (dfs_pre N f) (N i) _)
/-- What is met is below the bound, and nothing is met twice. -/
def Fit (n : Nat) (l : List Nat) : Prop := l.Nodup ∧ ∀ x ∈ l, x < n
theorem Fit.snoc {n i : Nat} {l : List Nat} (h : Fit n l) (hi : i < n) (hn : i ∉ l) : Fit n (l ++ [i]) := by
  refine ⟨?_, fun x hx => ?_⟩
  · rw [List.nodup_append]
    exact ⟨h.1, by simp, fun a ha b hb => by simp at hb; subst hb; exact fun e => hn (e ▸ ha)⟩
  · simp at hx
    rcases hx with hx | rfl
    · exact h.2 x hx
    · exact hi
theorem dfsL_fit {n : Nat} {visit : List Nat → Nat → List Nat} (h : ∀ vis i, Fit n vis → i < n → i ∉ vis → Fit n (visit vis i)) : ∀ (js vis : List Nat), (∀ j ∈ js, j < n) → Fit n vis → Fit n (dfsL visit js vis)
  | [], _, _, hv => hv
  | j :: js, vis, hj, hv => by
    unfold dfsL
    refine dfsL_fit h js _ (fun x hx => hj x (by simp [hx])) ?_
    split
    · exact hv
    · rename_i hm
      exact h vis j hv (hj j (by simp)) hm
theorem dfs_fit {n : Nat} {N : Nat → List Nat} (hN : ∀ i, i < n → ∀ j ∈ N i, j < n) : ∀ f vis i, Fit n vis → i < n → i ∉ vis → Fit n (dfs N f vis i)
  | 0, _, _, hv, _, _ => hv
  | f + 1, _, i, hv, hi, hn => dfsL_fit (dfs_fit hN f) (N i) _ (hN i hi) (hv.snoc hi hn)
theorem dfsL_same {n k : Nat} {v1 v2 : List Nat → Nat → List Nat} (hf : ∀ vis i, Fit n vis → i < n → i ∉ vis → Fit n (v1 vis i)) (hp : ∀ vis i, vis <+: v1 vis i) (h : ∀ vis i, Fit n vis → i < n → i ∉ vis → k ≤ vis.length → v1 vis i = v2 vis i) :
    ∀ (js vis : List Nat), (∀ j ∈ js, j < n) → Fit n vis → k ≤ vis.length → dfsL v1 js vis = dfsL v2 js vis
  | [], _, _, _, _ => rfl
  | j :: js, vis, hj, hv, hk => by
    unfold dfsL
    by_cases hm : j ∈ vis
    · rw [if_pos hm, if_pos hm]
      exact dfsL_same hf hp h js vis (fun x hx => hj x (by simp [hx])) hv hk
    · rw [if_neg hm, if_neg hm, h vis j hv (hj j (by simp)) hm hk, ← h vis j hv (hj j (by simp)) hm hk]
      exact dfsL_same hf hp h js _ (fun x hx => hj x (by simp [hx])) (hf vis j hv (hj j (by simp)) hm) (Nat.le_trans hk (hp vis j).length_le)
/-- More steps than nodes change nothing. -/
theorem dfs_fuel {n : Nat} {N : Nat → List Nat} (hN : ∀ i, i < n → ∀ j ∈ N i, j < n) : ∀ f vis i, Fit n vis → i < n → i ∉ vis → n ≤ vis.length + f → dfs N (f + 1) vis i = dfs N f vis i
  | 0, vis, i, hv, hi, hn, hl => by
    have := nodup_room hv.1 hv.2 hi hn
    omega
  | f + 1, vis, i, hv, hi, hn, hl => by
    have e : dfs N (f + 1 + 1) vis i = dfsL (dfs N (f + 1)) (N i) (vis ++ [i]) := rfl
    have e2 : dfs N (f + 1) vis i = dfsL (dfs N f) (N i) (vis ++ [i]) := rfl
    rw [e, e2]
    exact dfsL_same (k := vis.length + 1) (dfs_fit hN (f + 1)) (dfs_pre N (f + 1)) (fun v j h1 h2 h3 h4 => dfs_fuel hN f v j h1 h2 h3 (by omega)) _ _ (hN i hi) (hv.snoc hi hn) (by simp)
theorem dfs_more {n : Nat} {N : Nat → List Nat} (hN : ∀ i, i < n → ∀ j ∈ N i, j < n) {vis : List Nat} {i : Nat} (hv : Fit n vis) (hi : i < n) (hn : i ∉ vis) : ∀ g f, n ≤ vis.length + f → dfs N (f + g) vis i = dfs N f vis i
  | 0, _, _ => rfl
  | g + 1, f, h => by
    rw [← Nat.add_assoc, dfs_fuel hN (f + g) vis i hv hi hn (by omega)]
    exact dfs_more hN hv hi hn g f h

/-! ### Other names -/
theorem dfsL_map {g : Nat → Nat} {D : Nat → Prop} (hinj : ∀ a b, D a → D b → g a = g b → a = b) {v1 v2 : List Nat → Nat → List Nat}
    (h : ∀ vis i, (∀ v ∈ vis, D v) → D i → v2 (vis.map g) (g i) = (v1 vis i).map g ∧ ∀ v ∈ v1 vis i, D v) :
    ∀ (js vis : List Nat), (∀ j ∈ js, D j) → (∀ v ∈ vis, D v) → dfsL v2 (js.map g) (vis.map g) = (dfsL v1 js vis).map g ∧ ∀ v ∈ dfsL v1 js vis, D v
  | [], vis, _, hv => ⟨rfl, hv⟩
  | j :: js, vis, hj, hv => by
    have hmem : g j ∈ vis.map g ↔ j ∈ vis := by
      constructor
      · intro hm
        obtain ⟨a, ha, e⟩ := List.mem_map.1 hm
        rw [← hinj a j (hv a ha) (hj j (by simp)) e]
        exact ha
      · exact fun hm => List.mem_map.2 ⟨j, hm, rfl⟩
    have hjs : ∀ x ∈ js, D x := fun x hx => hj x (by simp [hx])
    rw [List.map_cons]
    unfold dfsL
    by_cases hm : j ∈ vis
    · rw [if_pos hm, if_pos (hmem.2 hm)]
      exact dfsL_map hinj h js vis hjs hv
    · rw [if_neg hm, if_neg (fun e => hm (hmem.1 e))]
      obtain ⟨h1, h2⟩ := h vis j hv (hj j (by simp))
      rw [h1]
      exact dfsL_map hinj h js _ hjs h2
theorem dfs_map {g : Nat → Nat} {D : Nat → Prop} {N1 N2 : Nat → List Nat} (hinj : ∀ a b, D a → D b → g a = g b → a = b) (hN : ∀ a, D a → N2 (g a) = (N1 a).map g ∧ ∀ b ∈ N1 a, D b) :
    ∀ f vis i, (∀ v ∈ vis, D v) → D i → dfs N2 f (vis.map g) (g i) = (dfs N1 f vis i).map g ∧ ∀ v ∈ dfs N1 f vis i, D v
  | 0, vis, _, hv, _ => ⟨rfl, hv⟩
  | f + 1, vis, i, hv, hi => by
    obtain ⟨h1, h2⟩ := hN i hi
    have := dfsL_map hinj (fun v j a b => dfs_map hinj hN f v j a b) (N1 i) (vis ++ [i]) h2 (fun v hx => by
      simp at hx
      rcases hx with hx | rfl
      · exact hv v hx
      · exact hi)
    show dfsL (dfs N2 f) (N2 (g i)) (vis.map g ++ [g i]) = _ ∧ _
    rw [h1]
    simpa [dfs] using this

/-! ### Nodes that end -/
def meetL (meet : Nat × List Nat → Nat → Option (Nat × List Nat)) : List Nat → Nat × List Nat → Option (Nat × List Nat)
  | [], st => some st
  | j :: js, st => (if j = st.1 then meet st j else some st).bind fun st' => if j ∈ st'.2 then meetL meet js st' else none
/-- A node is met as the next one; all nodes behind it end; then it ends: how many are met, and which have ended. -/
def meetO (N : Nat → List Nat) : Nat → Nat × List Nat → Nat → Option (Nat × List Nat)
  | 0, _, _ => none
  | f + 1, st, i => (meetL (meetO N f) (N i) (st.1 + 1, st.2)).map fun st' => (st'.1, st'.2 ++ [i])
/-- Each node of the list stands behind those to which it leads. -/
def Topo (N : Nat → List Nat) (o : List Nat) : Prop := ∀ pre v suf, o = pre ++ v :: suf → ∀ j ∈ N v, j ∈ pre
theorem topo_nil (N : Nat → List Nat) : Topo N [] := fun pre v suf h => by simp at h
theorem topo_snoc {N : Nat → List Nat} {o : List Nat} {i : Nat} (h : Topo N o) (hi : ∀ j ∈ N i, j ∈ o) : Topo N (o ++ [i]) := by
  intro pre v suf e j hj
  rcases List.eq_nil_or_concat suf with rfl | ⟨suf', x, rfl⟩
  · obtain ⟨e1, e2⟩ := List.append_inj' e rfl
    simp at e2
    subst e2
    rw [← e1]
    exact hi j hj
  · have e' : o ++ [i] = (pre ++ v :: suf') ++ [x] := by rw [e]; simp
    obtain ⟨e1, -⟩ := List.append_inj' e' rfl
    exact h pre v suf' e1 j hj
/-- What is known when a node has been met and has ended. -/
structure Ended (N : Nat → List Nat) (m : Nat) (o : List Nat) (m' : Nat) (o' : List Nat) : Prop where
  up : m ≤ m'
  pre : o <+: o'
  below : ∀ v ∈ o', v < m'
  len : o'.length + m = o.length + m'
  topo : Topo N o'
  nodup : o'.Nodup
theorem range_snoc (m : Nat) : List.range m ++ [m] = List.range (m + 1) := by rw [List.range_succ]
theorem meetL_ended {N : Nat → List Nat} {i : Nat} {meet : Nat × List Nat → Nat → Option (Nat × List Nat)} {visit : List Nat → Nat → List Nat}
    (h : ∀ m o m' o', meet (m, o) m = some (m', o') → (∀ v ∈ o, v < m) → Topo N o → o.Nodup → Ended N m o m' o' ∧ visit (List.range m) m = List.range m' ∧ m < m' ∧ ∀ v ∈ o', v ∉ o → m ≤ v) :
    ∀ (js : List Nat) m o m' o', meetL meet js (m, o) = some (m', o') → i < m → (∀ v ∈ o, v < m) → i ∉ o → Topo N o → o.Nodup →
      Ended N m o m' o' ∧ dfsL visit js (List.range m) = List.range m' ∧ (∀ j ∈ js, j ∈ o') ∧ i ∉ o' ∧ ∀ v ∈ o', v ∉ o → m ≤ v
  | [], m, o, m', o', e, _, hb, hi, ht, hd => by
    simp [meetL] at e
    obtain ⟨rfl, rfl⟩ := e
    exact ⟨⟨Nat.le_refl _, List.prefix_refl _, hb, rfl, ht, hd⟩, rfl, by simp, hi, fun v hv hn => absurd hv hn⟩
  | j :: js, m, o, m', o', e, him, hb, hi, ht, hd => by
    unfold meetL at e
    by_cases hj : j = m
    · subst hj
      simp only [if_true] at e
      cases hm : meet (j, o) j with
      | none => rw [hm] at e; simp at e
      | some st =>
        obtain ⟨m1, o1⟩ := st
        rw [hm] at e
        simp only [Option.bind_some] at e
        by_cases hjo : j ∈ o1
        · rw [if_pos hjo] at e
          obtain ⟨h1, h2, h3, h4⟩ := h j o m1 o1 hm hb ht hd
          have hi1 : i ∉ o1 := fun hx => by
            have := h4 i hx hi
            omega
          obtain ⟨g1, g2, g3, g4, g5⟩ := meetL_ended h js m1 o1 m' o' e (by omega) h1.below hi1 h1.topo h1.nodup
          refine ⟨⟨by have := g1.up; omega, h1.pre.trans g1.pre, g1.below, by have := h1.len; have := g1.len; omega, g1.topo, g1.nodup⟩, ?_, ?_, g4, ?_⟩
          · unfold dfsL
            rw [if_neg (by simp), h2]
            exact g2
          · intro x hx
            rcases List.mem_cons.1 hx with rfl | hx
            · exact g1.pre.subset hjo
            · exact g3 x hx
          · intro v hv hn
            by_cases hv1 : v ∈ o1
            · exact h4 v hv1 hn
            · have := g5 v hv hv1
              omega
        · rw [if_neg hjo] at e
          cases e
    · rw [if_neg hj] at e
      simp only [Option.bind_some] at e
      by_cases hjo : j ∈ o
      · rw [if_pos hjo] at e
        obtain ⟨g1, g2, g3, g4, g5⟩ := meetL_ended h js m o m' o' e him hb hi ht hd
        refine ⟨g1, ?_, ?_, g4, g5⟩
        · unfold dfsL
          rw [if_pos (by simpa using hb j hjo)]
          exact g2
        · intro x hx
          rcases List.mem_cons.1 hx with rfl | hx
          · exact g1.pre.subset hjo
          · exact g3 x hx
      · rw [if_neg hjo] at e
        cases e
theorem meetO_ended (N : Nat → List Nat) : ∀ f m o m' o', meetO N f (m, o) m = some (m', o') → (∀ v ∈ o, v < m) → Topo N o → o.Nodup → Ended N m o m' o' ∧ dfs N f (List.range m) m = List.range m' ∧ m < m' ∧ ∀ v ∈ o', v ∉ o → m ≤ v
  | 0, _, _, _, _, e, _, _, _ => by simp [meetO] at e
  | f + 1, m, o, m', o', e, hb, ht, hd => by
    unfold meetO at e
    cases hm : meetL (meetO N f) (N m) (m + 1, o) with
    | none => rw [hm] at e; simp at e
    | some st =>
      obtain ⟨m1, o1⟩ := st
      rw [hm] at e
      simp at e
      obtain ⟨rfl, rfl⟩ := e
      have hmo : m ∉ o := fun h => by have := hb m h; omega
      obtain ⟨g1, g2, g3, g4, g5⟩ := meetL_ended (i := m) (meetO_ended N f) (N m) (m + 1) o m1 o1 hm (by omega) (fun v hv => by have := hb v hv; omega) hmo ht hd
      have hup := g1.up
      refine ⟨⟨by omega, g1.pre.trans (List.prefix_append _ _), ?_, ?_, topo_snoc g1.topo g3, ?_⟩, ?_, by omega, ?_⟩
      · intro v hv
        simp at hv
        rcases hv with hv | rfl
        · exact g1.below v hv
        · omega
      · have := g1.len
        simp
        omega
      · rw [List.nodup_append]
        exact ⟨g1.nodup, by simp, fun a ha b hb => by simp at hb; subst hb; exact fun e => g4 (e ▸ ha)⟩
      · show dfsL (dfs N f) (N m) (List.range m ++ [m]) = _
        rw [range_snoc]
        exact g2
      · intro v hv hn
        simp at hv
        rcases hv with hv | rfl
        · have := g5 v hv hn
          omega
        · exact Nat.le_refl _

/-! ### Nodes that are numbered as they are met, without a cycle, all end -/
theorem prefix_range {l : List Nat} {n : Nat} (h : l <+: List.range n) : l = List.range l.length := by
  rw [List.prefix_iff_eq_take.1 h, List.take_range]
  simp
theorem meetL_of {N : Nat → List Nat} {n i f : Nat} {r : Nat → Nat}
    (h : ∀ m o, dfs N f (List.range m) m <+: List.range n → m < n → n ≤ m + f → (∀ v, v < m → v ∈ o ∨ r m < r v) → ∃ m' o', meetO N f (m, o) m = some (m', o') ∧ dfs N f (List.range m) m = List.range m' ∧ m < m' ∧ (∀ v, v < m' → v ∈ o' ∨ v < m) ∧ ∀ v ∈ o, v ∈ o') :
    ∀ (js : List Nat) m o, dfsL (dfs N f) js (List.range m) <+: List.range n → n ≤ m + f → (∀ v, v < m → v ∈ o ∨ r i ≤ r v) → (∀ j ∈ js, j < n ∧ r j < r i) →
      ∃ m' o', meetL (meetO N f) js (m, o) = some (m', o') ∧ dfsL (dfs N f) js (List.range m) = List.range m' ∧ m ≤ m' ∧ (∀ v, v < m' → v ∈ o' ∨ v < m) ∧ ∀ v ∈ o, v ∈ o'
  | [], m, o, _, _, _, _ => ⟨m, o, rfl, rfl, Nat.le_refl _, fun _ h => .inr h, fun _ h => h⟩
  | j :: js, m, o, hp, hf, hv, hj => by
    obtain ⟨hjn, hjr⟩ := hj j (by simp)
    have hjs : ∀ x ∈ js, x < n ∧ r x < r i := fun x hx => hj x (by simp [hx])
    unfold dfsL at hp ⊢
    unfold meetL
    by_cases hjm : j < m
    · have hmem : j ∈ List.range m := by simpa using hjm
      rw [if_pos hmem] at hp ⊢
      have hjo : j ∈ o := by
        rcases hv j hjm with h1 | h1
        · exact h1
        · omega
      have hne : ¬ j = m := by omega
      simp only [if_neg hne, Option.bind_some, if_pos hjo]
      exact meetL_of h js m o hp hf hv hjs
    · have hmem : j ∉ List.range m := by simpa using hjm
      rw [if_neg hmem] at hp ⊢
      have hp1 : dfs N f (List.range m) j <+: List.range n := (dfsL_pre (dfs_pre N f) js _).trans hp
      obtain ⟨g, rfl⟩ : ∃ g, f = g + 1 := ⟨f - 1, by omega⟩
      have hp2 : List.range m ++ [j] <+: List.range n := (dfsL_pre (dfs_pre N g) (N j) _).trans hp1
      have hjm2 : j = m := by
        have h1 := prefix_range hp2
        simp only [List.length_append, List.length_range, List.length_cons, List.length_nil] at h1
        rw [List.range_succ] at h1
        simpa using (List.append_inj' h1 rfl).2
      subst hjm2
      obtain ⟨m1, o1, e1, e2, hlt, e3, e4⟩ := h j o hp1 hjn (by omega) (fun v hvj => by
        rcases hv v hvj with h1 | h1
        · exact .inl h1
        · exact .inr (by omega))
      have hjo : j ∈ o1 := by
        rcases e3 j hlt with h1 | h1
        · exact h1
        · omega
      simp only [if_true, e1, Option.bind_some, if_pos hjo]
      rw [e2] at hp ⊢
      obtain ⟨m2, o2, f1, f2, f3, f4, f5⟩ := meetL_of h js m1 o1 hp (by omega) (fun v hvm => by
        rcases e3 v hvm with h1 | h1
        · exact .inl h1
        · rcases hv v h1 with h2 | h2
          · exact .inl (e4 v h2)
          · exact .inr h2) hjs
      refine ⟨m2, o2, f1, f2, by omega, fun v hvm => ?_, fun v h1 => f5 v (e4 v h1)⟩
      rcases f4 v hvm with h1 | h1
      · exact .inl h1
      · rcases e3 v h1 with h2 | h2
        · exact .inl (f5 v h2)
        · exact .inr h2
theorem meetO_of {N : Nat → List Nat} {n : Nat} {r : Nat → Nat} (hN : ∀ i, i < n → ∀ j ∈ N i, j < n ∧ r j < r i) :
    ∀ f m o, dfs N f (List.range m) m <+: List.range n → m < n → n ≤ m + f → (∀ v, v < m → v ∈ o ∨ r m < r v) → ∃ m' o', meetO N f (m, o) m = some (m', o') ∧ dfs N f (List.range m) m = List.range m' ∧ m < m' ∧ (∀ v, v < m' → v ∈ o' ∨ v < m) ∧ ∀ v ∈ o, v ∈ o'
  | 0, _, _, _, hm, hf, _ => absurd hm (by omega)
  | f + 1, m, o, hp, hm, hf, hv => by
    unfold dfs at hp ⊢
    rw [range_snoc] at hp ⊢
    obtain ⟨m1, o1, e1, e2, e3, e4, e5⟩ := meetL_of (i := m) (r := r) (meetO_of hN f) (N m) (m + 1) o hp (by omega) (fun v hvm => by
      rcases Nat.lt_or_ge v m with h1 | h1
      · rcases hv v h1 with h2 | h2
        · exact .inl h2
        · exact .inr (by omega)
      · obtain rfl : v = m := by omega
        exact .inr (Nat.le_refl _)) (hN m hm)
    refine ⟨m1, o1 ++ [m], ?_, e2, by omega, fun v hvm => ?_, fun v hvo => by simp [e5 v hvo]⟩
    · unfold meetO
      rw [e1]
      rfl
    · rcases e4 v hvm with h1 | h1
      · simp [h1]
      · rcases Nat.lt_or_ge v m with h2 | h2
        · exact .inr h2
        · obtain rfl : v = m := by omega
          simp

/-! ### Each node but the first one is behind another one -/
theorem dfsL_parent {N : Nat → List Nat} {P : Nat → Prop} {visit : List Nat → Nat → List Nat} (h : ∀ vis i x, x ∈ visit vis i → x ∈ vis ∨ x = i ∨ P x) :
    ∀ (js vis : List Nat) (x : Nat), (∀ j ∈ js, P j) → x ∈ dfsL visit js vis → x ∈ vis ∨ P x
  | [], _, _, _, hx => .inl hx
  | j :: js, vis, x, hj, hx => by
    unfold dfsL at hx
    rcases dfsL_parent (N := N) h js _ x (fun y hy => hj y (by simp [hy])) hx with h1 | h1
    · split at h1
      · exact .inl h1
      · rcases h vis j x h1 with h2 | rfl | h2
        · exact .inl h2
        · exact .inr (hj x (by simp))
        · exact .inr h2
    · exact .inr h1
theorem dfs_parent (N : Nat → List Nat) : ∀ f vis i x, x ∈ dfs N f vis i → x ∈ vis ∨ x = i ∨ ∃ p, x ∈ N p
  | 0, _, _, _, hx => .inl hx
  | f + 1, vis, i, x, hx => by
    rcases dfsL_parent (N := N) (P := fun y => ∃ p, y ∈ N p) (dfs_parent N f) (N i) (vis ++ [i]) x (fun j hj => ⟨i, hj⟩) hx with h1 | h1
    · simp at h1
      rcases h1 with h1 | h1
      · exact .inl h1
      · exact .inr (.inl h1)
    · exact .inr (.inr h1)

end Go.Proofs.YtokfkofclpajfaaDoor

namespace Go.Proofs.YtokfkofclpajfaaDoor

/-- A graph: whether a node is final, and its letters with the nodes behind them. -/
structure Gph where
  F : Nat → Bool
  E : Nat → List (UInt8 × Nat)
def Gph.N (G : Gph) (i : Nat) : List Nat := (G.E i).map (·.2)
def Gph.L (G : Gph) (i : Nat) : List UInt8 := (G.E i).map (·.1)
/-- The strings along paths of at most k letters from a node on, in their order. -/
def Gph.W (G : Gph) : Nat → Nat → List (List UInt8)
  | 0, i => if G.F i = true then [[]] else []
  | k + 1, i => (if G.F i = true then [[]] else []) ++ (G.E i).flatMap fun e => (G.W k e.2).map (e.1 :: ·)
/-- No path from a node has r letters. -/
def Gph.okH (G : Gph) : Nat → Nat → Bool
  | 0, _ => false
  | r + 1, i => (G.E i).all fun e => G.okH r e.2
theorem Gph.okH_step {G : Gph} {r i : Nat} : G.okH (r + 1) i = true ↔ ∀ e ∈ G.E i, G.okH r e.2 = true := by
  show ((G.E i).all fun e => G.okH r e.2) = true ↔ _
  rw [List.all_eq_true]
theorem Gph.W_succ (G : Gph) (k i : Nat) : G.W (k + 1) i = (if G.F i = true then [[]] else []) ++ (G.E i).flatMap fun e => (G.W k e.2).map (e.1 :: ·) := rfl
theorem Gph.okH_mono {G : Gph} : ∀ {r i : Nat}, G.okH r i = true → G.okH (r + 1) i = true
  | 0, _, h => by cases h
  | r + 1, i, h => Gph.okH_step.2 fun e he => Gph.okH_mono (Gph.okH_step.1 h e he)
theorem Gph.okH_le {G : Gph} {r i : Nat} (h : G.okH r i = true) : ∀ g, G.okH (r + g) i = true
  | 0 => h
  | g + 1 => Gph.okH_mono (Gph.okH_le h g)
theorem flatMap_same {α β : Type} {l : List α} {f g : α → List β} (h : ∀ a ∈ l, f a = g a) : l.flatMap f = l.flatMap g := by
  induction l with
  | nil => rfl
  | cons a l ih =>
    rw [List.flatMap_cons, List.flatMap_cons, h a (by simp), ih (fun b hb => h b (by simp [hb]))]
theorem Gph.W_more {G : Gph} : ∀ {r i : Nat}, G.okH (r + 1) i = true → ∀ g, G.W (r + g) i = G.W r i
  | 0, i, h, g => by
    have hE : G.E i = [] := by
      cases hE : G.E i with
      | nil => rfl
      | cons e es => exact absurd (Gph.okH_step.1 h e (by rw [hE]; simp)) (by simp [Gph.okH])
    cases g with
    | zero => rfl
    | succ g =>
      show G.W (0 + g + 1) i = _
      rw [Gph.W_succ, hE]
      simp [Gph.W]
  | r + 1, i, h, g => by
    show G.W (r + 1 + g) i = _
    rw [show r + 1 + g = (r + g) + 1 by omega, Gph.W_succ, Gph.W_succ]
    congr 1
    exact flatMap_same fun e he => by rw [Gph.W_more (Gph.okH_step.1 h e he) g]
/-- Longest paths, as numbers: each one is one more than the greatest of those behind it. -/
def maxOf (h : Nat → Nat) (l : List Nat) : Nat := l.foldl (fun m j => max m (h j + 1)) 0
theorem foldl_max {h : Nat → Nat} : ∀ (l : List Nat) (m r : Nat), l.foldl (fun m j => max m (h j + 1)) m ≤ r ↔ m ≤ r ∧ ∀ j ∈ l, h j + 1 ≤ r
  | [], m, r => by simp
  | a :: l, m, r => by
    rw [List.foldl_cons, foldl_max l]
    constructor
    · rintro ⟨h1, h2⟩
      refine ⟨by omega, fun j hj => ?_⟩
      rcases List.mem_cons.1 hj with rfl | hj
      · omega
      · exact h2 j hj
    · rintro ⟨h1, h2⟩
      have := h2 a (by simp)
      exact ⟨by omega, fun j hj => h2 j (by simp [hj])⟩
theorem maxOf_le {h : Nat → Nat} {l : List Nat} {r : Nat} : maxOf h l ≤ r ↔ ∀ j ∈ l, h j + 1 ≤ r := by
  unfold maxOf
  rw [foldl_max]
  exact ⟨fun x => x.2, fun x => ⟨Nat.zero_le _, x⟩⟩
theorem Gph.okH_len {G : Gph} {n : Nat} (hN : ∀ i, i < n → ∀ j ∈ G.N i, j < n) {h : Nat → Nat} (hh : ∀ i, i < n → h i = maxOf h (G.N i)) : ∀ {r i : Nat}, i < n → (G.okH (r + 1) i = true ↔ h i ≤ r)
  | 0, i, hi => by
    rw [Gph.okH_step, hh i hi, maxOf_le]
    constructor
    · intro h1 j hj
      obtain ⟨e, he, rfl⟩ := List.mem_map.1 hj
      exact absurd (h1 e he) (by simp [Gph.okH])
    · intro h1 e he
      have := h1 e.2 (List.mem_map.2 ⟨e, he, rfl⟩)
      omega
  | r + 1, i, hi => by
    rw [Gph.okH_step, hh i hi, maxOf_le]
    constructor
    · intro h1 j hj
      obtain ⟨e, he, rfl⟩ := List.mem_map.1 hj
      have := (Gph.okH_len hN hh (hN i hi _ hj)).1 (h1 e he)
      omega
    · intro h1 e he
      have hm : e.2 ∈ G.N i := List.mem_map.2 ⟨e, he, rfl⟩
      have := h1 e.2 hm
      exact (Gph.okH_len hN hh (hN i hi _ hm)).2 (by omega)
/-- Numbers of strings: each one is the sum of those behind it, one more where the node is final. -/
def sumOf (c : Nat → Nat) (l : List Nat) : Nat := l.foldl (fun m j => m + c j) 0
theorem foldl_add {c : Nat → Nat} : ∀ (l : List Nat) (m : Nat), l.foldl (fun m j => m + c j) m = m + l.foldl (fun m j => m + c j) 0
  | [], m => rfl
  | a :: l, m => by
    rw [List.foldl_cons, List.foldl_cons, foldl_add l (m + c a), foldl_add l (0 + c a)]
    omega
theorem sumOf_cons {c : Nat → Nat} (a : Nat) (l : List Nat) : sumOf c (a :: l) = c a + sumOf c l := by
  unfold sumOf
  rw [List.foldl_cons, foldl_add]
  omega
theorem Gph.W_count {G : Gph} {n : Nat} (hN : ∀ i, i < n → ∀ j ∈ G.N i, j < n) {c : Nat → Nat} (hc : ∀ i, i < n → c i = (if G.F i = true then 1 else 0) + sumOf c (G.N i)) : ∀ {r i : Nat}, i < n → G.okH (r + 1) i = true → (G.W r i).length = c i
  | 0, i, hi, h => by
    have hE : G.E i = [] := by
      cases hE : G.E i with
      | nil => rfl
      | cons e es => exact absurd (Gph.okH_step.1 h e (by rw [hE]; simp)) (by simp [Gph.okH])
    rw [hc i hi]
    unfold Gph.W Gph.N
    rw [hE]
    by_cases hf : G.F i = true <;> simp [hf, sumOf]
  | r + 1, i, hi, h => by
    have h1 := Gph.okH_step.1 h
    rw [hc i hi, Gph.W_succ, List.length_append]
    have e1 : (if G.F i = true then [([] : List UInt8)] else []).length = (if G.F i = true then 1 else 0) := by by_cases hf : G.F i = true <;> simp [hf]
    rw [e1]
    congr 1
    have hn := hN i hi
    unfold Gph.N at hn ⊢
    revert h1 hn
    generalize G.E i = es
    intro h1 hn
    induction es with
    | nil => rfl
    | cons e es ih =>
      rw [List.flatMap_cons, List.length_append, List.length_map, List.map_cons, sumOf_cons, Gph.W_count hN hc (hn e.2 (by simp)) (h1 e (by simp))]
      rw [ih (fun x hx => h1 x (by simp [hx])) (fun x hx => hn x (by simp at hx ⊢; right; exact hx))]

/-! ### Nodes made anew -/
abbrev Ent := Bool × List UInt8 × List Nat
/-- A node is added, unless there is an equal one; its place. -/
def put (st : List Ent) (e : Ent) : List Ent × Nat := if e ∈ st then (st, st.idxOf e) else (st ++ [e], st.length)
def bldL {α : Type} (bld : List Ent → α → List Ent × Nat) : List α → List Ent → List Nat → List Ent × List Nat
  | [], st, acc => (st, acc)
  | j :: js, st, acc => bldL bld js (bld st j).1 (acc ++ [(bld st j).2])
/-- Along a graph. -/
def Gph.bldN (G : Gph) : Nat → List Ent → Nat → List Ent × Nat
  | 0, st, _ => (st, 0)
  | f + 1, st, i => put (bldL (G.bldN f) (G.N i) st []).1 (G.F i, G.L i, (bldL (G.bldN f) (G.N i) st []).2)
/-- Strings that are not empty, by their first letters. -/
def grp : List (List UInt8) → List (UInt8 × List (List UInt8))
  | [] => []
  | [] :: ws => grp ws
  | (c :: t) :: ws => match grp ws with
    | [] => [(c, [t])]
    | (c', ts) :: gs => if c' = c then (c, t :: ts) :: gs else (c, [t]) :: (c', ts) :: gs
theorem grp_cons (c : UInt8) (t : List UInt8) (ws : List (List UInt8)) : grp ((c :: t) :: ws) = (match grp ws with
    | [] => [(c, [t])]
    | (c', ts) :: gs => if c' = c then (c, t :: ts) :: gs else (c, [t]) :: (c', ts) :: gs) := rfl
/-- Whether the first string is empty; the other ones. -/
def isFin (l : List (List UInt8)) : Bool := l.head? == some []
def restOf (l : List (List UInt8)) : List (List UInt8) := if isFin l = true then l.tail else l
/-- Along ordered strings. -/
def bldW : Nat → List Ent → List (List UInt8) → List Ent × Nat
  | 0, st, _ => (st, 0)
  | f + 1, st, l => put (bldL (bldW f) ((grp (restOf l)).map (·.2)) st []).1 (isFin l, (grp (restOf l)).map (·.1), (bldL (bldW f) ((grp (restOf l)).map (·.2)) st []).2)
theorem bldL_same {α β : Type} {b1 : List Ent → α → List Ent × Nat} {b2 : List Ent → β → List Ent × Nat} {g : α → β} : ∀ (l : List α), (∀ a ∈ l, ∀ st, b1 st a = b2 st (g a)) → ∀ st acc, bldL b1 l st acc = bldL b2 (l.map g) st acc
  | [], _, _, _ => rfl
  | a :: l, h, st, acc => by
    rw [List.map_cons]
    unfold bldL
    rw [h a (by simp) st]
    exact bldL_same l (fun x hx => h x (by simp [hx])) _ _
theorem grp_run {c : UInt8} {ws : List (List UInt8)} (hc : ∀ c' ts gs, grp ws = (c', ts) :: gs → c' ≠ c) : ∀ {ts : List (List UInt8)}, ts ≠ [] → grp (ts.map (c :: ·) ++ ws) = (c, ts) :: grp ws
  | [], h => absurd rfl h
  | [t], _ => by
    show grp ((c :: t) :: ws) = _
    rw [grp_cons]
    cases hg : grp ws with
    | nil => rfl
    | cons p gs =>
      obtain ⟨c', ts⟩ := p
      simp only
      rw [if_neg (hc c' ts gs hg)]
  | t :: t2 :: ts, _ => by
    have ih := grp_run hc (ts := t2 :: ts) (by simp)
    show grp ((c :: t) :: ((t2 :: ts).map (c :: ·) ++ ws)) = _
    rw [grp_cons, ih]
    simp
/-- The strings behind a node, by their first letters: those behind the nodes behind it. -/
theorem grp_flat {w : Nat → List (List UInt8)} : ∀ (es : List (UInt8 × Nat)), (∀ e ∈ es, w e.2 ≠ []) → (es.map (·.1)).Pairwise (· < ·) → grp (es.flatMap fun e => (w e.2).map (e.1 :: ·)) = es.map fun e => (e.1, w e.2)
  | [], _, _ => rfl
  | e :: es, hw, hp => by
    rw [List.map_cons, List.pairwise_cons] at hp
    have ih := grp_flat es (fun x hx => hw x (by simp [hx])) hp.2
    rw [List.flatMap_cons, grp_run ?_ (hw e (by simp)), ih]
    · rfl
    · intro c' ts gs hg
      rw [ih] at hg
      cases es with
      | nil => simp at hg
      | cons x es =>
        simp at hg
        have := hp.1 x.1 (by simp)
        intro e2
        rw [← hg.1.1] at e2
        rw [e2] at this
        exact absurd this (UInt8.lt_irrefl _)
theorem Gph.W_fin {G : Gph} : ∀ (k i : Nat), isFin (G.W k i) = G.F i ∧ restOf (G.W k i) = (match k with | 0 => [] | k + 1 => (G.E i).flatMap fun e => (G.W k e.2).map (e.1 :: ·))
  | 0, i => by
    unfold restOf isFin Gph.W
    cases hf : G.F i <;> simp
  | k + 1, i => by
    have hne : ∀ w ∈ (G.E i).flatMap (fun e => (G.W k e.2).map (e.1 :: ·)), w ≠ [] := by
      intro w hw
      obtain ⟨e, -, hw⟩ := List.mem_flatMap.1 hw
      obtain ⟨t, -, rfl⟩ := List.mem_map.1 hw
      simp
    have hf : isFin (G.W (k + 1) i) = G.F i := by
      unfold isFin
      rw [Gph.W_succ]
      cases hF : G.F i
      · simp only [Bool.false_eq_true, if_false, List.nil_append]
        cases hl : (G.E i).flatMap (fun e => (G.W k e.2).map (e.1 :: ·)) with
        | nil => rfl
        | cons a l =>
          have := hne a (by rw [hl]; simp)
          simp
          exact this
      · simp
    refine ⟨hf, ?_⟩
    unfold restOf
    rw [hf, Gph.W_succ]
    cases hF : G.F i <;> simp
theorem Gph.bldW_bldN {G : Gph} {n : Nat} (hN : ∀ i, i < n → ∀ j ∈ G.N i, j < n) (hL : ∀ i, i < n → (G.L i).Pairwise (· < ·)) (hw : ∀ i, i < n → ∀ j ∈ G.N i, ∀ r, G.okH (r + 1) j = true → G.W r j ≠ []) :
    ∀ (r i : Nat) (st : List Ent), i < n → G.okH (r + 1) i = true → bldW (r + 1) st (G.W r i) = G.bldN (r + 1) st i
  | 0, i, st, _, h => by
    have hE : G.E i = [] := by
      cases hE : G.E i with
      | nil => rfl
      | cons e es => exact absurd (Gph.okH_step.1 h e (by rw [hE]; simp)) (by simp [Gph.okH])
    obtain ⟨h1, h2⟩ := G.W_fin 0 i
    unfold bldW Gph.bldN
    rw [h1, h2]
    unfold Gph.N Gph.L
    rw [hE]
    rfl
  | r + 1, i, st, hi, h => by
    obtain ⟨h1, h2⟩ := G.W_fin (r + 1) i
    have hh := Gph.okH_step.1 h
    have hg : grp (restOf (G.W (r + 1) i)) = (G.E i).map fun e => (e.1, G.W r e.2) := by
      rw [h2]
      exact grp_flat (w := G.W r) (G.E i) (fun e he => hw i hi e.2 (List.mem_map.2 ⟨e, he, rfl⟩) r (hh e he)) (hL i hi)
    have e1 : (grp (restOf (G.W (r + 1) i))).map (·.1) = G.L i := by
      rw [hg, List.map_map]
      rfl
    have e2 : (grp (restOf (G.W (r + 1) i))).map (·.2) = (G.N i).map (G.W r) := by
      rw [hg, List.map_map]
      unfold Gph.N
      rw [List.map_map]
      rfl
    have e3 := bldL_same (b1 := G.bldN (r + 1)) (b2 := bldW (r + 1)) (g := G.W r) (G.N i) (fun j hj st' => by
      obtain ⟨e, he, rfl⟩ := List.mem_map.1 hj
      exact (Gph.bldW_bldN hN hL hw r e.2 st' (hN i hi _ hj) (hh e he)).symm) st []
    show put (bldL (bldW (r + 1)) ((grp (restOf (G.W (r + 1) i))).map (·.2)) st []).1 (isFin (G.W (r + 1) i), (grp (restOf (G.W (r + 1) i))).map (·.1), (bldL (bldW (r + 1)) ((grp (restOf (G.W (r + 1) i))).map (·.2)) st []).2) = _
    rw [h1, e1, e2, ← e3]
    rfl

end Go.Proofs.YtokfkofclpajfaaDoor

namespace Go.Proofs.YtokfkofclpajfaaDoor

theorem idx_lt {l : List Nat} {x : Nat} (h : x ∈ l) : l.idxOf x < l.length := List.idxOf_lt_length_of_mem h
theorem idx_get {α : Type} [BEq α] [LawfulBEq α] {l : List α} {x : α} (h : x ∈ l) : l[l.idxOf x]? = some x := by
  have h1 : l.idxOf x < l.length := List.idxOf_lt_length_of_mem h
  rw [List.getElem?_eq_getElem h1, List.getElem_idxOf h1]
theorem idx_inj {l : List Nat} {a b : Nat} (ha : a ∈ l) (hb : b ∈ l) (h : l.idxOf a = l.idxOf b) : a = b := by
  have h1 := idx_get ha
  rw [h, idx_get hb] at h1
  injection h1 with h1
  exact h1.symm
theorem idx_of {α : Type} [BEq α] [LawfulBEq α] {l : List α} {e : α} {p : Nat} (h : l[p]? = some e) (hu : ∀ q, l[q]? = some e → q = p) : l.idxOf e = p := hu _ (idx_get (List.mem_of_getElem? h))
theorem nodup_get {l : List Nat} (hd : l.Nodup) {p q x : Nat} (hp : l[p]? = some x) (hq : l[q]? = some x) : p = q := by
  obtain ⟨h1, e1⟩ := List.getElem?_eq_some_iff.1 hp
  obtain ⟨h2, e2⟩ := List.getElem?_eq_some_iff.1 hq
  rcases Nat.lt_trichotomy p q with h | h | h
  · exact absurd (e1.trans e2.symm) ((List.pairwise_iff_getElem.1 hd) p q h1 h2 h)
  · exact h
  · exact absurd (e2.trans e1.symm) ((List.pairwise_iff_getElem.1 hd) q p h2 h1 h)
theorem nodup_map_inj {l : List Nat} {g : Nat → Nat} (hd : l.Nodup) (hg : ∀ a ∈ l, ∀ b ∈ l, g a = g b → a = b) : (l.map g).Nodup := by
  unfold List.Nodup at hd ⊢
  rw [List.pairwise_map]
  exact hd.imp_of_mem fun ha hb hne e => hne (hg _ ha _ hb e)
theorem idx_nodup {l : List Nat} (hd : l.Nodup) {p x : Nat} (hp : l[p]? = some x) : l.idxOf x = p := idx_of hp fun _ hq => nodup_get hd hq hp
theorem idx_prefix {l l' : List Nat} (h : l <+: l') {x : Nat} (hx : x ∈ l) : l'.idxOf x = l.idxOf x := by
  obtain ⟨t, rfl⟩ := h
  rw [List.idxOf_append, if_pos hx]

/-- The store holds the nodes ph, each with the places of those behind it. -/
structure Holds (G : Gph) (n : Nat) (st : List Ent) (ph : List Nat) : Prop where
  len : st.length = ph.length
  fit : Fit n ph
  ent : ∀ (p v : Nat), ph[p]? = some v → st[p]? = some (G.F v, G.L v, (G.N v).map (ph.idxOf ·)) ∧ ∀ j ∈ G.N v, j ∈ ph
/-- No two nodes are the same. -/
def Gph.Differ (G : Gph) (n : Nat) : Prop := ∀ i j, i < n → j < n → G.F i = G.F j → G.L i = G.L j → G.N i = G.N j → i = j
theorem map_idx_inj {l : List Nat} : ∀ {a b : List Nat}, (∀ x ∈ a, x ∈ l) → (∀ x ∈ b, x ∈ l) → a.map (l.idxOf ·) = b.map (l.idxOf ·) → a = b
  | [], [], _, _, _ => rfl
  | [], _ :: _, _, _, h => by simp at h
  | _ :: _, [], _, _, h => by simp at h
  | x :: a, y :: b, ha, hb, h => by
    simp only [List.map_cons, List.cons.injEq] at h
    rw [idx_inj (ha x (by simp)) (hb y (by simp)) h.1, map_idx_inj (fun z hz => ha z (by simp [hz])) (fun z hz => hb z (by simp [hz])) h.2]
theorem Holds.found {G : Gph} {n : Nat} {st : List Ent} {ph : List Nat} (h : Holds G n st ph) (hdis : G.Differ n) {i : Nat} (hi : i < n) (hc : ∀ j ∈ G.N i, j ∈ ph) {q : Nat} (hq : st[q]? = some (G.F i, G.L i, (G.N i).map (ph.idxOf ·))) : ph[q]? = some i := by
  have hl : q < ph.length := by
    have := (List.getElem?_eq_some_iff.1 hq).1
    rw [h.len] at this
    exact this
  obtain ⟨h1, h2⟩ := h.ent q ph[q] (List.getElem?_eq_getElem hl)
  rw [h1] at hq
  simp only [Option.some.injEq, Prod.mk.injEq] at hq
  obtain ⟨e1, e2, e3⟩ := hq
  have := hdis ph[q] i (h.fit.2 _ (List.getElem_mem hl)) hi e1 e2 (map_idx_inj h2 hc e3)
  rw [List.getElem?_eq_getElem hl, this]
theorem put_holds {G : Gph} {n : Nat} {st : List Ent} {ph : List Nat} (h : Holds G n st ph) (hdis : G.Differ n) {i : Nat} (hi : i < n) (hc : ∀ j ∈ G.N i, j ∈ ph) :
    ∃ ph', ph <+: ph' ∧ Holds G n (put st (G.F i, G.L i, (G.N i).map (ph.idxOf ·))).1 ph' ∧ i ∈ ph' ∧ (put st (G.F i, G.L i, (G.N i).map (ph.idxOf ·))).2 = ph'.idxOf i := by
  by_cases hm : i ∈ ph
  · have h1 := (h.ent _ _ (idx_get hm)).1
    have hmem := List.mem_of_getElem? h1
    unfold put
    rw [if_pos hmem]
    refine ⟨ph, List.prefix_refl _, h, hm, ?_⟩
    exact idx_of h1 fun q hq => (idx_nodup h.fit.1 (h.found hdis hi hc hq)).symm
  · have hmem : (G.F i, G.L i, (G.N i).map (ph.idxOf ·)) ∉ st := by
      intro hx
      obtain ⟨q, hq⟩ := List.mem_iff_getElem?.1 hx
      exact hm (List.mem_of_getElem? (h.found hdis hi hc hq))
    unfold put
    rw [if_neg hmem]
    have hpre : ph <+: ph ++ [i] := List.prefix_append _ _
    refine ⟨ph ++ [i], hpre, ⟨by simp [h.len], h.fit.snoc hi hm, ?_⟩, by simp, ?_⟩
    · intro p v hv
      rcases Nat.lt_or_ge p ph.length with hp | hp
      · rw [List.getElem?_append_left hp] at hv
        obtain ⟨h1, h2⟩ := h.ent p v hv
        rw [List.getElem?_append_left (by rw [h.len]; exact hp), h1]
        refine ⟨?_, fun j hj => hpre.subset (h2 j hj)⟩
        congr 3
        exact List.map_congr_left fun j hj => (idx_prefix hpre (h2 j hj)).symm
      · rw [List.getElem?_append_right hp] at hv
        have hp0 : p - ph.length = 0 := by
          rcases Nat.eq_zero_or_pos (p - ph.length) with h0 | h0
          · exact h0
          · rw [List.getElem?_eq_none (by simp; omega)] at hv
            cases hv
        rw [hp0] at hv
        simp at hv
        subst hv
        rw [List.getElem?_append_right (by rw [h.len]; exact hp), h.len, hp0]
        refine ⟨?_, fun j hj => hpre.subset (hc j hj)⟩
        simp only [List.getElem?_cons_zero]
        congr 3
        exact List.map_congr_left fun j hj => (idx_prefix hpre (hc j hj)).symm
    · show st.length = _
      rw [h.len, List.idxOf_append, if_neg hm]
      simp
theorem bldL_holds {G : Gph} {n : Nat} {bld : List Ent → Nat → List Ent × Nat} {D : Nat → Prop} (hb : ∀ st ph i, D i → Holds G n st ph → ∃ ph', ph <+: ph' ∧ Holds G n (bld st i).1 ph' ∧ i ∈ ph' ∧ (bld st i).2 = ph'.idxOf i) :
    ∀ (js : List Nat) st ph acc, (∀ j ∈ js, D j) → Holds G n st ph → ∃ ph', ph <+: ph' ∧ Holds G n (bldL bld js st acc).1 ph' ∧ (∀ j ∈ js, j ∈ ph') ∧ (bldL bld js st acc).2 = acc ++ js.map (ph'.idxOf ·)
  | [], _, ph, acc, _, h => ⟨ph, List.prefix_refl _, h, by simp, by simp [bldL]⟩
  | j :: js, st, ph, acc, hj, h => by
    obtain ⟨p1, a1, a2, a3, a4⟩ := hb st ph j (hj j (by simp)) h
    obtain ⟨p2, b1, b2, b3, b4⟩ := bldL_holds hb js (bld st j).1 p1 (acc ++ [(bld st j).2]) (fun x hx => hj x (by simp [hx])) a2
    refine ⟨p2, a1.trans b1, b2, ?_, ?_⟩
    · intro x hx
      rcases List.mem_cons.1 hx with rfl | hx
      · exact b1.subset a3
      · exact b3 x hx
    · show (bldL bld js (bld st j).1 (acc ++ [(bld st j).2])).2 = _
      rw [b4, a4, List.map_cons, idx_prefix b1 a3]
      simp
theorem bldN_holds {G : Gph} {n : Nat} (hN : ∀ i, i < n → ∀ j ∈ G.N i, j < n) (hdis : G.Differ n) : ∀ (r : Nat) st ph i, (i < n ∧ G.okH r i = true) → Holds G n st ph → ∃ ph', ph <+: ph' ∧ Holds G n (G.bldN r st i).1 ph' ∧ i ∈ ph' ∧ (G.bldN r st i).2 = ph'.idxOf i
  | 0, _, _, _, hi, _ => by simp [Gph.okH] at hi
  | r + 1, st, ph, i, hi, h => by
    obtain ⟨p1, a1, a2, a3, a4⟩ := bldL_holds (D := fun j => j < n ∧ G.okH r j = true) (bldN_holds hN hdis r) (G.N i) st ph [] (fun j hj => by
      obtain ⟨e, he, rfl⟩ := List.mem_map.1 hj
      exact ⟨hN i hi.1 _ hj, Gph.okH_step.1 hi.2 e he⟩) h
    obtain ⟨p2, b1, b2, b3, b4⟩ := put_holds a2 hdis hi.1 a3
    refine ⟨p2, a1.trans b1, ?_, b3, ?_⟩
    · unfold Gph.bldN
      rw [a4, List.nil_append]
      exact b2
    · unfold Gph.bldN
      rw [a4, List.nil_append]
      exact b4

/-! ### Numbers in the order in which nodes are met -/
def stD : Ent := (false, [], [])
def stN (st : List Ent) (p : Nat) : List Nat := (st.getD p stD).2.2
def place (ord : List Nat) (p : Nat) : Int := if p ∈ ord then (ord.idxOf p : Int) else -1
def ordA (st : List Ent) (root : Nat) : List Nat := dfs (stN st) st.length [] root
def numA (st : List Ent) (root : Nat) : List (Bool × List UInt8 × List Int) := (ordA st root).map fun p => ((st.getD p stD).1, (st.getD p stD).2.1, (stN st p).map (place (ordA st root)))
theorem range_le {n m : Nat} {g : Nat → Nat} (hg : ∀ a b, a < n → b < n → g a = g b → a = b) (hm : ∀ a, a < n → g a < m) : n ≤ m := by
  have h1 : ((List.range n).map g).Nodup := nodup_map_inj List.nodup_range fun a ha b hb e => hg a b (by simpa using ha) (by simpa using hb) e
  have h2 := nodup_len m _ h1 (fun x hx => by
    obtain ⟨a, ha, rfl⟩ := List.mem_map.1 hx
    exact hm a (by simpa using ha))
  simpa using h2
/-- Nodes that differ, are numbered as they are met and lead to no long path are made anew as they are. -/
theorem made_anew {G : Gph} {n r : Nat} (hN : ∀ i, i < n → ∀ j ∈ G.N i, j < n) (hdis : G.Differ n) (h0 : 0 < n) (hok : G.okH r 0 = true) (hpre : dfs G.N n [] 0 = List.range n) :
    numA (G.bldN r [] 0).1 (G.bldN r [] 0).2 = (List.range n).map fun v => (G.F v, G.L v, (G.N v).map Int.ofNat) := by
  obtain ⟨ph, -, h2, h3, h4⟩ := bldN_holds hN hdis r [] [] 0 ⟨h0, hok⟩ ⟨rfl, ⟨List.nodup_nil, by simp⟩, by simp⟩
  rw [h4]
  generalize (G.bldN r [] 0).1 = st at h2 ⊢
  have hst : ∀ v ∈ ph, st.getD (ph.idxOf v) stD = (G.F v, G.L v, (G.N v).map (ph.idxOf ·)) := fun v hv => by
    rw [List.getD_eq_getElem?_getD, (h2.ent _ _ (idx_get hv)).1]
    rfl
  have hedge : ∀ a, a ∈ ph → stN st (ph.idxOf a) = (G.N a).map (ph.idxOf ·) ∧ ∀ b ∈ G.N a, b ∈ ph := fun a ha => by
    unfold stN
    rw [hst a ha]
    exact ⟨rfl, (h2.ent _ _ (idx_get ha)).2⟩
  have hmap := fun f => dfs_map (g := (ph.idxOf ·)) (D := (· ∈ ph)) (N1 := G.N) (N2 := stN st) (fun a b ha hb e => idx_inj ha hb e) hedge f [] 0 (by simp) h3
  have hall : ∀ v, v < n → v ∈ ph := fun v hv => (hmap n).2 v (by rw [hpre]; simpa using hv)
  have hle : n ≤ st.length := by
    rw [h2.len]
    exact range_le (g := (ph.idxOf ·)) (fun a b ha hb e => idx_inj (hall a ha) (hall b hb) e) (fun a ha => idx_lt (hall a ha))
  have hord : ordA st (ph.idxOf 0) = (List.range n).map (ph.idxOf ·) := by
    unfold ordA
    obtain ⟨g, hg⟩ : ∃ g, st.length = n + g := ⟨st.length - n, by omega⟩
    have h5 := (hmap st.length).1
    rw [hg, dfs_more hN ⟨List.nodup_nil, by simp⟩ h0 (by simp) g n (by simp), hpre, ← hg] at h5
    exact h5
  have hplace : ∀ v, v < n → place (ordA st (ph.idxOf 0)) (ph.idxOf v) = (v : Int) := fun v hv => by
    have hget : ((List.range n).map (ph.idxOf ·))[v]? = some (ph.idxOf v) := by simp [hv]
    have hmem : ph.idxOf v ∈ ordA st (ph.idxOf 0) := by rw [hord]; exact List.mem_of_getElem? hget
    unfold place
    rw [if_pos hmem, hord]
    congr 1
    refine idx_of hget fun q hq => ?_
    have hqn : q < n := by
      have := (List.getElem?_eq_some_iff.1 hq).1
      simpa using this
    have hget2 : ((List.range n).map (ph.idxOf ·))[q]? = some (ph.idxOf q) := by simp [hqn]
    rw [hget2] at hq
    exact idx_inj (hall q hqn) (hall v hv) (by simpa using hq)
  unfold numA
  conv => lhs; rw [show (ordA st (ph.idxOf 0)).map (fun p => ((st.getD p stD).1, (st.getD p stD).2.1, (stN st p).map (place (ordA st (ph.idxOf 0))))) = ((List.range n).map (ph.idxOf ·)).map (fun p => ((st.getD p stD).1, (st.getD p stD).2.1, (stN st p).map (place (ordA st (ph.idxOf 0))))) by rw [← hord]]
  rw [List.map_map]
  refine List.map_congr_left fun v hv => ?_
  have hvn : v < n := by simpa using hv
  have hvp := hall v hvn
  simp only [Function.comp]
  rw [(hedge v hvp).1, hst v hvp, List.map_map]
  simp only [Prod.mk.injEq, true_and]
  exact List.map_congr_left fun j hj => hplace j (hN v hvn j hj)

end Go.Proofs.YtokfkofclpajfaaDoor

namespace Go.Proofs.YtokfkofclpajfaaDoor

/-- No two entries are equal, and each one leads to earlier ones alone. -/
structure Good (st : List Ent) : Prop where
  nodup : st.Nodup
  down : ∀ (p : Nat) (e : Ent), st[p]? = some e → ∀ j ∈ e.2.2, j < p
theorem put_good {st : List Ent} {e : Ent} (h : Good st) (he : ∀ j ∈ e.2.2, j < st.length) : Good (put st e).1 ∧ (put st e).2 < (put st e).1.length ∧ st <+: (put st e).1 := by
  by_cases hm : e ∈ st
  · unfold put
    rw [if_pos hm]
    exact ⟨h, List.idxOf_lt_length_of_mem hm, List.prefix_refl _⟩
  · unfold put
    rw [if_neg hm]
    refine ⟨⟨?_, fun p x hx j hj => ?_⟩, by simp, List.prefix_append _ _⟩
    · rw [List.nodup_append]
      exact ⟨h.nodup, by simp, fun a ha b hb => by simp at hb; subst hb; exact fun e => hm (e ▸ ha)⟩
    · rcases Nat.lt_or_ge p st.length with hp | hp
      · rw [List.getElem?_append_left hp] at hx
        exact h.down p x hx j hj
      · rw [List.getElem?_append_right hp] at hx
        have hp0 : p - st.length = 0 := by
          rcases Nat.eq_zero_or_pos (p - st.length) with h0 | h0
          · exact h0
          · rw [List.getElem?_eq_none (by simp; omega)] at hx
            cases hx
        rw [hp0] at hx
        simp at hx
        subst hx
        have := he j hj
        omega
theorem bldL_good {α : Type} {bld : List Ent → α → List Ent × Nat} {D : α → Prop} (hb : ∀ st a, D a → Good st → Good (bld st a).1 ∧ (bld st a).2 < (bld st a).1.length ∧ st <+: (bld st a).1) :
    ∀ (l : List α) st acc, (∀ a ∈ l, D a) → Good st → (∀ x ∈ acc, x < st.length) → Good (bldL bld l st acc).1 ∧ (∀ x ∈ (bldL bld l st acc).2, x < (bldL bld l st acc).1.length) ∧ st <+: (bldL bld l st acc).1
  | [], st, acc, _, h, ha => ⟨h, ha, List.prefix_refl _⟩
  | a :: l, st, acc, hd, h, ha => by
    obtain ⟨h1, h2, h3⟩ := hb st a (hd a (by simp)) h
    have hl := h3.length_le
    obtain ⟨g1, g2, g3⟩ := bldL_good hb l (bld st a).1 (acc ++ [(bld st a).2]) (fun x hx => hd x (by simp [hx])) h1 (fun x hx => by
      simp at hx
      rcases hx with hx | rfl
      · have := ha x hx; omega
      · exact h2)
    exact ⟨g1, g2, h3.trans g3⟩
theorem grp_mem : ∀ (l : List (List UInt8)) (c : UInt8) (ts : List (List UInt8)), (c, ts) ∈ grp l → ts ≠ [] ∧ ∀ t ∈ ts, (c :: t) ∈ l
  | [], _, _, h => by simp [grp] at h
  | [] :: ws, c, ts, h => by
    obtain ⟨h1, h2⟩ := grp_mem ws c ts h
    exact ⟨h1, fun t ht => by simp [h2 t ht]⟩
  | (d :: u) :: ws, c, ts, h => by
    rw [grp_cons] at h
    cases hg : grp ws with
    | nil =>
      rw [hg] at h
      simp at h
      obtain ⟨rfl, rfl⟩ := h
      exact ⟨by simp, fun t ht => by simp at ht; simp [ht]⟩
    | cons p gs =>
      obtain ⟨c', ts'⟩ := p
      rw [hg] at h
      simp only at h
      by_cases hc : c' = d
      · rw [if_pos hc] at h
        rcases List.mem_cons.1 h with h | h
        · simp only [Prod.mk.injEq] at h
          obtain ⟨rfl, rfl⟩ := h
          refine ⟨by simp, fun t ht => ?_⟩
          rcases List.mem_cons.1 ht with rfl | ht
          · simp
          · have := (grp_mem ws c' ts' (by rw [hg]; simp)).2 t ht
            rw [hc] at this
            simp [this]
        · obtain ⟨h1, h2⟩ := grp_mem ws c ts (by rw [hg]; simp [h])
          exact ⟨h1, fun t ht => by simp [h2 t ht]⟩
      · rw [if_neg hc] at h
        rcases List.mem_cons.1 h with h | h
        · simp only [Prod.mk.injEq] at h
          obtain ⟨rfl, rfl⟩ := h
          exact ⟨by simp, fun t ht => by simp at ht; simp [ht]⟩
        · obtain ⟨h1, h2⟩ := grp_mem ws c ts (by rw [hg]; exact h)
          exact ⟨h1, fun t ht => by simp [h2 t ht]⟩
theorem restOf_mem {l : List (List UInt8)} {w : List UInt8} (h : w ∈ restOf l) : w ∈ l := by
  unfold restOf at h
  split at h
  · exact List.mem_of_mem_tail h
  · exact h
theorem bldW_good : ∀ (f : Nat) st l, (0 < f ∧ ∀ w ∈ l, w.length < f) → Good st → Good (bldW f st l).1 ∧ (bldW f st l).2 < (bldW f st l).1.length ∧ st <+: (bldW f st l).1
  | 0, _, _, h, _ => by omega
  | f + 1, st, l, h, hg => by
    obtain ⟨h1, h2, h3⟩ := bldL_good (D := fun (ts : List (List UInt8)) => 0 < f ∧ ∀ w ∈ ts, w.length < f) (bldW_good f) ((grp (restOf l)).map (·.2)) st [] (fun ts hts => by
      obtain ⟨p, hp, rfl⟩ := List.mem_map.1 hts
      obtain ⟨g1, g2⟩ := grp_mem _ p.1 p.2 hp
      have hb : ∀ w ∈ p.2, w.length < f := fun w hw => by
        have := h.2 _ (restOf_mem (g2 w hw))
        simp at this
        omega
      refine ⟨?_, hb⟩
      cases hts2 : p.2 with
      | nil => exact absurd hts2 g1
      | cons w ws =>
        have := hb w (by rw [hts2]; simp)
        omega) hg (by simp)
    obtain ⟨k1, k2, k3⟩ := put_good (e := (isFin l, (grp (restOf l)).map (·.1), (bldL (bldW f) ((grp (restOf l)).map (·.2)) st []).2)) h1 h2
    exact ⟨k1, k2, h3.trans k3⟩
theorem Gph.W_len {G : Gph} : ∀ (k i : Nat) (w : List UInt8), w ∈ G.W k i → w.length ≤ k
  | 0, i, w, h => by
    unfold Gph.W at h
    split at h
    · simp at h; subst h; exact Nat.le_refl _
    · simp at h
  | k + 1, i, w, h => by
    rw [Gph.W_succ] at h
    rcases List.mem_append.1 h with h | h
    · split at h
      · simp at h; subst h; exact Nat.zero_le _
      · simp at h
    · obtain ⟨e, -, hw⟩ := List.mem_flatMap.1 h
      obtain ⟨t, ht, rfl⟩ := List.mem_map.1 hw
      have := Gph.W_len k e.2 t ht
      simp
      exact this
theorem stN_at {st : List Ent} {p : Nat} (h : p < st.length) : st[p]? = some (st.getD p stD) := by
  rw [List.getD_eq_getElem?_getD, List.getElem?_eq_getElem h]
  rfl
/-- The nodes that are made are numbered as they are met, without a cycle, and differ. -/
theorem made_good {G : Gph} {n root : Nat} {st : List Ent} {Z : Nat → List Int} (hg : Good st) (hr : root < st.length) (h0 : 0 < n)
    (hZ : ∀ v, v < n → G.N v = (Z v).map Int.toNat ∧ ∀ z ∈ Z v, 0 ≤ z ∧ z < n) (hnum : numA st root = (List.range n).map fun v => (G.F v, G.L v, Z v)) :
    G.Differ n ∧ dfs G.N n [] 0 = List.range n ∧ ∃ r : Nat → Nat, ∀ i, i < n → ∀ j ∈ G.N i, j < n ∧ r j < r i := by
  obtain ⟨ord, hord⟩ : ∃ ord, ordA st root = ord := ⟨_, rfl⟩
  have hN2 : ∀ p, p < st.length → ∀ j ∈ stN st p, j < p := fun p hp j hj => hg.down p _ (stN_at hp) j hj
  have hfit : Fit st.length ord := by
    rw [← hord]
    exact dfs_fit (fun p hp j hj => Nat.lt_trans (hN2 p hp j hj) hp) _ _ _ ⟨List.nodup_nil, by simp⟩ hr (by simp)
  unfold numA at hnum
  rw [hord] at hnum
  have hlen : ord.length = n := by
    have := congrArg List.length hnum
    simpa using this
  have hat : ∀ m p, ord[m]? = some p → m < n ∧ (st.getD p stD).1 = G.F m ∧ (st.getD p stD).2.1 = G.L m ∧ (stN st p).map (place ord) = Z m := fun m p hp => by
    have hm : m < n := by rw [← hlen]; exact (List.getElem?_eq_some_iff.1 hp).1
    have := congrArg (·[m]?) hnum
    simp [hp, hm] at this
    exact ⟨hm, this⟩
  have hin : ∀ m p, ord[m]? = some p → ∀ b ∈ stN st p, b ∈ ord := fun m p hp b hb => by
    obtain ⟨hm, -, -, hz⟩ := hat m p hp
    have hb2 : place ord b ∈ Z m := by rw [← hz]; exact List.mem_map.2 ⟨b, hb, rfl⟩
    have := ((hZ m hm).2 _ hb2).1
    unfold place at this
    split at this
    · assumption
    · omega
  have hNm : ∀ m p, ord[m]? = some p → G.N m = (stN st p).map (ord.idxOf ·) := fun m p hp => by
    obtain ⟨hm, -, -, hz⟩ := hat m p hp
    rw [(hZ m hm).1, ← hz, List.map_map]
    refine List.map_congr_left fun b hb => ?_
    simp only [Function.comp]
    unfold place
    rw [if_pos (hin m p hp b hb)]
    simp
  have hget : ∀ m, m < n → ∃ p, ord[m]? = some p := fun m hm => ⟨_, List.getElem?_eq_getElem (by rw [hlen]; exact hm)⟩
  have hroot : ord[0]? = some root := by
    rw [← hord]
    unfold ordA
    obtain ⟨k, hk⟩ : ∃ k, st.length = k + 1 := ⟨st.length - 1, by omega⟩
    rw [hk]
    obtain ⟨t, ht⟩ := dfsL_pre (dfs_pre (stN st) k) (stN st root) ([] ++ [root])
    show (dfsL (dfs (stN st) k) (stN st root) ([] ++ [root]))[0]? = _
    rw [← ht]
    rfl
  have hrange : ∀ i, i < n → ∀ j ∈ G.N i, j < n := fun i hi j hj => by
    rw [(hZ i hi).1] at hj
    obtain ⟨z, hz, rfl⟩ := List.mem_map.1 hj
    have := (hZ i hi).2 z hz
    omega
  refine ⟨?_, ?_, fun m => ord.getD m 0, ?_⟩
  · intro i j hi hj e1 e2 e3
    obtain ⟨p, hp⟩ := hget i hi
    obtain ⟨q, hq⟩ := hget j hj
    obtain ⟨-, p1, p2, -⟩ := hat i p hp
    obtain ⟨-, q1, q2, -⟩ := hat j q hq
    rw [hNm i p hp, hNm j q hq] at e3
    have e4 := map_idx_inj (hin i p hp) (hin j q hq) e3
    have hpl := hfit.2 p (List.mem_of_getElem? hp)
    have hql := hfit.2 q (List.mem_of_getElem? hq)
    have heq : st.getD p stD = st.getD q stD := by
      have a1 : (st.getD p stD).1 = (st.getD q stD).1 := by rw [p1, q1, e1]
      have a2 : (st.getD p stD).2.1 = (st.getD q stD).2.1 := by rw [p2, q2, e2]
      have a3 : (st.getD p stD).2.2 = (st.getD q stD).2.2 := e4
      exact Prod.ext a1 (Prod.ext a2 a3)
    have hpq : p = q := by
      have b1 := stN_at hpl
      have b2 := stN_at hql
      rw [← heq] at b2
      obtain ⟨h1, c1⟩ := List.getElem?_eq_some_iff.1 b1
      obtain ⟨h2, c2⟩ := List.getElem?_eq_some_iff.1 b2
      rcases Nat.lt_trichotomy p q with h | h | h
      · exact absurd (c1.trans c2.symm) ((List.pairwise_iff_getElem.1 hg.nodup) p q h1 h2 h)
      · exact h
      · exact absurd (c2.trans c1.symm) ((List.pairwise_iff_getElem.1 hg.nodup) q p h2 h1 h)
    subst hpq
    exact nodup_get hfit.1 hp hq
  · have hmap := dfs_map (g := (ord.idxOf ·)) (D := (· ∈ ord)) (N1 := stN st) (N2 := G.N) (fun a b ha hb e => idx_inj ha hb e) (fun a ha => ⟨hNm _ a (idx_get ha), hin _ a (idx_get ha)⟩) st.length [] root (by simp) (List.mem_of_getElem? hroot)
    have e0 : ord.idxOf root = 0 := idx_nodup hfit.1 hroot
    have e1 : dfs (stN st) st.length [] root = ord := hord
    rw [e1, e0] at hmap
    have e2 : ord.map (ord.idxOf ·) = List.range n := by
      refine List.ext_getElem? fun m => ?_
      rcases Nat.lt_or_ge m n with hm | hm
      · obtain ⟨p, hp⟩ := hget m hm
        rw [List.getElem?_map, hp]
        simp [hm, idx_nodup hfit.1 hp]
      · rw [List.getElem?_eq_none (by simp; omega), List.getElem?_eq_none (by simp; omega)]
    have hle : n ≤ st.length := by rw [← hlen]; exact nodup_len _ _ hfit.1 hfit.2
    obtain ⟨k, hk⟩ : ∃ k, st.length = n + k := ⟨st.length - n, by omega⟩
    have h5 := hmap.1
    rw [hk, e2] at h5
    rw [← dfs_more hrange ⟨List.nodup_nil, by simp⟩ h0 (by simp) k n (by simp)]
    exact h5
  · intro i hi j hj
    refine ⟨hrange i hi j hj, ?_⟩
    obtain ⟨p, hp⟩ := hget i hi
    rw [hNm i p hp] at hj
    obtain ⟨b, hb, rfl⟩ := List.mem_map.1 hj
    have hbo := hin i p hp b hb
    show ord.getD (ord.idxOf b) 0 < ord.getD i 0
    rw [List.getD_eq_getElem?_getD, idx_get hbo, List.getD_eq_getElem?_getD, hp]
    exact hN2 p (hfit.2 p (List.mem_of_getElem? hp)) b hb

end Go.Proofs.YtokfkofclpajfaaDoor

namespace Go.Proofs.YtokfkofclpajfaaDoor

/-- A byte of forms. -/
def formB (c : UInt8) : Bool := c == 62 || smallB (c.toNat : Int)
/-- The nodes as a graph. -/
def gphD (xs : List Nod) : Gph := { F := fun i => (nodG xs i).f, E := fun i => (nodG xs i).ls.data.toList.zip ((nodG xs i).ns.map Int.toNat) }
structure ShpN (n : Nat) (x : Nod) : Prop where
  form : ∀ c ∈ x.ls.data.toList, formB c = true
  rise : x.ls.data.toList.Pairwise (· < ·)
  len : x.ls.size = x.ns.length
  next : ∀ z ∈ x.ns, 0 ≤ z ∧ z < n
structure Shp (xs : List Nod) : Prop where
  pos : 0 < xs.length
  len : xs.length ≤ 3000
  node : ∀ i, i < xs.length → ShpN xs.length (nodG xs i)
theorem list_size (s : ByteArray) : s.data.toList.length = s.size := by rw [Array.length_toList]; rfl
theorem Shp.L {xs : List Nod} (h : Shp xs) {i : Nat} (hi : i < xs.length) : (gphD xs).L i = (nodG xs i).ls.data.toList := by
  have := (h.node i hi).len
  unfold Gph.L gphD
  simp only
  rw [List.map_fst_zip]
  rw [List.length_map, list_size]
  omega
theorem Shp.N {xs : List Nod} (h : Shp xs) {i : Nat} (hi : i < xs.length) : (gphD xs).N i = (nodG xs i).ns.map Int.toNat := by
  have := (h.node i hi).len
  unfold Gph.N gphD
  simp only
  rw [List.map_snd_zip]
  rw [List.length_map, list_size]
  omega
theorem Shp.in {xs : List Nod} (h : Shp xs) : ∀ i, i < xs.length → ∀ j ∈ (gphD xs).N i, j < xs.length := by
  intro i hi j hj
  rw [h.N hi] at hj
  obtain ⟨z, hz, rfl⟩ := List.mem_map.1 hj
  have := (h.node i hi).next z hz
  omega
/-- What makes an automaton valid. -/
structure DawgOk (xs : List Nod) : Prop where
  shp : Shp xs
  first : (nodG xs 0).f = false
  differ : (gphD xs).Differ xs.length
  order : ∃ o, meetO (gphD xs).N xs.length (0, []) 0 = some (xs.length, o)
  short : (gphD xs).okH 14 0 = true
  useful : ∀ i, 0 < i → i < xs.length → (gphD xs).W 13 i ≠ []
  few : ((gphD xs).W 13 0).length ≤ 3000
noncomputable def okDw (xs : List Nod) : Bool := @decide (DawgOk xs) (Classical.propDecidable _)
theorem okDw_yes {xs : List Nod} (h : DawgOk xs) : okDw xs = true := by unfold okDw; exact @decide_eq_true _ (Classical.propDecidable _) h
theorem okDw_no {xs : List Nod} (h : ¬ DawgOk xs) : okDw xs = false := by unfold okDw; exact @decide_eq_false _ (Classical.propDecidable _) h
theorem okDw_of {xs : List Nod} (h : okDw xs = true) : DawgOk xs := by unfold okDw at h; exact @of_decide_eq_true _ (Classical.propDecidable _) h
def contD (x : Nod) : Bool × List UInt8 × List Int := (x.f, x.ls.data.toList, x.ns)
theorem nodG_map {β : Type} (f : Nod → β) (xs : List Nod) : xs.map f = (List.range xs.length).map fun v => f (nodG xs v) := by
  refine List.ext_getElem? fun m => ?_
  rcases Nat.lt_or_ge m xs.length with hm | hm
  · rw [List.getElem?_map, List.getElem?_map, List.getElem?_eq_getElem hm, List.getElem?_range hm]
    simp [nodG, List.getD_eq_getElem?_getD, hm]
  · rw [List.getElem?_eq_none (by simp; omega), List.getElem?_eq_none (by simp; omega)]
theorem DawgOk.range {xs : List Nod} (h : DawgOk xs) : dfs (gphD xs).N xs.length [] 0 = List.range xs.length := by
  obtain ⟨o, ho⟩ := h.order
  exact (meetO_ended (gphD xs).N xs.length 0 [] xs.length o ho (by simp) (topo_nil _) List.nodup_nil).2.1
/-- What holds of the first node, and of what is behind a node of which it holds, holds of all nodes. -/
theorem DawgOk.all {xs : List Nod} (h : DawgOk xs) {D : Nat → Prop} (h0 : D 0) (hD : ∀ i, D i → ∀ j ∈ (gphD xs).N i, D j) {i : Nat} (hi : i < xs.length) : D i := by
  have := (dfs_map (g := id) (D := D) (N1 := (gphD xs).N) (N2 := (gphD xs).N) (fun a b _ _ e => e) (fun a ha => ⟨by simp, hD a ha⟩) xs.length [] 0 (by simp) h0).2
  exact this i (by rw [h.range]; simpa using hi)
theorem DawgOk.short_all {xs : List Nod} (h : DawgOk xs) {i : Nat} (hi : i < xs.length) : (gphD xs).okH 14 i = true :=
  h.all (D := fun i => (gphD xs).okH 14 i = true) h.short (fun i hi j hj => by
    obtain ⟨e, he, rfl⟩ := List.mem_map.1 hj
    exact Gph.okH_mono (Gph.okH_step.1 hi e he)) hi
/-- No node leads to the first one. -/
theorem DawgOk.root {xs : List Nod} (h : DawgOk xs) {i : Nat} (hi : i < xs.length) : 0 ∉ (gphD xs).N i := by
  obtain ⟨o, ho⟩ := h.order
  have hE := (meetO_ended (gphD xs).N xs.length 0 [] xs.length o ho (by simp) (topo_nil _) List.nodup_nil).1
  obtain ⟨k, hk⟩ : ∃ k, xs.length = k + 1 := ⟨xs.length - 1, by have := h.shp.pos; omega⟩
  have hlast : ∃ t, o = t ++ [0] := by
    rw [hk] at ho
    unfold meetO at ho
    cases hm : meetL (meetO (gphD xs).N k) ((gphD xs).N 0) (0 + 1, []) with
    | none => rw [hm] at ho; simp at ho
    | some st =>
      rw [hm] at ho
      simp at ho
      exact ⟨st.2, ho.2.symm⟩
  obtain ⟨t, rfl⟩ := hlast
  have hlen := hE.len
  simp only [List.length_append, List.length_cons, List.length_nil, Nat.add_zero, Nat.zero_add] at hlen
  have hmem : ∀ v, v < xs.length → v ∈ t ++ [0] := by
    intro v hv
    by_cases hm : v ∈ t ++ [0]
    · exact hm
    · have := nodup_room hE.nodup hE.below hv hm
      simp at this
      omega
  intro h0
  have hin := hmem i hi
  have ht : 0 ∉ t := by
    have := hE.nodup
    rw [List.nodup_append] at this
    exact fun hx => this.2.2 0 hx 0 (by simp) rfl
  rcases List.mem_append.1 hin with hin | hin
  · obtain ⟨pre, suf, e⟩ := List.append_of_mem hin
    have := hE.topo pre i (suf ++ [0]) (by rw [e]; simp) 0 h0
    exact ht (by rw [e]; simp [this])
  · simp at hin
    subst hin
    exact ht (hE.topo t 0 [] rfl 0 h0)
theorem DawgOk.behind {xs : List Nod} (h : DawgOk xs) : ∀ i, i < xs.length → ∀ j ∈ (gphD xs).N i, ∀ r, (gphD xs).okH (r + 1) j = true → (gphD xs).W r j ≠ [] := by
  intro i hi j hj r hr
  have hjn := h.shp.in i hi j hj
  have hj0 : 0 < j := by
    rcases Nat.eq_zero_or_pos j with h0 | h0
    · rw [h0] at hj
      exact absurd hj (h.root hi)
    · exact h0
  have hu := h.useful j hj0 hjn
  rcases Nat.le_total r 13 with h1 | h1
  · obtain ⟨g, hg⟩ : ∃ g, 13 = r + g := ⟨13 - r, by omega⟩
    rw [hg, Gph.W_more hr g] at hu
    exact hu
  · obtain ⟨g, hg⟩ : ∃ g, r = 13 + g := ⟨r - 13, by omega⟩
    rw [hg, Gph.W_more (h.short_all hjn) g]
    exact hu
/-- A valid automaton is made anew from its strings. -/
theorem DawgOk.made {xs : List Nod} (h : DawgOk xs) : numA (bldW 14 [] ((gphD xs).W 13 0)).1 (bldW 14 [] ((gphD xs).W 13 0)).2 = xs.map contD := by
  have hL : ∀ i, i < xs.length → ((gphD xs).L i).Pairwise (· < ·) := fun i hi => by rw [h.shp.L hi]; exact (h.shp.node i hi).rise
  rw [Gph.bldW_bldN h.shp.in hL h.behind 13 0 [] h.shp.pos h.short, made_anew h.shp.in h.differ h.shp.pos h.short h.range, nodG_map]
  refine List.map_congr_left fun v hv => ?_
  have hvn : v < xs.length := by simpa using hv
  unfold contD
  simp only [Prod.mk.injEq]
  refine ⟨rfl, h.shp.L hvn, ?_⟩
  rw [h.shp.N hvn, List.map_map]
  conv => rhs; rw [← List.map_id (nodG xs v).ns]
  refine List.map_congr_left fun z hz => ?_
  have := ((h.shp.node v hvn).next z hz).1
  simp only [Function.comp, id_eq]
  show ((z.toNat : Nat) : Int) = z
  omega
/-- What is made anew from its strings is valid. -/
theorem dawg_back {xs : List Nod} (hs : Shp xs) (hf : (nodG xs 0).f = false) (hu : ∀ i, 0 < i → i < xs.length → ∃ k, (gphD xs).W k i ≠ []) (hok : (gphD xs).okH 14 0 = true) (hn : ((gphD xs).W 13 0).length ≤ 3000)
    (hm : numA (bldW 14 [] ((gphD xs).W 13 0)).1 (bldW 14 [] ((gphD xs).W 13 0)).2 = xs.map contD) : DawgOk xs := by
  obtain ⟨g1, g2, -⟩ := bldW_good 14 [] ((gphD xs).W 13 0) ⟨by omega, fun w hw => by have := Gph.W_len 13 0 w hw; omega⟩ ⟨List.nodup_nil, by simp⟩
  have hnum : numA (bldW 14 [] ((gphD xs).W 13 0)).1 (bldW 14 [] ((gphD xs).W 13 0)).2 = (List.range xs.length).map fun v => ((gphD xs).F v, (gphD xs).L v, (nodG xs v).ns) := by
    rw [hm, nodG_map]
    refine List.map_congr_left fun v hv => ?_
    have hvn : v < xs.length := by simpa using hv
    unfold contD
    rw [hs.L hvn]
    rfl
  obtain ⟨d1, d2, r, hr⟩ := made_good (G := gphD xs) g1 g2 hs.pos (fun v hv => ⟨hs.N hv, (hs.node v hv).next⟩) hnum
  obtain ⟨m', o', e1, e2, -, -, -⟩ := meetO_of (r := r) hr xs.length 0 [] (by show dfs (gphD xs).N xs.length [] 0 <+: _; rw [d2]; exact List.prefix_refl _) hs.pos (by omega) (fun v hv => by omega)
  have e3 : m' = xs.length := by
    have h1 : dfs (gphD xs).N xs.length [] 0 = List.range m' := e2
    rw [d2] at h1
    have := congrArg List.length h1
    simpa using this.symm
  rw [e3] at e1
  have hshort : ∀ i, i < xs.length → (gphD xs).okH 14 i = true := fun i hi => by
    have := (dfs_map (g := id) (D := fun i => (gphD xs).okH 14 i = true) (N1 := (gphD xs).N) (N2 := (gphD xs).N) (fun a b _ _ e => e) (fun a ha => ⟨by simp, fun j hj => by
      obtain ⟨e, he, rfl⟩ := List.mem_map.1 hj
      exact Gph.okH_mono (Gph.okH_step.1 ha e he)⟩) xs.length [] 0 (by simp) hok).2
    exact this i (by rw [d2]; simpa using hi)
  refine ⟨hs, hf, d1, ⟨o', e1⟩, hok, fun i h0 hi => ?_, hn⟩
  obtain ⟨k, hk⟩ := hu i h0 hi
  have hsi := hshort i hi
  rcases Nat.le_total k 13 with h1 | h1
  · intro he
    have hsub : ∀ (k i : Nat) (w : List UInt8), w ∈ (gphD xs).W k i → w ∈ (gphD xs).W (k + 1) i := by
      intro k
      induction k with
      | zero =>
        intro i w hw
        rw [Gph.W_succ]
        exact List.mem_append_left _ hw
      | succ k ih =>
        intro i w hw
        rw [Gph.W_succ] at hw ⊢
        rcases List.mem_append.1 hw with hw | hw
        · exact List.mem_append_left _ hw
        · refine List.mem_append_right _ ?_
          obtain ⟨e, hee, hw⟩ := List.mem_flatMap.1 hw
          obtain ⟨t, ht, rfl⟩ := List.mem_map.1 hw
          exact List.mem_flatMap.2 ⟨e, hee, List.mem_map.2 ⟨t, ih e.2 t ht, rfl⟩⟩
    have hup : ∀ g, ∀ w ∈ (gphD xs).W k i, w ∈ (gphD xs).W (k + g) i := by
      intro g
      induction g with
      | zero => exact fun w hw => hw
      | succ g ih => exact fun w hw => hsub (k + g) i w (ih w hw)
    cases hw : (gphD xs).W k i with
    | nil => exact hk hw
    | cons w ws =>
      have := hup (13 - k) w (by rw [hw]; simp)
      rw [show k + (13 - k) = 13 by omega, he] at this
      simp at this
  · obtain ⟨g, rfl⟩ : ∃ g, k = 13 + g := ⟨k - 13, by omega⟩
    rw [Gph.W_more hsi g] at hk
    exact hk

end Go.Proofs.YtokfkofclpajfaaDoor
