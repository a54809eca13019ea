/-
  Plain facts on automata: how many strings there are behind a node, and that these numbers are small.
  Plain facts on automata: longest paths along an order, step by step; nodes that are met one after the other.
-/
import Derived.Test.YtokfkofclpajfaaDoorVA
namespace Go.Proofs.YtokfkofclpajfaaDoor

/-- How many strings lead from a node to a final one. -/
def Gph.cnt (G : Gph) (i : Nat) : Nat := (G.W 13 i).length
theorem Gph.cnt_eq {G : Gph} {i : Nat} (h : G.okH 14 i = true) : G.cnt i = (if G.F i = true then 1 else 0) + sumOf G.cnt (G.N i) := by
  have h1 := Gph.okH_step.1 h
  unfold Gph.cnt
  rw [Gph.W_succ, List.length_append]
  have e1 : (if G.F i = true then [([] : List UInt8)] else []).length = (if G.F i = true then 1 else 0) := by by_cases hf : G.F i = true <;> simp [hf]
  rw [e1]
  congr 1
  unfold Gph.N
  revert h1
  generalize G.E i = es
  intro h1
  induction es with
  | nil => rfl
  | cons e es ih =>
    rw [List.flatMap_cons, List.length_append, List.length_map, List.map_cons, sumOf_cons, ih (fun x hx => h1 x (by simp [hx]))]
    have h2 : G.W 13 e.2 = G.W 12 e.2 := Gph.W_more (r := 12) (h1 e (by simp)) 1
    show (G.W 12 e.2).length + _ = (G.W 13 e.2).length + _
    rw [h2]
theorem flat_bound {α β : Type} {f : α → List β} {b : Nat} : ∀ (l : List α), (∀ a ∈ l, (f a).length ≤ b) → (l.flatMap f).length ≤ l.length * b
  | [], _ => Nat.zero_le _
  | a :: l, h => by
    rw [List.flatMap_cons, List.length_append, List.length_cons, Nat.succ_mul]
    have h1 := flat_bound l fun x hx => h x (by simp [hx])
    have h2 := h a (by simp)
    omega
theorem Gph.W_bound {G : Gph} {n : Nat} (hN : ∀ i, i < n → ∀ j ∈ G.N i, j < n) (hE : ∀ i, i < n → (G.E i).length ≤ 27) : ∀ (r i : Nat), i < n → (G.W r i).length ≤ 28 ^ r
  | 0, i, _ => by
    unfold Gph.W
    split <;> simp
  | r + 1, i, hi => by
    rw [Gph.W_succ, List.length_append]
    have h1 := flat_bound (f := fun e : UInt8 × Nat => (G.W r e.2).map (e.1 :: ·)) (b := 28 ^ r) (G.E i) (fun e he => by
      rw [List.length_map]
      exact Gph.W_bound hN hE r e.2 (hN i hi _ (List.mem_map_of_mem he)))
    have h2 : (if G.F i = true then [([] : List UInt8)] else []).length ≤ 1 := by split <;> simp
    have h3 := Nat.mul_le_mul_right (28 ^ r) (hE i hi)
    have h4 : 1 ≤ 28 ^ r := Nat.pow_pos (by omega)
    have h5 : 28 ^ (r + 1) = 27 * 28 ^ r + 28 ^ r := by rw [Nat.pow_succ]; omega
    omega
/-- Bytes of forms are few. -/
def formN (c : UInt8) : Nat := if c = 62 then 0 else c.toNat - 96
theorem form_cases {c : UInt8} (h : formB c = true) : c = 62 ∨ (97 ≤ c.toNat ∧ c.toNat ≤ 122) := by
  unfold formB at h
  rw [Bool.or_eq_true] at h
  rcases h with h | h
  · exact .inl (by simpa using h)
  · have := smallB_iff.1 h
    exact .inr (by omega)
theorem formN_lt {c : UInt8} (h : formB c = true) : formN c < 27 := by
  unfold formN
  rcases form_cases h with h1 | h1
  · rw [if_pos h1]; omega
  · split <;> omega
theorem formN_inj {a b : UInt8} (ha : formB a = true) (hb : formB b = true) (h : formN a = formN b) : a = b := by
  unfold formN at h
  rcases form_cases ha with h1 | h1 <;> rcases form_cases hb with h2 | h2
  · rw [h1, h2]
  · subst h1
    have : b ≠ 62 := fun e => by subst e; simp at h2
    rw [if_pos rfl, if_neg this] at h
    omega
  · subst h2
    have : a ≠ 62 := fun e => by subst e; simp at h1
    rw [if_pos rfl, if_neg this] at h
    omega
  · have h3 : a ≠ 62 := fun e => by subst e; simp at h1
    have h4 : b ≠ 62 := fun e => by subst e; simp at h2
    rw [if_neg h3, if_neg h4] at h
    exact UInt8.toNat_inj.1 (by omega)
theorem forms_few {l : List UInt8} (hf : ∀ c ∈ l, formB c = true) (hr : l.Pairwise (· < ·)) : l.length ≤ 27 := by
  have h1 : (l.map formN).Nodup := by
    unfold List.Nodup
    rw [List.pairwise_map]
    exact hr.imp_of_mem fun ha hb hlt e => by
      rw [formN_inj (hf _ ha) (hf _ hb) e] at hlt
      exact absurd hlt (UInt8.lt_irrefl _)
  have h2 := nodup_len 27 (l.map formN) h1 (fun x hx => by
    obtain ⟨c, hc, rfl⟩ := List.mem_map.1 hx
    exact formN_lt (hf c hc))
  simpa using h2
theorem Shp.few {xs : List Nod} (h : Shp xs) {i : Nat} (hi : i < xs.length) : ((gphD xs).E i).length ≤ 27 := by
  have h1 := forms_few (h.node i hi).form (h.node i hi).rise
  show ((nodG xs i).ls.data.toList.zip ((nodG xs i).ns.map Int.toNat)).length ≤ 27
  rw [List.length_zip]
  omega
theorem Shp.cnt_small {xs : List Nod} (h : Shp xs) {i : Nat} (hi : i < xs.length) : (gphD xs).cnt i ≤ 6502111422497947648 := by
  have := Gph.W_bound h.in (fun j hj => h.few hj) 13 i hi
  exact Nat.le_trans this (by decide)
end Go.Proofs.YtokfkofclpajfaaDoor

namespace Go.Proofs.YtokfkofclpajfaaDoor

/-! ### Longest paths -/
def setF (h : Nat → Nat) (i v : Nat) : Nat → Nat := fun j => if j = i then v else h j
theorem setF_same (h : Nat → Nat) (i v : Nat) : setF h i v i = v := by unfold setF; rw [if_pos rfl]
theorem setF_other {h : Nat → Nat} {i v j : Nat} (hj : j ≠ i) : setF h i v j = h j := by unfold setF; rw [if_neg hj]
theorem foldl_maxC {h g : Nat → Nat} : ∀ (l : List Nat) (m : Nat), (∀ j ∈ l, h j = g j) → l.foldl (fun m j => max m (h j + 1)) m = l.foldl (fun m j => max m (g j + 1)) m
  | [], _, _ => rfl
  | a :: l, m, e => by
    rw [List.foldl_cons, List.foldl_cons, e a (by simp)]
    exact foldl_maxC l _ fun j hj => e j (by simp [hj])
theorem maxOf_congr {h g : Nat → Nat} {l : List Nat} (e : ∀ j ∈ l, h j = g j) : maxOf h l = maxOf g l := foldl_maxC l 0 e
theorem maxOf_snoc (h : Nat → Nat) (l : List Nat) (j : Nat) : maxOf h (l ++ [j]) = max (maxOf h l) (h j + 1) := by unfold maxOf; rw [List.foldl_append]; rfl
structure LenSt (N : Nat → List Nat) (pre : List Nat) (h : Nat → Nat) : Prop where
  out : ∀ v, v ∉ pre → h v = 0
  eq : ∀ v ∈ pre, h v = maxOf h (N v)
theorem LenSt.start (N : Nat → List Nat) : LenSt N [] (fun _ => 0) := ⟨fun _ _ => rfl, fun v hv => by simp at hv⟩
theorem LenSt.step {N : Nat → List Nat} {pre : List Nat} {h : Nat → Nat} {i : Nat} (hl : LenSt N pre h) (ht : Topo N (pre ++ [i])) (hn : (pre ++ [i]).Nodup) : LenSt N (pre ++ [i]) (setF h i (maxOf h (N i))) := by
  have hi : i ∉ pre := fun hm => (List.nodup_append.1 hn).2.2 i hm i (by simp) rfl
  have hNi : ∀ j ∈ N i, j ∈ pre := ht pre i [] rfl
  have hNv : ∀ v ∈ pre, ∀ j ∈ N v, j ∈ pre := fun v hv j hj => by
    obtain ⟨a, b, e⟩ := List.append_of_mem hv
    have := ht a v (b ++ [i]) (by rw [e]; simp) j hj
    rw [e]
    simp [this]
  refine ⟨fun v hv => ?_, fun v hv => ?_⟩
  · simp at hv
    rw [setF_other hv.2]
    exact hl.out v hv.1
  · simp at hv
    rcases hv with hv | rfl
    · rw [setF_other (fun e => hi (by rw [← e]; exact hv)), hl.eq v hv]
      exact maxOf_congr fun j hj => (setF_other fun e => hi (by rw [← e]; exact hNv v hv j hj)).symm
    · rw [setF_same]
      exact maxOf_congr fun j hj => (setF_other fun e => hi (by have := hNi j hj; rw [e] at this; exact this)).symm

/-! ### Nodes that are met -/
def meetS (meet : Nat × List Nat → Nat → Option (Nat × List Nat)) (j : Nat) (st : Nat × List Nat) : Option (Nat × List Nat) :=
  (if j = st.1 then meet st j else some st).bind fun st' => if j ∈ st'.2 then some st' else none
theorem meetL_snoc {meet : Nat × List Nat → Nat → Option (Nat × List Nat)} : ∀ (js : List Nat) (j : Nat) (st : Nat × List Nat), meetL meet (js ++ [j]) st = (meetL meet js st).bind (meetS meet j)
  | [], j, st => by
    show ((if j = st.1 then meet st j else some st).bind fun st' => if j ∈ st'.2 then meetL meet [] st' else none) = _
    rfl
  | a :: js, j, st => by
    show ((if a = st.1 then meet st a else some st).bind fun st' => if a ∈ st'.2 then meetL meet (js ++ [j]) st' else none) = (((if a = st.1 then meet st a else some st).bind fun st' => if a ∈ st'.2 then meetL meet js st' else none)).bind (meetS meet j)
    rw [Option.bind_assoc]
    congr 1
    funext st'
    split
    · exact meetL_snoc js j st'
    · rfl
theorem meetL_stop {meet : Nat × List Nat → Nat → Option (Nat × List Nat)} {st : Nat × List Nat} : ∀ {js : List Nat} (r : List Nat), meetL meet js st = none → meetL meet (js ++ r) st = none := by
  intro js r
  induction r generalizing js with
  | nil => intro h; simpa using h
  | cons a r ih =>
    intro h
    rw [show js ++ a :: r = (js ++ [a]) ++ r by simp]
    refine ih ?_
    rw [meetL_snoc, h]
    rfl
/-- What is known in the middle of a node's letters. -/
structure Met (N : Nat → List Nat) (n m : Nat) (o : List Nat) (mk : Nat) (ok : List Nat) : Prop where
  ended : Ended N (m + 1) o mk ok
  out : m ∉ ok
  new : ∀ v ∈ ok, v ∉ o → m + 1 ≤ v
  room : mk ≤ n
theorem range_room {n m : Nat} (h : Fit n (List.range m)) : m ≤ n := by
  have := nodup_len n _ h.1 h.2
  simpa using this
theorem met_mid {N : Nat → List Nat} {n f m k : Nat} {o : List Nat} {mk : Nat} {ok : List Nat} (hN : ∀ i, i < n → ∀ j ∈ N i, j < n) (hm : m < n) (h : meetL (meetO N f) ((N m).take k) (m + 1, o) = some (mk, ok)) (hb : ∀ v ∈ o, v < m) (ht : Topo N o) (hd : o.Nodup) : Met N n m o mk ok := by
  have hmo : m ∉ o := fun hx => by have := hb m hx; omega
  obtain ⟨g1, g2, g3, g4, g5⟩ := meetL_ended (i := m) (meetO_ended N f) ((N m).take k) (m + 1) o mk ok h (by omega) (fun v hv => by have := hb v hv; omega) hmo ht hd
  refine ⟨g1, g4, g5, ?_⟩
  have h1 := dfsL_fit (n := n) (dfs_fit hN f) ((N m).take k) (List.range (m + 1)) (fun j hj => hN m hm j (List.mem_of_mem_take hj)) ⟨List.nodup_range, fun x hx => by simp at hx; omega⟩
  rw [g2] at h1
  exact range_room h1
/-- What a call leaves that does not end its node. -/
structure Stuck (n m : Nat) (o : List Nat) (o' : List Nat) : Prop where
  nodup : o'.Nodup
  below : ∀ v ∈ o', v < n
  keep : ∀ v ∈ o', v ∉ o → m < v
theorem Stuck.out {n m : Nat} {o o' : List Nat} (h : Stuck n m o o') (hm : m ∉ o) : m ∉ o' := fun hx => by
  have := h.keep m hx hm
  omega
theorem Stuck.few {n m : Nat} {o o' : List Nat} (h : Stuck n m o o') (hm : m ∉ o) (hn : m < n) : o'.length < n := nodup_room h.nodup h.below hn (h.out hm)
theorem Met.stuck {N : Nat → List Nat} {n m : Nat} {o : List Nat} {mk : Nat} {ok : List Nat} (h : Met N n m o mk ok) : Stuck n m o ok :=
  ⟨h.ended.nodup, fun v hv => by have := h.ended.below v hv; have := h.room; omega, fun v hv hn => by have := h.new v hv hn; omega⟩
theorem Met.stuck_in {N : Nat → List Nat} {n m : Nat} {o : List Nat} {mk : Nat} {ok o' : List Nat} (h : Met N n m o mk ok) (hs : Stuck n mk ok o') : Stuck n m o o' :=
  ⟨hs.nodup, hs.below, fun v hv hn => by
    by_cases hk : v ∈ ok
    · have := h.new v hk hn; omega
    · have := hs.keep v hv hk; have := h.ended.up; omega⟩
end Go.Proofs.YtokfkofclpajfaaDoor
