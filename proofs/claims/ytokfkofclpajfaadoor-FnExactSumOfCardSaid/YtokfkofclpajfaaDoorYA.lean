/-
  Plain facts on automata: the node behind a letter and behind some letters, how many strings come before a string, the string with a number, the longest string.
-/
import Derived.Test.YtokfkofclpajfaaDoorVT
import Derived.Lib.Bytealg
namespace Go.Proofs.YtokfkofclpajfaaDoor

/-! ### Steps -/
def Gph.step (G : Gph) (i : Nat) (c : UInt8) : Option Nat := ((G.E i).find? fun e => e.1 == c).map (·.2)
def Gph.after (G : Gph) : Nat → List UInt8 → Option Nat
  | i, [] => some i
  | i, c :: t => match G.step i c with
    | some j => G.after j t
    | none => none
def Gph.acc (G : Gph) (i : Nat) (s : List UInt8) : Bool := match G.after i s with
  | some j => G.F j
  | none => false
def optI : Option Nat → Int
  | some j => (j : Int)
  | none => -1
theorem find_at {c : UInt8} {j : Nat} : ∀ {es : List (UInt8 × Nat)} {k : Nat}, es[k]? = some (c, j) → (∀ m, m < k → ∀ e, es[m]? = some e → Prod.fst e ≠ c) → es.find? (fun e => e.1 == c) = some (c, j)
  | [], k, h, _ => by simp at h
  | e :: es, 0, h, _ => by
    simp at h
    subst h
    simp
  | e :: es, k + 1, h, hm => by
    have h0 := hm 0 (by omega) e (by simp)
    have hb : (e.1 == c) = false := beq_eq_false_iff_ne.2 h0
    rw [List.find?_cons, hb]
    exact find_at (k := k) (by simpa using h) fun m hmk e' he => hm (m + 1) (by omega) e' (by simpa using he)
theorem Gph.step_at {G : Gph} {i k j : Nat} {c : UInt8} (h : (G.E i)[k]? = some (c, j)) (hm : ∀ m, m < k → ∀ e : UInt8 × Nat, (G.E i)[m]? = some e → e.1 ≠ c) : G.step i c = some j := by
  unfold Gph.step
  rw [find_at h hm]
  rfl
theorem Gph.step_none {G : Gph} {i : Nat} {c : UInt8} (h : ∀ (m : Nat) (e : UInt8 × Nat), (G.E i)[m]? = some e → e.1 ≠ c) : G.step i c = none := by
  unfold Gph.step
  rw [List.find?_eq_none.2 fun e he => by
    obtain ⟨m, hm⟩ := List.mem_iff_getElem?.1 he
    have := h m e hm
    simpa using this]
  rfl
theorem Gph.step_mem {G : Gph} {i j : Nat} {c : UInt8} (h : G.step i c = some j) : (c, j) ∈ G.E i := by
  unfold Gph.step at h
  obtain ⟨e, he, rfl⟩ := Option.map_eq_some_iff.1 h
  have h1 := List.mem_of_find?_eq_some he
  have h2 := List.find?_some he
  have h3 : e.1 = c := by simpa using h2
  subst h3
  exact h1
theorem Gph.step_in {G : Gph} {i j : Nat} {c : UInt8} (h : G.step i c = some j) : j ∈ G.N i := List.mem_map.2 ⟨_, G.step_mem h, rfl⟩
theorem index_step : ∀ {ls : List UInt8} {ns : List Nat} {c : UInt8}, ls.length = ns.length →
    (Lib.indexByte ls c = -1 ∧ (ls.zip ns).find? (fun e => e.1 == c) = none) ∨ (∃ k : Nat, Lib.indexByte ls c = (k : Int) ∧ k < ls.length ∧ (ls.zip ns).find? (fun e => e.1 == c) = some (c, ns.getD k 0))
  | [], [], c, _ => .inl ⟨rfl, rfl⟩
  | [], n :: ns, c, h => by simp at h
  | b :: ls, [], c, h => by simp at h
  | b :: ls, n :: ns, c, h => by
    have h' : ls.length = ns.length := by simpa using h
    by_cases hb : (b == c) = true
    · have e := eq_of_beq hb
      subst e
      refine .inr ⟨0, ?_, by simp, ?_⟩
      · unfold Lib.indexByte
        rw [if_pos hb]
        rfl
      · simp
    · have hb' : (b == c) = false := by simpa using hb
      rcases index_step (c := c) h' with ⟨h1, h2⟩ | ⟨k, h1, h2, h3⟩
      · left
        refine ⟨?_, ?_⟩
        · unfold Lib.indexByte
          rw [if_neg hb, h1]
          rfl
        · rw [List.zip_cons_cons, List.find?_cons]
          show (match b == c with | true => _ | false => _) = _
          rw [hb']
          exact h2
      · right
        refine ⟨k + 1, ?_, by simp; omega, ?_⟩
        · unfold Lib.indexByte
          have hne : ((k : Int) == -1) = false := beq_eq_false_iff_ne.2 (by omega)
          rw [if_neg hb, h1, hne]
          simp
        · rw [List.zip_cons_cons, List.find?_cons]
          show (match b == c with | true => _ | false => _) = _
          rw [hb', h3]
          simp
/-- The program's way to find the node behind a letter. -/
theorem step_index {xs : List Nod} (hs : Shp xs) {i : Nat} (hi : i < xs.length) (c : UInt8) :
    (Lib.indexByte (nodG xs i).ls.data.toList c = -1 ∧ (gphD xs).step i c = none) ∨ (∃ k : Nat, Lib.indexByte (nodG xs i).ls.data.toList c = (k : Int) ∧ k < (nodG xs i).ns.length ∧ (gphD xs).step i c = some ((nodG xs i).ns.getD k 0).toNat) := by
  have hl : (nodG xs i).ls.data.toList.length = ((nodG xs i).ns.map Int.toNat).length := by rw [list_size, List.length_map]; exact (hs.node i hi).len
  unfold Gph.step
  rcases index_step (c := c) hl with ⟨h1, h2⟩ | ⟨k, h1, h2, h3⟩
  · left
    refine ⟨h1, ?_⟩
    show ((((nodG xs i).ls.data.toList.zip ((nodG xs i).ns.map Int.toNat))).find? _).map _ = none
    rw [h2]
    rfl
  · right
    have hk : k < (nodG xs i).ns.length := by rw [hl, List.length_map] at h2; exact h2
    refine ⟨k, h1, hk, ?_⟩
    show ((((nodG xs i).ls.data.toList.zip ((nodG xs i).ns.map Int.toNat))).find? _).map _ = _
    rw [h3]
    simp [List.getD_eq_getElem?_getD, List.getElem?_eq_getElem hk]
theorem Shp.E_at {xs : List Nod} (hs : Shp xs) {i : Nat} (hi : i < xs.length) {k : Nat} (hk : k < (nodG xs i).ns.length) : ((gphD xs).E i)[k]? = some ((nodG xs i).ls.data.toList.getD k 0, ((nodG xs i).ns.getD k 0).toNat) := by
  have hl : k < (nodG xs i).ls.data.toList.length := by rw [list_size, (hs.node i hi).len]; exact hk
  show ((nodG xs i).ls.data.toList.zip ((nodG xs i).ns.map Int.toNat))[k]? = _
  rw [List.getElem?_zip_eq_some]
  exact ⟨by rw [List.getD_eq_getElem?_getD, List.getElem?_eq_getElem hl]; rfl, by simp [List.getD_eq_getElem?_getD, List.getElem?_eq_getElem hk]⟩
theorem Shp.E_len {xs : List Nod} (hs : Shp xs) {i : Nat} (hi : i < xs.length) : ((gphD xs).E i).length = (nodG xs i).ns.length := by
  show ((nodG xs i).ls.data.toList.zip ((nodG xs i).ns.map Int.toNat)).length = _
  rw [List.length_zip, List.length_map, list_size, (hs.node i hi).len]
  omega
theorem Shp.step_lt {xs : List Nod} (hs : Shp xs) {i j : Nat} (hi : i < xs.length) {c : UInt8} (h : (gphD xs).step i c = some j) : j < xs.length := hs.in i hi j (Gph.step_in h)
theorem Shp.after_lt {xs : List Nod} (hs : Shp xs) : ∀ {s : List UInt8} {i j : Nat}, i < xs.length → (gphD xs).after i s = some j → j < xs.length
  | [], i, j, hi, h => by
    have : i = j := by simpa [Gph.after] using h
    omega
  | c :: s, i, j, hi, h => by
    unfold Gph.after at h
    cases hst : (gphD xs).step i c with
    | none => rw [hst] at h; cases h
    | some m =>
      rw [hst] at h
      exact hs.after_lt (hs.step_lt hi hst) h
theorem Gph.after_snoc {G : Gph} (c : UInt8) : ∀ (s : List UInt8) (i : Nat), G.after i (s ++ [c]) = (match G.after i s with | some j => G.step j c | none => none)
  | [], i => by
    show (match G.step i c with | some j => some j | none => none) = G.step i c
    cases G.step i c <;> rfl
  | d :: s, i => by
    show (match G.step i d with | some j => G.after j (s ++ [c]) | none => none) = _
    show _ = (match (match G.step i d with | some j => G.after j s | none => none) with | some j => G.step j c | none => none)
    cases G.step i d with
    | none => rfl
    | some j => exact Gph.after_snoc c s j
/-- The nodes behind the first letters of a string: they lead on, or have ended. -/
theorem Gph.after_take {G : Gph} {s : List UInt8} {k : Nat} (hk : k < s.length) (i : Nat) : G.after i (s.take (k + 1)) = (match G.after i (s.take k) with | some j => G.step j (s.getD k 0) | none => none) := by
  rw [List.take_add_one, List.getElem?_eq_getElem hk]
  show G.after i (s.take k ++ [s[k]]) = _
  rw [Gph.after_snoc]
  rw [List.getD_eq_getElem?_getD, List.getElem?_eq_getElem hk]
  rfl
theorem Gph.after_dead {G : Gph} {s : List UInt8} {i : Nat} : ∀ (d k : Nat), k + d = s.length → G.after i (s.take k) = none → G.after i s = none
  | 0, k, e, h => by rw [← h, List.take_of_length_le (by omega)]
  | d + 1, k, e, h => Gph.after_dead d (k + 1) (by omega) (by rw [Gph.after_take (by omega), h])

/-! ### How many strings come before -/
def befL (cnt : Nat → Nat) (c : UInt8) : List (UInt8 × Nat) → Nat
  | [] => 0
  | e :: es => (if e.1 < c then cnt e.2 else 0) + befL cnt c es
def Gph.fin (G : Gph) (i : Nat) : Nat := if G.F i = true then 1 else 0
def Gph.bef (G : Gph) (i : Nat) (c : UInt8) : Nat := G.fin i + befL G.cnt c (G.E i)
def Gph.rank (G : Gph) : Nat → List UInt8 → Nat
  | _, [] => 0
  | i, c :: t => G.bef i c + (match G.step i c with | some j => G.rank j t | none => 0)
theorem befL_snoc (cnt : Nat → Nat) (c : UInt8) (e : UInt8 × Nat) : ∀ es, befL cnt c (es ++ [e]) = befL cnt c es + (if e.1 < c then cnt e.2 else 0)
  | [] => by simp [befL]
  | d :: es => by
    show _ + befL cnt c (es ++ [e]) = _ + befL cnt c es + _
    rw [befL_snoc cnt c e es]
    omega
theorem befL_take {cnt : Nat → Nat} {c : UInt8} {es : List (UInt8 × Nat)} {k : Nat} {e : UInt8 × Nat} (h : es[k]? = some e) : befL cnt c (es.take (k + 1)) = befL cnt c (es.take k) + (if e.1 < c then cnt e.2 else 0) := by
  rw [List.take_add_one, h]
  exact befL_snoc cnt c e _
theorem befL_found {cnt : Nat → Nat} {c : UInt8} : ∀ (es : List (UInt8 × Nat)), befL cnt c es + (match (es.find? fun e => e.1 == c).map (·.2) with | some j => cnt j | none => 0) ≤ sumOf cnt (es.map (·.2))
  | [] => by simp [befL, sumOf]
  | e :: es => by
    have ih := befL_found (cnt := cnt) (c := c) es
    rw [List.map_cons, sumOf_cons, List.find?_cons]
    show (if e.1 < c then cnt e.2 else 0) + befL cnt c es + _ ≤ _
    by_cases hb : (e.1 == c) = true
    · rw [hb]
      have he := eq_of_beq hb
      have hn : ¬ e.1 < c := by rw [he]; exact fun h => by rw [UInt8.lt_iff_toNat_lt] at h; omega
      rw [if_neg hn]
      have : befL cnt c es ≤ sumOf cnt (es.map (·.2)) := by omega
      show 0 + befL cnt c es + cnt e.2 ≤ _
      omega
    · have hb' : (e.1 == c) = false := by simpa using hb
      rw [hb']
      have h1 : (if e.1 < c then cnt e.2 else 0) ≤ cnt e.2 := by split <;> omega
      exact (show (if e.1 < c then cnt e.2 else 0) + befL cnt c es + (match (es.find? fun e => e.1 == c).map (·.2) with | some j => cnt j | none => 0) ≤ cnt e.2 + sumOf cnt (es.map (·.2)) from by omega)
theorem Gph.bef_le {G : Gph} {i : Nat} (h : G.okH 14 i = true) (c : UInt8) : G.bef i c + (match G.step i c with | some j => G.cnt j | none => 0) ≤ G.cnt i := by
  rw [Gph.cnt_eq h]
  have := befL_found (cnt := G.cnt) (c := c) (G.E i)
  unfold Gph.bef Gph.fin Gph.step Gph.N
  omega
theorem Gph.okH_next {G : Gph} {i j : Nat} (h : G.okH 14 i = true) (hj : j ∈ G.N i) : G.okH 14 j = true := by
  obtain ⟨e, he, rfl⟩ := List.mem_map.1 hj
  exact Gph.okH_mono (Gph.okH_step.1 h e he)
theorem Gph.rank_le {G : Gph} : ∀ {s : List UInt8} {i : Nat}, G.okH 14 i = true → G.rank i s + (if G.acc i s = true then 1 else 0) ≤ G.cnt i
  | [], i, h => by
    rw [Gph.cnt_eq h]
    show 0 + (if G.F i = true then 1 else 0) ≤ _
    omega
  | c :: s, i, h => by
    have hb := Gph.bef_le h c
    cases hst : G.step i c with
    | none =>
      have e1 : G.acc i (c :: s) = false := by unfold Gph.acc Gph.after; rw [hst]
      rw [e1]
      show G.bef i c + (match G.step i c with | some j => G.rank j s | none => 0) + 0 ≤ _
      rw [hst] at hb ⊢
      exact hb
    | some j =>
      have e1 : G.acc i (c :: s) = G.acc j s := by
        show (match (match G.step i c with | some j => G.after j s | none => none) with | some j => G.F j | none => false) = _
        rw [hst]
        rfl
      have ih := Gph.rank_le (s := s) (Gph.okH_next h (Gph.step_in hst))
      rw [e1]
      show G.bef i c + (match G.step i c with | some j => G.rank j s | none => 0) + _ ≤ _
      rw [hst] at hb ⊢
      simp only at hb ⊢
      omega
theorem Gph.cnt_next {G : Gph} {i j : Nat} (h : G.okH 14 i = true) (hj : j ∈ G.N i) : G.cnt j ≤ G.cnt i := by
  rw [Gph.cnt_eq h]
  have : ∀ l : List Nat, j ∈ l → G.cnt j ≤ sumOf G.cnt l := by
    intro l
    induction l with
    | nil => intro hm; simp at hm
    | cons a l ih =>
      intro hm
      rw [sumOf_cons]
      rcases List.mem_cons.1 hm with rfl | hm
      · omega
      · have := ih hm
        omega
  have := this _ hj
  omega
theorem DawgOk.cnt_few {xs : List Nod} (h : DawgOk xs) {i : Nat} (hi : i < xs.length) : (gphD xs).cnt i ≤ 3000 :=
  (h.all (D := fun i => i < xs.length ∧ (gphD xs).cnt i ≤ 3000) ⟨h.shp.pos, h.few⟩ (fun i ⟨hi, hc⟩ j hj => ⟨h.shp.in i hi j hj, Nat.le_trans (Gph.cnt_next (h.short_all hi) hj) hc⟩) hi).2

/-! ### The string with a number -/
def pick (cnt : Nat → Nat) : List (UInt8 × Nat) → Nat → Option ((UInt8 × Nat) × Nat)
  | [], _ => none
  | e :: es, n => if n < cnt e.2 then some (e, n) else pick cnt es (n - cnt e.2)
def Gph.word (G : Gph) : Nat → Nat → Nat → List UInt8
  | 0, _, _ => []
  | r + 1, i, n => if G.F i = true ∧ n = 0 then [] else match pick G.cnt (G.E i) (n - G.fin i) with
    | some (e, m) => e.1 :: G.word r e.2 m
    | none => []
theorem pick_at {cnt : Nat → Nat} {e : UInt8 × Nat} : ∀ {es : List (UInt8 × Nat)} {k n : Nat}, es[k]? = some e → sumOf cnt ((es.take k).map (·.2)) ≤ n → n < sumOf cnt ((es.take k).map (·.2)) + cnt e.2 → pick cnt es n = some (e, n - sumOf cnt ((es.take k).map (·.2)))
  | [], k, n, h, _, _ => by simp at h
  | a :: es, 0, n, h, h1, h2 => by
    simp at h
    subst h
    simp only [List.take_zero, List.map_nil] at h1 h2 ⊢
    have e0 : sumOf cnt [] = 0 := rfl
    rw [e0] at h1 h2 ⊢
    unfold pick
    rw [if_pos (by omega)]
    rfl
  | a :: es, k + 1, n, h, h1, h2 => by
    rw [List.take_succ_cons, List.map_cons, sumOf_cons] at h1 h2 ⊢
    unfold pick
    rw [if_neg (by omega), pick_at (k := k) (by simpa using h) (by omega) (by omega)]
    congr 2
    omega
theorem Gph.word_done {G : Gph} {r i : Nat} (h : G.F i = true) : G.word (r + 1) i 0 = [] := by
  unfold Gph.word
  rw [if_pos ⟨h, rfl⟩]
theorem Gph.word_step {G : Gph} {r i k n : Nat} {e : UInt8 × Nat} (h0 : ¬ (G.F i = true ∧ n = 0)) (h : (G.E i)[k]? = some e) (h1 : sumOf G.cnt (((G.E i).take k).map (·.2)) ≤ n - G.fin i) (h2 : n - G.fin i < sumOf G.cnt (((G.E i).take k).map (·.2)) + G.cnt e.2) :
    G.word (r + 1) i n = e.1 :: G.word r e.2 (n - G.fin i - sumOf G.cnt (((G.E i).take k).map (·.2))) := by
  show (if G.F i = true ∧ n = 0 then [] else _) = _
  rw [if_neg h0, pick_at h h1 h2]
theorem Gph.word_room {G : Gph} {i n : Nat} (hok : G.okH 14 i = true) (h0 : ¬ (G.F i = true ∧ n = 0)) (hn : n < G.cnt i) : n - G.fin i < sumOf G.cnt ((G.E i).map (·.2)) := by
  rw [Gph.cnt_eq hok] at hn
  unfold Gph.fin
  unfold Gph.N at hn
  by_cases hf : G.F i = true
  · rw [if_pos hf] at hn ⊢
    have : n ≠ 0 := fun e => h0 ⟨hf, e⟩
    omega
  · rw [if_neg hf] at hn ⊢
    omega
theorem Gph.word_len {G : Gph} : ∀ (r i n : Nat), (G.word r i n).length ≤ r
  | 0, _, _ => Nat.le_refl _
  | r + 1, i, n => by
    unfold Gph.word
    split
    · simp
    · split
      · rename_i e m _
        have := Gph.word_len (G := G) r e.2 m
        simp
        omega
      · simp

/-! ### The longest string -/
def maxLen8 (l : List (List UInt8)) : Nat := l.foldl (fun m t => max m t.length) 0
theorem foldl_max8 : ∀ (l : List (List UInt8)) (m r : Nat), l.foldl (fun m t => max m t.length) m ≤ r ↔ m ≤ r ∧ ∀ t ∈ l, t.length ≤ r
  | [], m, r => by simp
  | a :: l, m, r => by
    rw [List.foldl_cons, foldl_max8 l]
    simp only [List.mem_cons, forall_eq_or_imp]
    constructor
    · rintro ⟨h1, h2⟩
      exact ⟨by omega, by omega, h2⟩
    · rintro ⟨h1, h2, h3⟩
      exact ⟨by omega, h3⟩
theorem maxLen8_le {l : List (List UInt8)} {r : Nat} : maxLen8 l ≤ r ↔ ∀ t ∈ l, t.length ≤ r := by
  unfold maxLen8
  rw [foldl_max8]
  simp
theorem maxLen8_snoc (l : List (List UInt8)) (t : List UInt8) : maxLen8 (l ++ [t]) = max (maxLen8 l) t.length := by unfold maxLen8; rw [List.foldl_append]; rfl
theorem maxOf_ex {h : Nat → Nat} {l : List Nat} (hl : l ≠ []) : ∃ j ∈ l, maxOf h l = h j + 1 := by
  apply Classical.byContradiction
  intro hn
  have h1 : ∀ j ∈ l, h j + 1 ≤ maxOf h l - 1 := fun j hj => by
    have h2 := (maxOf_le (h := h) (l := l) (r := maxOf h l)).1 (Nat.le_refl _) j hj
    have h3 : maxOf h l ≠ h j + 1 := fun e => hn ⟨j, hj, e⟩
    omega
  have h4 := (maxOf_le (h := h) (l := l)).2 h1
  cases l with
  | nil => exact hl rfl
  | cons a l =>
    have := (maxOf_le (h := h) (l := a :: l) (r := maxOf h (a :: l))).1 (Nat.le_refl _) a (by simp)
    omega
theorem Gph.W_short {G : Gph} {n : Nat} (hN : ∀ i, i < n → ∀ j ∈ G.N i, j < n) {h : Nat → Nat} (hh : ∀ i, i < n → h i = maxOf h (G.N i)) : ∀ (r i : Nat), i < n → ∀ t ∈ G.W r i, t.length ≤ h i
  | 0, i, _, t, ht => by
    unfold Gph.W at ht
    split at ht
    · have : t = [] := by simpa using ht
      rw [this]
      exact Nat.zero_le _
    · simp at ht
  | r + 1, i, hi, t, ht => by
    rw [Gph.W_succ] at ht
    rcases List.mem_append.1 ht with h1 | h1
    · split at h1
      · have : t = [] := by simpa using h1
        rw [this]
        exact Nat.zero_le _
      · simp at h1
    · obtain ⟨e, he, h2⟩ := List.mem_flatMap.1 h1
      obtain ⟨u, hu, rfl⟩ := List.mem_map.1 h2
      have hm : e.2 ∈ G.N i := List.mem_map.2 ⟨e, he, rfl⟩
      have h3 := Gph.W_short hN hh r e.2 (hN i hi _ hm) u hu
      have h4 := (maxOf_le (h := h) (l := G.N i) (r := h i)).1 (by rw [← hh i hi]; exact Nat.le_refl _) _ hm
      simp
      omega
theorem Gph.W_long {G : Gph} {n : Nat} (hN : ∀ i, i < n → ∀ j ∈ G.N i, j < n) {h : Nat → Nat} (hh : ∀ i, i < n → h i = maxOf h (G.N i)) (hu : ∀ i, i < n → ∀ j ∈ G.N i, G.E j = [] → G.F j = true) :
    ∀ (r i : Nat), i < n → G.okH (r + 1) i = true → (G.E i = [] → G.F i = true) → ∃ t ∈ G.W r i, t.length = h i
  | r, i, hi, hok, hf => by
    by_cases hE : G.E i = []
    · have h0 : h i = 0 := by rw [hh i hi]; unfold Gph.N; rw [hE]; rfl
      refine ⟨[], ?_, by rw [h0]; rfl⟩
      cases r with
      | zero => simp [Gph.W, hf hE]
      | succ r => rw [Gph.W_succ]; simp [hf hE]
    · have hNe : G.N i ≠ [] := by unfold Gph.N; simpa using hE
      obtain ⟨j, hj, e⟩ := maxOf_ex (h := h) hNe
      cases r with
      | zero =>
        exfalso
        obtain ⟨x, hx⟩ := List.exists_mem_of_ne_nil _ hE
        have := Gph.okH_step.1 hok x hx
        simp [Gph.okH] at this
      | succ r =>
        obtain ⟨x, hx, rfl⟩ := List.mem_map.1 hj
        obtain ⟨t, ht, hl⟩ := Gph.W_long hN hh hu r x.2 (hN i hi _ hj) (Gph.okH_step.1 hok x hx) (hu i hi _ hj)
        refine ⟨x.1 :: t, ?_, by rw [hh i hi, e]; simp [hl]⟩
        rw [Gph.W_succ]
        exact List.mem_append.2 (.inr (List.mem_flatMap.2 ⟨x, hx, List.mem_map.2 ⟨t, ht, rfl⟩⟩))
  termination_by r => r
theorem DawgOk.longest {xs : List Nod} (hd : DawgOk xs) {h : Nat → Nat} (hh : ∀ i, i < xs.length → h i = maxOf h ((gphD xs).N i)) : maxLen8 ((gphD xs).W 13 0) = h 0 := by
  apply Nat.le_antisymm
  · exact maxLen8_le.2 (Gph.W_short hd.shp.in hh 13 0 hd.shp.pos)
  · by_cases hE : (gphD xs).E 0 = []
    · have h0 : h 0 = 0 := by rw [hh 0 hd.shp.pos]; unfold Gph.N; rw [hE]; rfl
      omega
    · obtain ⟨t, ht, hl⟩ := Gph.W_long hd.shp.in hh (fun i hi j hj he => by
        have hj0 : 0 < j := Nat.pos_of_ne_zero fun e => hd.root hi (e ▸ hj)
        have hW := hd.useful j hj0 (hd.shp.in i hi j hj)
        cases hf : (gphD xs).F j with
        | true => rfl
        | false =>
          exfalso
          apply hW
          show (gphD xs).W (12 + 1) j = []
          rw [Gph.W_succ, he, hf]
          simp) 13 0 hd.shp.pos hd.short (fun e => absurd e hE)
      rw [← hl]
      exact maxLen8_le.1 (Nat.le_refl _) t ht

/-! ### Strings that lead to a node -/
/-- The same edges with other ends. -/
def Gph.to (G : Gph) (p : Nat → Bool) : Gph := { F := p, E := G.E }
theorem Gph.to_okH {G : Gph} {p : Nat → Bool} : ∀ {r i : Nat}, (G.to p).okH r i = G.okH r i
  | 0, _ => rfl
  | r + 1, i => by
    show ((G.E i).all fun e => (G.to p).okH r e.2) = ((G.E i).all fun e => G.okH r e.2)
    congr 1
    funext e
    exact Gph.to_okH
theorem Gph.to_self {G : Gph} : G.to G.F = G := rfl
theorem sumOf_zero {c : Nat → Nat} : ∀ {l : List Nat}, (∀ j ∈ l, c j = 0) → sumOf c l = 0
  | [], _ => rfl
  | a :: l, h => by rw [sumOf_cons, h a (by simp), sumOf_zero fun j hj => h j (by simp [hj])]
theorem sumOf_mono {c d : Nat → Nat} : ∀ {l : List Nat}, (∀ j ∈ l, c j ≤ d j) → sumOf c l ≤ sumOf d l
  | [], _ => Nat.le_refl _
  | a :: l, h => by
    rw [sumOf_cons, sumOf_cons]
    have := h a (by simp)
    have := sumOf_mono (l := l) fun j hj => h j (by simp [hj])
    omega
/-- No more strings lead to a node than are accepted, where something is accepted behind it. -/
theorem Gph.to_few {G : Gph} {n t : Nat} (hN : ∀ i, i < n → ∀ j ∈ G.N i, j < n) {h : Nat → Nat} (hh : ∀ i, i < n → ∀ j ∈ G.N i, h j < h i) (hok : ∀ i, i < n → G.okH 14 i = true) (ht : 1 ≤ G.cnt t) :
    ∀ (b i : Nat), i < n → h i < b → ((G.to fun i => i == t).cnt i ≤ G.cnt i) ∧ (h i < h t → (G.to fun i => i == t).cnt i = 0)
  | 0, i, _, hb => absurd hb (by omega)
  | b + 1, i, hi, hb => by
    have e1 := Gph.cnt_eq (G := G.to fun i => i == t) (i := i) (by rw [Gph.to_okH]; exact hok i hi)
    have e2 := Gph.cnt_eq (hok i hi)
    have eN : (G.to fun i => i == t).N i = G.N i := rfl
    have eF : (G.to fun i => i == t).F i = (i == t) := rfl
    rw [eN, eF] at e1
    have ih : ∀ j ∈ G.N i, ((G.to fun i => i == t).cnt j ≤ G.cnt j) ∧ (h j < h t → (G.to fun i => i == t).cnt j = 0) := fun j hj => Gph.to_few hN hh hok ht b j (hN i hi j hj) (by have := hh i hi j hj; omega)
    by_cases hit : i = t
    · subst hit
      have hz := sumOf_zero (c := (G.to fun k => k == i).cnt) (l := G.N i) fun j hj => (ih j hj).2 (hh i hi j hj)
      rw [hz] at e1
      have : (G.to fun k => k == i).cnt i = 1 := by simpa using e1
      exact ⟨by omega, fun hlt => absurd hlt (by omega)⟩
    · have hb' : (i == t) = false := beq_eq_false_iff_ne.2 hit
      rw [hb'] at e1
      simp only [Bool.false_eq_true, if_false, Nat.zero_add] at e1
      refine ⟨?_, fun hlt => ?_⟩
      · rw [e1, e2]
        have := sumOf_mono fun j hj => (ih j hj).1
        omega
      · rw [e1]
        exact sumOf_zero fun j hj => (ih j hj).2 (by have := hh i hi j hj; omega)
end Go.Proofs.YtokfkofclpajfaaDoor
