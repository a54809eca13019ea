/-
  Plain facts: the rising list of some words is one, however it is made.
-/
import Derived.Test.YtpeobloofofnlaaL2
namespace Go.Proofs.Ytpeobloofofnlaa
open Go.RowKit

theorem less_lt : ∀ (x y : List UInt8), Op.bytesLess x y = decide (x < y)
  | [], [] => by simp [Op.bytesLess]
  | _ :: _, [] => by simp [Op.bytesLess]
  | [], _ :: _ => by simp [Op.bytesLess]
  | a :: x, b :: y => by
    rw [Op.bytesLess, less_lt x y]
    simp only [List.cons_lt_cons_iff]
    by_cases h1 : a < b <;> by_cases h2 : a = b <;> by_cases h3 : x < y <;> simp [h1, h2, h3]
def bytesOf (s : ByteArray) : List UInt8 := s.data.toList
theorem upS_lt {a b : ByteArray} : upS a b = true ↔ bytesOf a < bytesOf b := by
  unfold upS bytesOf
  rw [less_lt, ByteArray.toList_eq, ByteArray.toList_eq, decide_eq_true_eq]
def Up (x y : List UInt8) : Prop := Op.bytesLess x y = true
theorem up_upS {a b : ByteArray} : Up (bytesOf a) (bytesOf b) ↔ upS a b = true := by
  unfold Up upS bytesOf
  rw [ByteArray.toList_eq, ByteArray.toList_eq]
/-- Two rising lists with the same members are one. -/
theorem rising_one : ∀ {xs ys : List (List UInt8)}, xs.Pairwise Up → ys.Pairwise Up → (∀ x, x ∈ xs ↔ x ∈ ys) → xs = ys
  | [], [], _, _, _ => rfl
  | [], y :: ys, _, _, h => by have := (h y).2 (by simp); cases this
  | x :: xs, [], _, _, h => by have := (h x).1 (by simp); cases this
  | x :: xs, y :: ys, h1, h2, h => by
    rw [List.pairwise_cons] at h1 h2
    have hxy : x = y := by
      have a := (h x).1 (by simp)
      have b := (h y).2 (by simp)
      rw [List.mem_cons] at a b
      rcases a with a | a
      · exact a
      · rcases b with b | b
        · exact b.symm
        · have h3 := less_trans _ _ _ (h2.1 x a) (h1.1 y b)
          rw [less_irr] at h3
          cases h3
    subst hxy
    have ih := rising_one h1.2 h2.2 (fun z => by
      have hz := h z
      rw [List.mem_cons, List.mem_cons] at hz
      constructor
      · intro hm
        rcases hz.1 (.inr hm) with e | e
        · have := h1.1 z hm
          rw [e] at this
          unfold Up at this
          rw [less_irr] at this
          cases this
        · exact e
      · intro hm
        rcases hz.2 (.inr hm) with e | e
        · have := h2.1 z hm
          rw [e] at this
          unfold Up at this
          rw [less_irr] at this
          cases this
        · exact e)
    rw [ih]
theorem rise_pw {ss : List ByteArray} : Rise ss ↔ (ss.map bytesOf).Pairwise Up := by
  rw [List.pairwise_map, List.pairwise_iff_getElem]
  constructor
  · intro h i j hi hj hij
    have := h i j hij hj
    rw [strAt_eq hi, strAt_eq hj] at this
    exact up_upS.2 this
  · intro h i j hij hj
    rw [strAt_eq (by omega), strAt_eq hj]
    exact up_upS.1 (h i j (by omega) hj hij)
theorem insL_rise {ss : List ByteArray} {s : ByteArray} (hr : Rise ss) (h : hasL ss s = false) : Rise (insL ss s) := by
  rw [rise_pw] at hr ⊢
  unfold insL
  have e : ss.map bytesOf = (ss.take (firstG ss s)).map bytesOf ++ (ss.drop (firstG ss s)).map bytesOf := by rw [← List.map_append, List.take_append_drop]
  have hr' := rise_pw.2 hr
  rw [e, List.pairwise_append] at hr
  rw [List.map_append, List.map_cons, List.pairwise_append, List.pairwise_cons]
  have ha : ∀ a ∈ (ss.take (firstG ss s)).map bytesOf, Up a (bytesOf s) := by
    intro a hm
    obtain ⟨x, hx, rfl⟩ := List.mem_map.1 hm
    obtain ⟨j, hj, rfl⟩ := List.mem_iff_getElem.1 hx
    rw [List.length_take] at hj
    have hu := firstG_less (ss := ss) (s := s) (j := j) (by omega)
    rw [strAt_eq (by omega)] at hu
    rw [List.getElem_take]
    exact up_upS.2 hu
  have hb : ∀ b ∈ (ss.drop (firstG ss s)).map bytesOf, Up (bytesOf s) b := by
    intro b hm
    obtain ⟨x, hx, rfl⟩ := List.mem_map.1 hm
    obtain ⟨j, hj, rfl⟩ := List.mem_iff_getElem.1 hx
    rw [List.length_drop] at hj
    have hj' : firstG ss s + j < ss.length := by omega
    have hu := firstG_more (s := s) hr' (j := firstG ss s + j) (by omega) hj'
    have hne := hasL_no h hr' hj'
    have := upS_tri hu hne
    rw [strAt_eq hj'] at this
    rw [List.getElem_drop]
    exact up_upS.2 this
  refine ⟨hr.1, ⟨hb, hr.2.1⟩, fun a ha' b hb' => ?_⟩
  rw [List.mem_cons] at hb'
  rcases hb' with rfl | hb'
  · exact ha a ha'
  · exact hr.2.2 a ha' b hb'
theorem insL_mem {ss : List ByteArray} {s x : ByteArray} : x ∈ insL ss s ↔ x ∈ ss ∨ x = s := by
  have e : x ∈ ss ↔ x ∈ ss.take (firstG ss s) ∨ x ∈ ss.drop (firstG ss s) := by rw [← List.mem_append, List.take_append_drop]
  unfold insL
  rw [List.mem_append, List.mem_cons, e]
  constructor
  · rintro (h | h | h)
    · exact .inl (.inl h)
    · exact .inr h
    · exact .inl (.inr h)
  · rintro ((h | h) | h)
    · exact .inl h
    · exact .inr (.inr h)
    · exact .inr (.inl h)
theorem insS_rise {ss : List ByteArray} {s : ByteArray} (hr : Rise ss) : Rise (insS ss s) := by
  cases h : hasL ss s
  · rw [insS_new h]; exact insL_rise hr h
  · rw [insS_has h]; exact hr
theorem insS_mem {ss : List ByteArray} {s x : ByteArray} (hr : Rise ss) : x ∈ insS ss s ↔ x ∈ ss ∨ x = s := by
  cases h : hasL ss s
  · rw [insS_new h]; exact insL_mem
  · rw [insS_has h]
    refine ⟨.inl, fun h' => ?_⟩
    rcases h' with h' | rfl
    · exact h'
    · exact (hasL_mem hr).1 h
theorem insS_len {ss : List ByteArray} {s : ByteArray} : ss.length ≤ (insS ss s).length ∧ (insS ss s).length ≤ ss.length + 1 := by
  cases h : hasL ss s
  · rw [insS_new h, insL_len]; omega
  · rw [insS_has h]; omega
theorem rise_nil : Rise [] := fun i j _ h => by simp at h
/-- The words of a list, put one after the other to their places among others. -/
def makeTo (base ws : List ByteArray) (k : Nat) : List ByteArray := (ws.take k).foldl insS base
theorem makeTo_zero (base ws : List ByteArray) : makeTo base ws 0 = base := rfl
theorem makeTo_succ (base ws : List ByteArray) (k : Nat) (h : k < ws.length) : makeTo base ws (k + 1) = insS (makeTo base ws k) (strAt ws k) := by
  unfold makeTo
  rw [List.take_succ_eq_append_getElem h, List.foldl_append, strAt_eq h]
  rfl
theorem makeTo_rise {base : List ByteArray} (hb : Rise base) (ws : List ByteArray) : ∀ k, k ≤ ws.length → Rise (makeTo base ws k)
  | 0, _ => hb
  | k + 1, hk => by rw [makeTo_succ _ _ _ (by omega)]; exact insS_rise (makeTo_rise hb ws k (by omega))
theorem makeTo_len (base ws : List ByteArray) : ∀ k, k ≤ ws.length → (makeTo base ws k).length ≤ base.length + k
  | 0, _ => Nat.le_refl _
  | k + 1, hk => by
    rw [makeTo_succ _ _ _ (by omega)]
    have h1 := (insS_len (ss := makeTo base ws k) (s := strAt ws k)).2
    have h2 := makeTo_len base ws k (by omega)
    omega
theorem makeTo_mem {base : List ByteArray} (hb : Rise base) (ws : List ByteArray) (x : ByteArray) : ∀ k, k ≤ ws.length → (x ∈ makeTo base ws k ↔ x ∈ base ∨ x ∈ ws.take k)
  | 0, _ => by simp [makeTo]
  | k + 1, hk => by
    rw [makeTo_succ _ _ _ (by omega), insS_mem (makeTo_rise hb ws k (by omega)), makeTo_mem hb ws x k (by omega), List.take_succ_eq_append_getElem (by omega), List.mem_append, List.mem_singleton, strAt_eq (by omega), or_assoc]
def makeL (ws : List ByteArray) : List ByteArray := makeTo [] ws ws.length
theorem makeL_rise (ws : List ByteArray) : Rise (makeL ws) := makeTo_rise rise_nil ws _ (Nat.le_refl _)
theorem makeL_mem (ws : List ByteArray) (x : ByteArray) : x ∈ makeL ws ↔ x ∈ ws := by
  unfold makeL
  rw [makeTo_mem rise_nil ws x _ (Nat.le_refl _), List.take_length]
  simp
theorem bytesOf_inj {a b : ByteArray} (h : bytesOf a = bytesOf b) : a = b := Go.WideShapes.bytes_inj h
theorem map_bytesOf_inj : ∀ {xs ys : List ByteArray}, xs.map bytesOf = ys.map bytesOf → xs = ys
  | [], [], _ => rfl
  | [], _ :: _, h => by simp at h
  | _ :: _, [], h => by simp at h
  | x :: xs, y :: ys, h => by
    simp only [List.map_cons, List.cons.injEq] at h
    rw [bytesOf_inj h.1, map_bytesOf_inj h.2]
/-- Any rising list with these members is the one that the model makes. -/
theorem makeL_one {ws cs : List ByteArray} (hr : Rise cs) (hm : ∀ x, x ∈ cs ↔ x ∈ ws) : cs = makeL ws := by
  refine map_bytesOf_inj (rising_one (rise_pw.1 hr) (rise_pw.1 (makeL_rise ws)) fun y => ?_)
  simp only [List.mem_map]
  constructor
  · rintro ⟨x, hx, rfl⟩; exact ⟨x, (makeL_mem ws x).2 ((hm x).1 hx), rfl⟩
  · rintro ⟨x, hx, rfl⟩; exact ⟨x, (hm x).2 ((makeL_mem ws x).1 hx), rfl⟩
theorem makeTo_one {base ws cs : List ByteArray} (hb : Rise base) (hr : Rise cs) (hm : ∀ x, x ∈ cs ↔ x ∈ base ∨ x ∈ ws) : cs = makeTo base ws ws.length := by
  refine map_bytesOf_inj (rising_one (rise_pw.1 hr) (rise_pw.1 (makeTo_rise hb ws _ (Nat.le_refl _))) fun y => ?_)
  simp only [List.mem_map]
  have hmm := fun x => makeTo_mem hb ws x _ (Nat.le_refl _)
  simp only [List.take_length] at hmm
  constructor
  · rintro ⟨x, hx, rfl⟩; exact ⟨x, (hmm x).2 ((hm x).1 hx), rfl⟩
  · rintro ⟨x, hx, rfl⟩; exact ⟨x, (hm x).2 ((hmm x).1 hx), rfl⟩
end Go.Proofs.Ytpeobloofofnlaa
