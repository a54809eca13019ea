/-
  The model's distances, layer by layer: plain; and a row of numbers of the call's own.
-/
import Derived.Test.YtpjekfebpgjgnaaUR
import Derived.Test.YtpjekfebpgjgnaaLJ
namespace Go.Proofs.Ytpjekfebpgjgnaa
open Go.RowKit

/-- The layers up to F are there; of the next one, what the words before the i-th, and the i-th as far as the k-th word, lead to. -/
structure FarSt (us : List ByteArray) (b : ByteArray) (F i k : Nat) (m : Nat → Int) : Prop where
  old : ∀ x, x < us.length → ∀ d, d ≤ F → DistIs us b (strAt us x) d → m x = (d : Int)
  two : ∀ x, x < us.length → (∀ d, d ≤ F → ¬ DistIs us b (strAt us x) d) → m x = -1 ∨ m x = ((F + 1 : Nat) : Int)
  why : ∀ x, x < us.length → (∀ d, d ≤ F → ¬ DistIs us b (strAt us x) d) → m x = ((F + 1 : Nat) : Int) → ∃ j, j < us.length ∧ DistIs us b (strAt us j) F ∧ nearS (strAt us j) (strAt us x) = true
  done : ∀ x, x < us.length → (∀ d, d ≤ F → ¬ DistIs us b (strAt us x) d) → ∀ j, j < us.length → (j < i ∨ (j = i ∧ x < k)) → DistIs us b (strAt us j) F → nearS (strAt us j) (strAt us x) = true → m x = ((F + 1 : Nat) : Int)
def setF (m : Nat → Int) (i : Nat) (x : Int) : Nat → Int := fun j => if j = i then x else m j
/-- The first layer. -/
def farZ (us : List ByteArray) (b : ByteArray) (i : Nat) : Int := if strAt us i = b then 0 else -1
theorem dist_zero {us : List ByteArray} {b x : ByteArray} : DistIs us b x 0 ↔ x = b := ⟨fun h => h.1, fun h => ⟨h, fun m hm => by omega⟩⟩
theorem FarSt.start (us : List ByteArray) (b : ByteArray) : FarSt us b 0 0 0 (farZ us b) where
  old := fun x _ d hd h => by
    obtain rfl : d = 0 := by omega
    unfold farZ
    rw [if_pos (dist_zero.1 h)]
    rfl
  two := fun x _ h => by
    unfold farZ
    rw [if_neg (fun e => h 0 (Nat.le_refl _) (dist_zero.2 e))]
    exact .inl rfl
  why := fun x _ h e => by
    unfold farZ at e
    rw [if_neg (fun e => h 0 (Nat.le_refl _) (dist_zero.2 e))] at e
    omega
  done := fun x _ _ j _ h => by omega
section
variable {us : List ByteArray} {b : ByteArray} {F i k : Nat} {m : Nat → Int}
theorem FarSt.is (h : FarSt us b F i k m) {x : Nat} (hx : x < us.length) (e : m x = (F : Int)) : DistIs us b (strAt us x) F := by
  by_cases hd : ∃ d, d ≤ F ∧ DistIs us b (strAt us x) d
  · obtain ⟨d, hd1, hd2⟩ := hd
    have := h.old x hx d hd1 hd2
    obtain rfl : d = F := by omega
    exact hd2
  · have hd' : ∀ d, d ≤ F → ¬ DistIs us b (strAt us x) d := fun d h1 h2 => hd ⟨d, h1, h2⟩
    rcases h.two x hx hd' with h1 | h1 <;> omega
theorem FarSt.put (h : FarSt us b F i k m) (hi : i < us.length) (hk : k < us.length) (e : m i = (F : Int)) (hn : m k < 0) (hr : nearS (strAt us i) (strAt us k) = true) : FarSt us b F i (k + 1) (setF m k ((F + 1 : Nat) : Int)) := by
  have hs : ∀ x, x ≠ k → setF m k ((F + 1 : Nat) : Int) x = m x := fun x hx => if_neg hx
  have hs2 : setF m k ((F + 1 : Nat) : Int) k = ((F + 1 : Nat) : Int) := if_pos rfl
  refine ⟨fun x hx d hd h1 => ?_, fun x hx h1 => ?_, fun x hx h1 h2 => ?_, fun x hx h1 j hj h2 h3 h4 => ?_⟩
  · by_cases hxk : x = k
    · subst hxk
      have := h.old x hx d hd h1
      omega
    · rw [hs x hxk]; exact h.old x hx d hd h1
  · by_cases hxk : x = k
    · subst hxk; exact .inr hs2
    · rw [hs x hxk]; exact h.two x hx h1
  · by_cases hxk : x = k
    · subst hxk; exact ⟨i, hi, h.is hi e, hr⟩
    · rw [hs x hxk] at h2; exact h.why x hx h1 h2
  · by_cases hxk : x = k
    · subst hxk; exact hs2
    · rw [hs x hxk]; exact h.done x hx h1 j hj (by omega) h3 h4
theorem FarSt.pass (h : FarSt us b F i k m) (hno : ¬ (m k < 0 ∧ nearS (strAt us i) (strAt us k) = true)) : FarSt us b F i (k + 1) m := by
  refine ⟨h.old, h.two, h.why, fun x hx h1 j hj h2 h3 h4 => ?_⟩
  rcases h2 with h2 | ⟨rfl, h2⟩
  · exact h.done x hx h1 j hj (.inl h2) h3 h4
  · by_cases hxk : x = k
    · subst hxk
      rcases h.two x hx h1 with h5 | h5
      · exact (hno ⟨by omega, h4⟩).elim
      · exact h5
    · exact h.done x hx h1 j hj (.inr ⟨rfl, by omega⟩) h3 h4
theorem FarSt.row (h : FarSt us b F i k m) (he : us.length ≤ k ∨ (i < us.length ∧ m i ≠ (F : Int))) : FarSt us b F (i + 1) 0 m := by
  refine ⟨h.old, h.two, h.why, fun x hx h1 j hj h2 h3 h4 => ?_⟩
  rcases Nat.lt_or_ge j i with h5 | h5
  · exact h.done x hx h1 j hj (.inl h5) h3 h4
  · obtain rfl : j = i := by omega
    rcases he with he | he
    · exact h.done x hx h1 j hj (.inr ⟨rfl, by omega⟩) h3 h4
    · exact (he.2 (h.old j hj F (Nat.le_refl _) h3)).elim
theorem walk_dist {us : List ByteArray} {b : ByteArray} : ∀ (n : Nat) {x : ByteArray}, Walk us n x b → ∃ d, d ≤ n ∧ DistIs us b x d := by
  intro n
  induction n using Nat.strongRecOn with
  | ind n ih =>
    intro x hw
    by_cases hm : ∃ m, m < n ∧ Walk us m x b
    · obtain ⟨m, h1, h2⟩ := hm
      obtain ⟨d, h3, h4⟩ := ih m h1 h2
      exact ⟨d, by omega, h4⟩
    · exact ⟨n, Nat.le_refl _, hw, fun m h1 h2 => hm ⟨m, h1, h2⟩⟩
theorem FarSt.layer (h : FarSt us b F i 0 m) (hi : us.length ≤ i) : FarSt us b (F + 1) 0 0 m := by
  have hno : ∀ x, x < us.length → (∀ d, d ≤ F + 1 → ¬ DistIs us b (strAt us x) d) → m x = -1 := fun x hx h1 => by
    rcases h.two x hx (fun d hd => h1 d (by omega)) with h2 | h2
    · exact h2
    · obtain ⟨j, hj, h3, h4⟩ := h.why x hx (fun d hd => h1 d (by omega)) h2
      obtain ⟨d, h5, h6⟩ := walk_dist (F + 1) (x := strAt us x) ⟨strAt us j, strAt_mem hj, by rw [nearS_comm]; exact h4, h3.1⟩
      exact (h1 d h5 h6).elim
  refine ⟨fun x hx d hd h1 => ?_, fun x hx h1 => .inl (hno x hx h1), fun x hx h1 h2 => ?_, fun x hx h1 j hj h2 => by omega⟩
  · rcases Nat.lt_or_ge F d with h2 | h2
    · obtain rfl : d = F + 1 := by omega
      obtain ⟨z, hz, hzn, hw⟩ := h1.1
      obtain ⟨j, hj, rfl⟩ := mem_at hz
      have hz2 : DistIs us b (strAt us j) F := ⟨hw, fun n hn hw2 => h1.2 (n + 1) (by omega) ⟨_, hz, hzn, hw2⟩⟩
      exact h.done x hx (fun d hd h3 => by have := h1.one h3; omega) j hj (.inl (by omega)) hz2 (by rw [nearS_comm]; exact hzn)
    · exact h.old x hx d h2 h1
  · rw [hno x hx h1] at h2
    omega
/-- What the distances say at the end. -/
theorem FarSt.neg (h : FarSt us b us.length 0 0 m) (hr : Rise us) {x : Nat} (hx : x < us.length) (e : m x < 0) (n : Nat) : ¬ Walk us n (strAt us x) b := fun hw => by
  obtain ⟨d, h1, h2⟩ := dist_few hr (strAt_mem hx) hw
  have := h.old x hx d (by omega) h2
  omega
theorem FarSt.pos (h : FarSt us b us.length 0 0 m) (hr : Rise us) {x : Nat} (hx : x < us.length) (e : 0 ≤ m x) : ∃ d : Nat, m x = (d : Int) ∧ DistIs us b (strAt us x) d := by
  by_cases hd : ∃ d, d ≤ us.length ∧ DistIs us b (strAt us x) d
  · obtain ⟨d, h1, h2⟩ := hd
    exact ⟨d, h.old x hx d h1 h2, h2⟩
  · have hd' : ∀ d, d ≤ us.length → ¬ DistIs us b (strAt us x) d := fun d h1 h2 => hd ⟨d, h1, h2⟩
    rcases h.two x hx hd' with h1 | h1
    · omega
    · obtain ⟨j, hj, h3, h4⟩ := h.why x hx hd' h1
      obtain ⟨d, h5, h6⟩ := dist_few hr (strAt_mem hx) (m := us.length + 1) ⟨strAt us j, strAt_mem hj, by rw [nearS_comm]; exact h4, h3.1⟩
      exact (hd' d (by omega) h6).elim
theorem FarSt.iff (h : FarSt us b us.length 0 0 m) (hr : Rise us) {x : Nat} (hx : x < us.length) (d : Nat) : m x = (d : Int) ↔ DistIs us b (strAt us x) d := by
  constructor
  · intro e
    obtain ⟨d', h1, h2⟩ := h.pos hr hx (by omega)
    obtain rfl : d' = d := by omega
    exact h2
  · intro e
    obtain ⟨d', h1, h2⟩ := dist_few hr (strAt_mem hx) e.1
    rw [← e.one h2] at h1
    exact h.old x hx d (by omega) e
end
/-- How far the model looks: every number is small. -/
theorem FarSt.small {us : List ByteArray} {b : ByteArray} {F i k : Nat} {m : Nat → Int} (h : FarSt us b F i k m) {x : Nat} (hx : x < us.length) : -1 ≤ m x ∧ m x ≤ ((F + 1 : Nat) : Int) := by
  by_cases hd : ∃ d, d ≤ F ∧ DistIs us b (strAt us x) d
  · obtain ⟨d, h1, h2⟩ := hd
    have := h.old x hx d h1 h2
    omega
  · rcases h.two x hx (fun d h1 h2 => hd ⟨d, h1, h2⟩) with h1 | h1 <;> omega
/-- The ladder's words from the list: the next one is the first that is near and one step nearer. -/
theorem Lad.next {us : List ByteArray} {a b : ByteArray} {L : List ByteArray} {n : Nat} (h : Lad us a b L n) (hr : Rise us) {t X N : Nat} (ht : t < n) (hX : X < us.length) (eX : strAt us X = strAt L (t + 1)) (hN : N < X) : ¬ (DistIs us b (strAt us N) (n - t - 1) ∧ nearS (strAt L t) (strAt us N) = true) := fun ⟨h1, h2⟩ => by
  have h3 := h.least t ht _ (strAt_mem (show N < us.length by omega)) h2 h1
  have h4 := hr N X hN hX
  rw [eX, h3] at h4
  cases h4
theorem Lad.exists {us : List ByteArray} {a b : ByteArray} (hr : Rise us) (ha : a ∈ us) {d : Nat} (hd : DistIs us b a d) : ∃ L, Lad us a b L d := by
  obtain ⟨q, pi, F, hn⟩ := found_any hr ha
  obtain ⟨j, hj, rfl⟩ := mem_at (F.walk d 0 F.ne (by rw [F.first]; exact hd.1))
  have hl := F.lad hn hj
  have h1 := hl.dist 0 (Nat.zero_le _)
  rw [hl.first, Nat.sub_zero] at h1
  rw [hd.one h1]
  exact ⟨_, hl⟩

/-! ### A row of numbers of the call's own -/
def RowF (B : Nat) (w : World) (v : Value) (n : Nat) (m : Nat → Int) : Prop := w.ownsRow B 2 1 v n (((List.range n).map m).map (Value.int .i64))
theorem RowF.nil (B : Nat) (w : World) (m : Nat → Int) : RowF B w (.slice none 0 0) 0 m := ⟨rfl, .inl ⟨rfl, rfl⟩⟩
theorem RowF.at {B g n c : Nat} {w : World} {m : Nat → Int} (h : RowF B w (.slice (some ⟨g, 0, none⟩) n c) n m) {i : Nat} (hi : i < n) : w.cell? ⟨g, i, none⟩ = some (.int .i64 (m i)) ∧ w.frozen? ⟨g, i, none⟩ = false := by
  unfold RowF at h
  refine ⟨?_, World.ownsRow.frozenAt h i⟩
  rw [World.ownsRow.cellAt h i (by omega)]
  simp [hi]
theorem rowF_set {n i : Nat} {x : Int} {m : Nat → Int} : ((List.range n).map m).set i x = (List.range n).map (setF m i x) := by
  refine List.ext_getElem? fun j => ?_
  unfold setF
  rw [List.getElem?_set, List.getElem?_map, List.getElem?_map]
  by_cases hj : j < n
  · rw [List.getElem?_range hj]
    by_cases h : i = j
    · subst h
      simp [hj]
    · have h' : ¬ j = i := fun e => h e.symm
      simp [h, h']
  · rw [List.getElem?_eq_none (by simp; omega)]
    by_cases h : i = j
    · subst h
      simp [hj]
    · simp [h]
theorem RowF.put {B g n c : Nat} {w : World} {m : Nat → Int} (h : RowF B w (.slice (some ⟨g, 0, none⟩) n c) n m) (i : Nat) (x : Int) : RowF B (w.setCell ⟨g, i, none⟩ (.int .i64 x)) (.slice (some ⟨g, 0, none⟩) n c) n (setF m i x) := by
  unfold RowF at h ⊢
  rw [← rowF_set, List.map_set]
  exact (World.ownsRow.stored h i (.int .i64 x)).1
theorem RowF.below {B n : Nat} {w w' : World} {v : Value} {m : Nat → Int} (h : RowF B w v n m) (hb : Below w.heap.size w w') : RowF B w' v n m :=
  World.ownsRow.kept h (row := none) ⟨hb.os, hb.tape, hb.output, hb.size, fun k hk _ => hb.block k hk⟩ (by cases hv : v.ownBlock <;> simp)
theorem RowF.more {m : Nat → Int} (n : Nat) : (List.range (n + 1)).map m = (List.range n).map m ++ [m n] := by rw [List.range_succ, List.map_append]; rfl
theorem info_numF : (Try.prog.info? 2).map (fun i => (i.zero, i.size, i.bytes)) = some (some (.int .i64 0), 1, 8) := by kernel_rfl
/-- One number more. -/
theorem wpList_append_numF {w : World} {ops : Array Oper} {rest : List Oper} {o : Oper} {a : Act} {Q : Exit → Act → World → Prop} (hgd : o.guard = none) (s x : Operand)
    (ho : o.op = .call { callee := .builtin .append, args := #[s, x], argTypes := #[79, 79] }) {B n : Nat} {v : Value} {m : Nat → Int} (hs : a.eval s = v) (c : Int) (hx : a.eval x = .slice (some ⟨w.heap.size, 0, none⟩) 1 1)
    (hc : m n = c) (hown : RowF B w v n m) (hl : n ≤ 3000000) (hB : B ≤ w.heap.size)
    (h : ∀ v' w', RowF B w' v' (n + 1) m → w.grownBy w' v.ownBlock → wpList Try.prog ops Q rest (a.put o.dst v') w') :
    wpList Try.prog ops Q (o :: rest) a (w.alloc (.cells #[.int .i64 c] 2)) := by
  obtain ⟨i0, hi, hz0, hz1, hz2⟩ := info_parts info_numF
  refine wpList_append_own_at _ hgd s x 79 ho B 2 i0 (.int .i64 0) 1 8 Try.underlying79 hi hz0 hz1 hz2 rfl (by decide) v _ _ hs (World.ownsRow.alloc hown _) ⟨w.heap.size, 0, none⟩ 1 1 [.int .i64 c] hx rfl (cell_one_new _ _ _) (by simp [Value.oneCell']) ?_ ?_ ?_ ?_
  · unfold maxLen; omega
  · omega
  · simp; omega
  · intro v' w' ho' hg _ _
    refine h v' w' ?_ ((World.grownBy_alloc _ _ _).trans hg)
    unfold RowF
    rw [RowF.more, hc, List.map_append]
    exact ho'
end Go.Proofs.Ytpjekfebpgjgnaa
