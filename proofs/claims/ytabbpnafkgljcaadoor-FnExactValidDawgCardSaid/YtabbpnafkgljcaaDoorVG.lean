/-
  Which nodes lead to a final one: the model's answer.
-/
import Derived.Test.YtabbpnafkgljcaaDoorVF
namespace Go.Proofs.YtabbpnafkgljcaaDoor
open Go.RowKit

/-- A row of the call's own that holds booleans. -/
def BRow (B : Nat) (w : World) (g : Nat) (gs : List Bool) : Prop := w.ownsRow B 4 1 (.slice (some ⟨g, 0, none⟩) gs.length gs.length) gs.length (gs.map Value.bool)
theorem BRow.cell {B g : Nat} {w : World} {gs : List Bool} (h : BRow B w g gs) {k : Nat} (hk : k < gs.length) : w.cell? ⟨g, k, none⟩ = some (.bool (gs.getD k false)) := by
  have := World.ownsRow.cellAt h k (by omega)
  rw [this, List.getElem?_map, List.getElem?_eq_getElem hk, List.getD_eq_getElem?_getD, List.getElem?_eq_getElem hk]
  rfl
theorem BRow.frozen {B g : Nat} {w : World} {gs : List Bool} (h : BRow B w g gs) (k : Nat) : w.frozen? ⟨g, k, none⟩ = false := World.ownsRow.frozenAt h k
theorem BRow.set {B g : Nat} {w : World} {gs : List Bool} (h : BRow B w g gs) (k : Nat) (b : Bool) : BRow B (w.setCell ⟨g, k, none⟩ (.bool b)) g (gs.set k b) := by
  have := (World.ownsRow.stored h k (.bool b)).1
  unfold BRow
  rw [List.length_set, List.map_set]
  exact this
theorem BRow.ge {B g : Nat} {w : World} {gs : List Bool} (h : BRow B w g gs) : B ≤ g := by
  rcases h.2 with ⟨e, _⟩ | ⟨g', cap, cur, e, hB, _⟩
  · cases e
  · simp only [Value.slice.injEq, Option.some.injEq, Addr.mk.injEq] at e
    omega
/-- What is marked leads to a final node. -/
def SoundB (G : Gph) (gs : List Bool) : Prop := ∀ i, gs.getD i false = true → ∃ k, G.W k i ≠ []
/-- A node is marked if it leads to a final one, and no path from it has r letters. -/
def CompB (G : Gph) (r : Nat) (gs : List Bool) (i : Nat) : Prop := ∀ q, q < r → G.okH (q + 1) i = true → G.W q i ≠ [] → gs.getD i false = true
theorem getD_set {gs : List Bool} {k : Nat} (hk : k < gs.length) (b : Bool) (i : Nat) : (gs.set k b).getD i false = if i = k then b else gs.getD i false := by
  rw [List.getD_eq_getElem?_getD, List.getElem?_set]
  by_cases h : k = i
  · subst h
    simp [hk]
  · rw [if_neg h, if_neg (fun e => h e.symm), List.getD_eq_getElem?_getD]
theorem SoundB.set {G : Gph} {gs : List Bool} (h : SoundB G gs) {k : Nat} (hk : k < gs.length) {b : Bool} (hb : b = true → ∃ q, G.W q k ≠ []) : SoundB G (gs.set k b) := by
  intro i hi
  rw [getD_set hk] at hi
  by_cases e : i = k
  · rw [if_pos e] at hi
    rw [e]
    exact hb hi
  · rw [if_neg e] at hi
    exact h i hi
theorem CompB.set {G : Gph} {r : Nat} {gs : List Bool} {i : Nat} (h : CompB G r gs i) {k : Nat} (hk : k < gs.length) {b : Bool} (hb : gs.getD k false = true → b = true) : CompB G r (gs.set k b) i := by
  intro q hq h1 h2
  have := h q hq h1 h2
  rw [getD_set hk]
  by_cases e : i = k
  · rw [if_pos e]
    rw [e] at this
    exact hb this
  · rw [if_neg e]
    exact this
theorem W_final {G : Gph} {i : Nat} (h : G.F i = true) : G.W 0 i ≠ [] := by unfold Gph.W; rw [if_pos h]; simp
theorem W_behind {G : Gph} {i j k : Nat} (hj : j ∈ G.N i) (h : G.W k j ≠ []) : G.W (k + 1) i ≠ [] := by
  obtain ⟨e, he, rfl⟩ := List.mem_map.1 hj
  rw [Gph.W_succ]
  intro h2
  have h3 := (List.append_eq_nil_iff.1 h2).2
  cases hw : G.W k e.2 with
  | nil => exact h hw
  | cons w ws =>
    have : (e.1 :: w) ∈ (G.E i).flatMap fun e => (G.W k e.2).map (e.1 :: ·) := List.mem_flatMap.2 ⟨e, he, List.mem_map.2 ⟨w, by rw [hw]; simp, rfl⟩⟩
    rw [h3] at this
    simp at this
/-- A node of which all that is behind it has been looked at is marked if it has to be. -/
theorem comp_next {G : Gph} {r i : Nat} {gs : List Bool} (hf : G.F i = true → gs.getD i false = true) (hn : ∀ j ∈ G.N i, ∀ q, q < r → G.okH (q + 1) j = true → G.W q j ≠ [] → gs.getD i false = true) : CompB G (r + 1) gs i := by
  intro q hq h1 h2
  cases q with
  | zero =>
    by_cases hF : G.F i = true
    · exact hf hF
    · unfold Gph.W at h2
      rw [if_neg hF] at h2
      exact absurd rfl h2
  | succ q =>
    by_cases hF : G.F i = true
    · exact hf hF
    · rw [Gph.W_succ, if_neg hF, List.nil_append] at h2
      have h3 := Gph.okH_step.1 h1
      have : ∃ e ∈ G.E i, G.W q e.2 ≠ [] := by
        refine Classical.byContradiction fun hno => h2 ?_
        refine List.flatMap_eq_nil_iff.2 fun e he => ?_
        have : G.W q e.2 = [] := Classical.byContradiction fun h4 => hno ⟨e, he, h4⟩
        rw [this]
        rfl
      obtain ⟨e, he, hw⟩ := this
      exact hn e.2 (List.mem_map.2 ⟨e, he, rfl⟩) q (by omega) (h3 e he) hw
/-- Between two steps: what is marked, and how far the round has come. -/
structure Marks (G : Gph) (n r i : Nat) (gs : List Bool) : Prop where
  len : gs.length = n
  sound : SoundB G gs
  comp : ∀ j, j < n → CompB G r gs j
  done : ∀ j, j < i → CompB G (r + 1) gs j
theorem Marks.set {G : Gph} {n r i : Nat} {gs : List Bool} (h : Marks G n r i gs) {k : Nat} (hk : k < n) {b : Bool} (hb : b = true → ∃ q, G.W q k ≠ []) (hm : gs.getD k false = true → b = true) : Marks G n r i (gs.set k b) := by
  have hkl : k < gs.length := by rw [h.len]; exact hk
  exact ⟨by rw [List.length_set, h.len], h.sound.set hkl hb, fun j hj => (h.comp j hj).set hkl hm, fun j hj => (h.done j hj).set hkl hm⟩
theorem infoBool : (Tryd.prog.info? 4).map (fun i => (i.zero, i.size, i.bytes)) = some (some (.bool false), 1, 1) := by kernel_rfl

end Go.Proofs.YtabbpnafkgljcaaDoor
