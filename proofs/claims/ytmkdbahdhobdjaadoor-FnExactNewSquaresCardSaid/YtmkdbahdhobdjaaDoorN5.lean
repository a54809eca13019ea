/-
  Plain facts on placed words: what strings.Map makes of them; no program in sight.
-/
import Derived.Test.YtmkdbahdhobdjaaDoorN2
import Derived.Lib.MapLaws
import Derived.Lib.TrimAscii
namespace Go.Proofs.YtmkdbahdhobdjaaDoor
open Go.RowKit

/-- A number is the code of a capital letter. -/
def capB (c : Int) : Bool := decide (65 ≤ c) && decide (c ≤ 90)
theorem capB_iff {c : Int} : capB c = true ↔ 65 ≤ c ∧ c ≤ 90 := by simp [capB]
theorem capB_no {c : Int} (h : ¬ (65 ≤ c ∧ c ≤ 90)) : capB c = false := by
  cases hb : capB c
  · rfl
  · exact absurd (capB_iff.1 hb) h
def letB (c : Int) : Bool := smallB c || capB c
theorem letB_iff {c : Int} : letB c = true ↔ (97 ≤ c ∧ c ≤ 122) ∨ (65 ≤ c ∧ c ≤ 90) := by simp [letB, smallB_iff, capB_iff]
def allLet (l : List UInt8) : Bool := l.all fun c => letB (c.toNat : Int)
/-- A text is a placed word. -/
def placedL (l : List UInt8) : Bool := allLet l && decide (1 ≤ l.length) && decide (l.length ≤ 12)
def smallF (x : Int) : Int := if 65 ≤ x ∧ x ≤ 90 then x + 32 else x
def tileF (x : Int) : Int := if 65 ≤ x ∧ x ≤ 90 then 63 else x
def tileU (c : UInt8) : UInt8 := if 65 ≤ c.toNat ∧ c.toNat ≤ 90 then 63 else c
def smallU (c : UInt8) : UInt8 := UInt8.ofNat (smallF (c.toNat : Int)).toNat
def tilesOut (l : List UInt8) : List UInt8 := if placedL l = true then sortL (l.map tileU) else []
theorem tilesOut_no {l : List UInt8} (h : placedL l = false) : tilesOut l = [] := by
  unfold tilesOut
  rw [if_neg (by rw [h]; exact fun e => by cases e)]
theorem tilesOut_yes {l : List UInt8} (h : placedL l = true) : tilesOut l = sortL (l.map tileU) := by
  unfold tilesOut
  rw [if_pos h]
theorem placed_len {l : List UInt8} (h : placedL l = true) : l.length ≤ 12 := by
  simp only [placedL, Bool.and_eq_true, decide_eq_true_eq] at h
  exact h.2
theorem placed_let {l : List UInt8} (h : placedL l = true) : allLet l = true := by
  simp only [placedL, Bool.and_eq_true] at h
  exact h.1.1
theorem let_low {l : List UInt8} (h : allLet l = true) : ∀ c ∈ l, c.toNat < 128 := by
  intro c hc
  unfold allLet at h
  rw [List.all_eq_true] at h
  have := h c hc
  rw [letB_iff] at this
  omega
theorem tileU_tile {c : UInt8} (h : letB (c.toNat : Int) = true) : tileB ((tileU c).toNat : Int) = true := by
  rw [letB_iff] at h
  rw [tileB_iff]
  unfold tileU
  split
  · left; rfl
  · right; omega
theorem map_tiles {l : List UInt8} (h : allLet l = true) : allTiles (l.map tileU) = true := by
  unfold allLet at h
  unfold allTiles
  rw [List.all_eq_true] at h ⊢
  intro x hx
  obtain ⟨c, hc, rfl⟩ := List.mem_map.1 hx
  exact tileU_tile (h c hc)

/-! ### What strings.Map makes -/
theorem mapD_low (f : Int → Int) (hf : ∀ x : Int, 0 ≤ x → x < 128 → 0 ≤ f x ∧ f x ≤ 127) : ∀ l : List UInt8, (∀ c ∈ l, c.toNat < 128) → Lib.mapD f l = l.map fun c => UInt8.ofNat (f (c.toNat : Int)).toNat
  | [], _ => rfl
  | c :: l, h => by
    have hc := h c List.mem_cons_self
    have h1 := hf (c.toNat : Int) (by omega) (by omega)
    rw [Lib.mapD_step f (c :: l) (by simp), Lib.decodeL_ascii c l hc]
    dsimp only
    rw [if_pos h1.1, List.drop_succ_cons, List.drop_zero, mapD_low f hf l (fun x hx => h x (List.mem_cons_of_mem _ hx))]
    unfold Lib.encodeRune
    rw [Lib.encodeRuneZ_one h1.1 h1.2]
    rfl
theorem encode_high {r : Int} (h : 128 ≤ r) : ∃ x l, Lib.encodeRune r = x :: l ∧ 128 ≤ x.toNat := by
  have hb := Lib.encodeRuneZ_byte r
  have key : ∃ z m, Lib.encodeRuneZ r = z :: m ∧ 128 ≤ z := by
    by_cases h2 : r ≤ 2047
    · exact ⟨_, _, Lib.encodeRuneZ_two h h2, by omega⟩
    · by_cases h3 : (2048 ≤ r ∧ r < 55296) ∨ (57343 < r ∧ r ≤ 65535)
      · exact ⟨_, _, Lib.encodeRuneZ_three h3, by omega⟩
      · by_cases h4 : 65536 ≤ r ∧ r ≤ 1114111
        · exact ⟨_, _, Lib.encodeRuneZ_four h4.1 h4.2, by omega⟩
        · exact ⟨_, _, Lib.encodeRuneZ_bad (by omega), by omega⟩
  obtain ⟨z, m, e, hz⟩ := key
  have h1 := hb z (by rw [e]; exact List.mem_cons_self)
  refine ⟨z.toNat.toUInt8, m.map fun x => x.toNat.toUInt8, by unfold Lib.encodeRune; rw [e]; rfl, ?_⟩
  have : z.toNat.toUInt8.toNat = z.toNat := by
    rw [Nat.toUInt8_eq, UInt8.toNat_ofNat']
    omega
  omega
theorem decode_up {c : UInt8} (l : List UInt8) (h : 128 ≤ c.toNat) : 128 ≤ (Lib.decodeL (c :: l)).1 := by
  have := decode_high ⟨(c :: l).toArray⟩ 0 (by simp [ByteArray.size]) (by
    show 128 ≤ c.toNat
    exact h)
  exact this.1
theorem allSmall_app (a b : List UInt8) : allSmall (a ++ b) = (allSmall a && allSmall b) := by simp [allSmall]
theorem smallF_range : ∀ x : Int, 0 ≤ x → x < 128 → 0 ≤ smallF x ∧ smallF x ≤ 127 := by
  intro x h0 h1
  unfold smallF
  split <;> omega
theorem tileF_range : ∀ x : Int, 0 ≤ x → x < 128 → 0 ≤ tileF x ∧ tileF x ≤ 127 := by
  intro x h0 h1
  unfold tileF
  split <;> omega
/-- Small letters come of letters alone. -/
theorem map_small : ∀ l : List UInt8, allSmall (Lib.mapD smallF l) = allLet l
  | [] => rfl
  | c :: l => by
    have el : allLet (c :: l) = (letB (c.toNat : Int) && allLet l) := by simp [allLet]
    rw [el]
    rcases Nat.lt_or_ge c.toNat 128 with hc | hc
    · have h1 := smallF_range (c.toNat : Int) (by omega) (by omega)
      rw [Lib.mapD_step smallF (c :: l) (by simp), Lib.decodeL_ascii c l hc]
      dsimp only
      rw [if_pos h1.1, List.drop_succ_cons, List.drop_zero, allSmall_app, map_small l]
      congr 1
      unfold Lib.encodeRune
      rw [Lib.encodeRuneZ_one h1.1 h1.2]
      have e : allSmall [(smallF (c.toNat : Int)).toNat.toUInt8] = smallB (smallF (c.toNat : Int)) := by
        have : ((smallF (c.toNat : Int)).toNat.toUInt8.toNat : Int) = smallF (c.toNat : Int) := by
          rw [Nat.toUInt8_eq, UInt8.toNat_ofNat']
          omega
        show (smallB ((smallF (c.toNat : Int)).toNat.toUInt8.toNat : Int) && true) = _
        rw [this, Bool.and_true]
      refine Eq.trans e ?_
      rw [Bool.eq_iff_iff, smallB_iff, letB_iff]
      unfold smallF
      split <;> omega
    · have hr := decode_up l hc
      have hf : smallF ((Lib.decodeL (c :: l)).1 : Int) = ((Lib.decodeL (c :: l)).1 : Int) := by unfold smallF; rw [if_neg (by omega)]
      rw [Lib.mapD_step smallF (c :: l) (by simp), hf, if_pos (by omega), allSmall_app]
      obtain ⟨x, m, e, hx⟩ := encode_high (r := ((Lib.decodeL (c :: l)).1 : Int)) (by omega)
      rw [e]
      have h1 : allSmall (x :: m) = false := by simp [allSmall, smallB_no (show ¬ (97 ≤ (x.toNat : Int) ∧ (x.toNat : Int) ≤ 122) by omega)]
      have h2 : letB (c.toNat : Int) = false := by
        cases hb : letB (c.toNat : Int)
        · rfl
        · rw [letB_iff] at hb; omega
      rw [h1, h2]
      rfl
theorem word_placed (l : List UInt8) : isWordB (Lib.mapD smallF l) = placedL l := by
  unfold isWordB placedL
  rw [map_small]
  cases h : allLet l
  · rfl
  · rw [mapD_low smallF smallF_range l (let_low h), List.length_map]
theorem map_len : ∀ (n : Nat) (f : Int → Int) (l : List UInt8), l.length ≤ n → (Lib.mapD f l).length ≤ 4 * l.length
  | 0, f, l, hn => by
    have : l = [] := List.eq_nil_of_length_eq_zero (by omega)
    subst this
    simp [Lib.mapD_nil]
  | n + 1, f, l, hn => by
    by_cases hne : l = []
    · subst hne
      simp [Lib.mapD_nil]
    · have hw := Lib.decodeL_width l
      have hle := Lib.decodeL_le l hne
      have ih := map_len n f (l.drop (Lib.decodeL l).2) (by rw [List.length_drop]; omega)
      rw [List.length_drop] at ih
      rw [Lib.mapD_step f l hne, List.length_append]
      have hh : (if 0 ≤ f (Lib.decodeL l).1 then Lib.encodeRune (f (Lib.decodeL l).1) else []).length ≤ 4 := by
        split
        · unfold Lib.encodeRune
          rw [List.length_map]
          exact (Lib.encodeRuneZ_length _).2
        · simp
      omega
theorem map_tile {l : List UInt8} (h : allLet l = true) : Lib.mapD tileF l = l.map tileU := by
  rw [mapD_low tileF tileF_range l (let_low h)]
  apply List.map_congr_left
  intro c hc
  have hl := let_low h c hc
  apply UInt8.toNat_inj.1
  rw [UInt8.toNat_ofNat']
  unfold tileF tileU
  by_cases e : 65 ≤ c.toNat ∧ c.toNat ≤ 90
  · rw [if_pos (by omega), if_pos e]; rfl
  · rw [if_neg (by omega), if_neg e]; omega
end Go.Proofs.YtmkdbahdhobdjaaDoor
