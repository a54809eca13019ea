/-
  What the law of anagrams leans on: what is true of a drawn lexicon and a drawn word; the callees against one fixed older world.
-/
import Derived.Test.YtilagppmljpclaaDoorM7
namespace Go.Proofs.YtilagppmljpclaaDoor
open Go.RowKit Go.Lib

/-- What the program answers of a drawn lexicon and a drawn word. -/
structure Ana (us : List ByteArray) (y : ByteArray) (A G : List ByteArray) : Prop where
  word : isWordB y.data.toList = true
  ok : okL us = true
  lus : us.length ≤ 16
  small : ∀ x ∈ us, isWordB x.data.toList = true
  ana : anaOut us y = (A, 0)
  made : fromOut us (sortT y) = (G, 0)
  riseA : Rise A
  riseG : Rise G
  la : A.length ≤ 16
  lg : G.length ≤ 16
  inA : ∀ x ∈ A, x ∈ us ∧ sortT x = sortT y
  both : ∀ x ∈ us, hasTo G x G.length = hasAll (sortL y.data.toList) (sortL x.data.toList)
  last : hasL us y = (decide (0 < A.length) && hasTo A y A.length)
theorem ana_of {us : List ByteArray} {y : ByteArray} (h : Drawn us) (hy : y ∈ someL) : ∃ A G, Ana us y A G := by
  have hw : ∀ x ∈ someL, isWordB x.data.toList = true := fun x hx => long_word (some_long hx)
  have hyw := hw y hy
  have hp : pileB (sortT y).data.toList = true := by unfold sortT; rw [txt_list]; exact sort_pile hyw
  have hl1 := pickTo_len (sameQ y) us us.length
  have hl2 := pickTo_len (canQ (sortT y)) us us.length
  have hlu := h.len
  refine ⟨pickTo (sameQ y) us us.length, pickTo (canQ (sortT y)) us us.length, hyw, h.ok, hlu, fun x hx => hw x (h.mem x hx), anaOut_yes h.ok hyw, fromOut_yes h.ok hp, pickTo_rise h.rise _, pickTo_rise h.rise _, by omega, by omega, fun x hx => ?_, fun x hx => ?_, ?_⟩
  · rw [pickTo_mem] at hx
    exact ⟨hx.1, of_decide_eq_true hx.2⟩
  · rw [Bool.eq_iff_iff, hasTo_mem, pickTo_mem]
    have hxw := hw x (h.mem x hx)
    have := can_has hyw hxw
    have hq : canQ (sortT y) x = hasAll (sortL y.data.toList) (sortL x.data.toList) := by unfold canQ sortT; rw [txt_list]; exact this
    rw [hq]
    exact ⟨fun e => e.2, fun e => ⟨hx, e⟩⟩
  · rw [Bool.eq_iff_iff, hasL_mem h.rise, Bool.and_eq_true, decide_eq_true_eq, hasTo_mem, pickTo_mem]
    constructor
    · intro e
      have hm : y ∈ pickTo (sameQ y) us us.length := pickTo_mem.2 ⟨e, by simp [sameQ]⟩
      exact ⟨List.length_pos_of_mem hm, e, by simp [sameQ]⟩
    · intro e
      exact e.2.1
theorem same_txtS (s : ByteArray) : (s.toList != s.toList) = false := by simp

theorem tilesS_on {x T : ByteArray} (h : sortT x = T) (hx : isWordB x.data.toList = true) (a w : World) (hb : Below a.heap.size a w) : Calls Tryd.prog 9 #[.string x] w fun e w' => e = .returned (.string T) ∧ Below a.heap.size a w' :=
  (tilesS_is h w hx).mono fun _ _ ⟨h1, h2⟩ => ⟨h1, hb.trans (h2.mono hb.size)⟩
theorem word_sizeS {x : ByteArray} (h : isWordB x.data.toList = true) : x.size ≤ 1048576 := by
  have := word_len h
  rw [Array.length_toList] at this
  exact Nat.le_trans this (by decide)
theorem sizes_us {us : List ByteArray} (h : ∀ x ∈ us, isWordB x.data.toList = true) : ∀ x ∈ us, x.size ≤ maxLen := fun x hx => by
  have := word_sizeS (h x hx)
  unfold maxLen
  omega
theorem madeI_on {us G : List ByteArray} {p : ByteArray} {v : Value} (h : fromOut us p = (G, 0)) (a w : World) (hb : Below a.heap.size a w) (hu : Strs a v us) (hz : ∀ s ∈ us, s.size ≤ maxLen) (hp : p.size ≤ 1048576) :
    Calls Tryd.prog 8 #[.agg #[v], .string p] w fun e w' => ∃ c d, e = .returned (.tuple #[.slice c G.length d, .int .i64 0]) ∧ OwnS a.heap.size w' (.slice c G.length d) G ∧ Below a.heap.size a w' := by
  refine (implWordsFrom_any p w (hu.below hb) hz hp).mono ?_
  rw [h]
  rintro e w' ⟨v0, rfl, ho, hb2⟩
  have ho : OwnS w.heap.size w' v0 G := ho
  obtain ⟨c, d, rfl, -⟩ := own_form ho
  exact ⟨c, d, rfl, OwnS.lower ho hb.size, hb.trans (hb2.mono hb.size)⟩
theorem hasS_on {us : List ByteArray} {s : ByteArray} {v : Value} {t : Bool} (h : hasOut us s = t) (a w : World) (hb : Below a.heap.size a w) (hu : Strs a v us) (hz : ∀ s ∈ us, s.size ≤ maxLen) (hs : s.size ≤ 1048576) :
    Calls Tryd.prog 11 #[.agg #[v], .string s] w fun e w' => e = .returned (.bool t) ∧ Below a.heap.size a w' := by
  rw [← h]
  exact (specHasWord_any s w (hu.below hb) hz hs).mono fun _ _ ⟨h1, h2⟩ => ⟨h1, hb.trans (h2.mono hb.size)⟩
theorem containsS_on {A B : List UInt8} {t : Bool} (a w : World) (hb : Below a.heap.size a w) (hA : pileB A = true) (hB : pileB B = true) (ht : hasAll A B = t) :
    Calls Tryd.prog 12 #[.string (txt A), .string (txt B)] w fun e w' => e = .returned (.bool t) ∧ Below a.heap.size a w' := by
  have h1 := (pileB_iff.1 hA).2.2
  have h2 := (pileB_iff.1 hB).2.2
  refine (contains_is w (by rw [txt_size]; omega) (by rw [txt_size]; omega) (by rw [txt_list]; exact hA) (by rw [txt_list]; exact hB) (by rw [txt_list, txt_list]; exact ht)).mono fun _ _ ⟨h1, h2⟩ => ⟨h1, hb.trans (h2.mono hb.size)⟩
end Go.Proofs.YtilagppmljpclaaDoor
