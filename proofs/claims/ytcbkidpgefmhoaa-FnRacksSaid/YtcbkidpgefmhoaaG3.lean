/-
  Piles that are added, taken and held in common: what the law of racks asks, as plain facts; and the program's functions at texts that are lists.
-/
import Derived.Test.YtcbkidpgefmhoaaG2
import Derived.Test.YtcbkidpgefmhoaaO6
namespace Go.Proofs.Ytcbkidpgefmhoaa
open Go.RowKit

theorem cnt_pile (F : Nat → Nat) {k : Nat} (hk : k < 27) : cnt (pileN F 27) k = F k := cnt_pileN F hk
theorem pile_self {a : List UInt8} (h : pileB a = true) : pileN (cnt a) 27 = a := by
  rw [pileB_iff] at h
  exact pile_of_asc h.1 h.2.1
theorem pile_mk (F : Nat → Nat) (h : (pileN F 27).length ≤ 120) : pileB (pileN F 27) = true := by
  rw [pileB_iff]
  exact ⟨pileN_tiles _ (Nat.le_refl _), pileN_asc _ (Nat.le_refl _), h⟩
theorem pileN_mono {F G : Nat → Nat} (h : ∀ k, F k ≤ G k) : ∀ n, (pileN F n).length ≤ (pileN G n).length
  | 0 => Nat.le_refl _
  | n + 1 => by
    have := pileN_mono h n
    have := h n
    unfold pileN
    rw [List.length_append, List.length_append, List.length_replicate, List.length_replicate]
    omega
theorem pile_under {a : List UInt8} (h : pileB a = true) {F : Nat → Nat} (hF : ∀ k, F k ≤ cnt a k) : pileB (pileN F 27) = true := by
  apply pile_mk
  have h1 := pileN_mono hF 27
  rw [pile_self h] at h1
  have := (pileB_iff.1 h).2.2
  omega
theorem less_pile {a : List UInt8} (b : List UInt8) (h : pileB a = true) : pileB (lessL a b) = true := pile_under h fun _ => Nat.sub_le _ _
theorem meet_pile {a : List UInt8} (b : List UInt8) (h : pileB a = true) : pileB (meetL a b) = true := pile_under h fun _ => Nat.min_le_left _ _
theorem meet_comm (a b : List UInt8) : meetL b a = meetL a b := pileN_congr fun _ _ => Nat.min_comm _ _
theorem cnt_less (a b : List UInt8) {k : Nat} (hk : k < 27) : cnt (lessL a b) k = cnt a k - cnt b k := cnt_pileN _ hk
theorem cnt_meet (a b : List UInt8) {k : Nat} (hk : k < 27) : cnt (meetL a b) k = min (cnt a k) (cnt b k) := cnt_pileN _ hk
theorem cnt_sort (l : List UInt8) {k : Nat} (hk : k < 27) : cnt (sortL l) k = cnt l k := cnt_pileN _ hk
theorem less_sum {a b : List UInt8} (h : pileB a = true) : lessL (sortL (a ++ b)) b = a := by
  rw [← pile_self h]
  show pileN _ 27 = _
  refine pileN_congr fun k hk => ?_
  rw [cnt_sort _ hk, cnt_append, cnt_pileN _ hk]
  omega
theorem has_sum (a b : List UInt8) : hasAll (sortL (a ++ b)) b = true := by
  rw [hasAll_iff]
  intro k hk
  rw [cnt_sort _ hk, cnt_append]
  omega
theorem has_meet_left (a b : List UInt8) : hasAll a (meetL a b) = true := by
  rw [hasAll_iff]
  intro k hk
  rw [cnt_meet _ _ hk]
  omega
theorem has_meet_right (a b : List UInt8) : hasAll b (meetL a b) = true := by
  rw [hasAll_iff]
  intro k hk
  rw [cnt_meet _ _ hk]
  omega
theorem pileN_zero {F : Nat → Nat} : ∀ {n : Nat}, (∀ k, k < n → F k = 0) → pileN F n = []
  | 0, _ => rfl
  | n + 1, h => by
    unfold pileN
    rw [pileN_zero (fun k hk => h k (by omega)), h n (by omega)]
    rfl
theorem meet_rest (a b : List UInt8) : meetL (lessL a (meetL a b)) (lessL b (meetL a b)) = [] := by
  refine pileN_zero fun k hk => ?_
  rw [cnt_less _ _ hk, cnt_less _ _ hk, cnt_meet _ _ hk]
  omega
theorem meet_all {a b : List UInt8} (h : pileB b = true) : (meetL a b = b) ↔ hasAll a b = true := by
  rw [hasAll_iff]
  constructor
  · intro e k hk
    have := cnt_meet a b hk
    rw [e] at this
    omega
  · intro e
    rw [← pile_self h]
    show pileN _ 27 = _
    refine pileN_congr fun k hk => ?_
    have := e k hk
    rw [cnt_pileN _ hk]
    omega

/-! ### The program's functions at lists -/
theorem add_txt {a b : List UInt8} {P : List UInt8 × Int} (h : addOut a b = P) (w : World) (ha : a.length ≤ 1000) (hb : b.length ≤ 1000) :
    Calls Try.prog 18 #[.string (txt a), .string (txt b)] w fun e w' => e = .returned (ret2 P) ∧ Below w.heap.size w w' := by
  have := implAddTiles_any (txt a) (txt b) w (by rw [txt_size]; omega) (by rw [txt_size]; omega)
  rw [txt_list, txt_list, h] at this
  exact this
theorem take_txts {a b : List UInt8} {P : List UInt8 × Int} (h : takeOut a b = P) (w : World) (ha : a.length ≤ 1000) (hb : b.length ≤ 1000) :
    Calls Try.prog 19 #[.string (txt a), .string (txt b)] w fun e w' => e = .returned (ret2 P) ∧ Below w.heap.size w w' := by
  have := implTakeTiles_any (txt a) (txt b) w (by rw [txt_size]; omega) (by rw [txt_size]; omega)
  rw [txt_list, txt_list, h] at this
  exact this
theorem meet_txt {a b : List UInt8} {P : List UInt8 × Int} (h : meetOut a b = P) (w : World) (ha : a.length ≤ 1000) (hb : b.length ≤ 1000) :
    Calls Try.prog 20 #[.string (txt a), .string (txt b)] w fun e w' => e = .returned (ret2 P) ∧ Below w.heap.size w w' := by
  have := implCommonTiles_any (txt a) (txt b) w (by rw [txt_size]; omega) (by rw [txt_size]; omega)
  rw [txt_list, txt_list, h] at this
  exact this
theorem holds_txt {a b : List UInt8} {t : Bool} (h : holdsB a b = t) (w : World) (ha : a.length ≤ 1000) (hb : b.length ≤ 1000) :
    Calls Try.prog 21 #[.string (txt a), .string (txt b)] w fun e w' => e = .returned (.bool t) ∧ Below w.heap.size w w' := by
  have := implContainsTiles_any (txt a) (txt b) w (by rw [txt_size]; omega) (by rw [txt_size]; omega)
  rw [txt_list, txt_list, h] at this
  exact this
theorem holdsB_of {a b : List UInt8} (h1 : pileB a = true) (h2 : pileB b = true) : holdsB a b = hasAll a b := by unfold holdsB; rw [h1, h2]; rfl
theorem pile_short {a : List UInt8} (h : pileB a = true) : a.length ≤ 1000 := by
  have := (pileB_iff.1 h).2.2
  omega

/-- All that the law of racks asks of two piles. -/
structure Racks (a b s m r q : List UInt8) (t : Bool) : Prop where
  sum : addOut a b = (s, 0)
  back : takeOut s b = (a, 0)
  both : meetOut a b = (m, 0)
  other : meetOut b a = (m, 0)
  left : holdsB a m = true
  right : holdsB b m = true
  rest : takeOut a m = (r, 0)
  more : takeOut b m = (q, 0)
  none : meetOut r q = ([], 0)
  has : holdsB a b = t
  same : (m == b) = t
  la : a.length ≤ 1000
  lb : b.length ≤ 1000
  ls : s.length ≤ 1000
  lm : m.length ≤ 1000
  lr : r.length ≤ 1000
  lq : q.length ≤ 1000
theorem racks_of {a b : List UInt8} (ha : pileB a = true) (hb : pileB b = true) (h : a.length + b.length ≤ 120) : ∃ s m r q t, Racks a b s m r q t := by
  have hs : pileB (sortL (a ++ b)) = true := sortL_pile (by rw [tiles_cat, (pileB_iff.1 ha).1, (pileB_iff.1 hb).1]; rfl) (by simpa using h)
  have hm := meet_pile b ha
  have hr := less_pile (meetL a b) ha
  have hq := less_pile (meetL a b) hb
  refine ⟨sortL (a ++ b), meetL a b, lessL a (meetL a b), lessL b (meetL a b), hasAll a b, addOut_yes ha hb h, ?_, meetOut_yes ha hb, ?_, ?_, ?_, takeOut_yes ha hm (has_meet_left a b), takeOut_yes hb hm (has_meet_right a b), ?_, holdsB_of ha hb, ?_, pile_short ha, pile_short hb, pile_short hs, pile_short hm, pile_short hr, pile_short hq⟩
  · rw [takeOut_yes hs hb (has_sum a b), less_sum ha]
  · rw [meetOut_yes hb ha, meet_comm]
  · rw [holdsB_of ha hm]; exact has_meet_left a b
  · rw [holdsB_of hb hm]; exact has_meet_right a b
  · rw [meetOut_yes hr hq, meet_rest]
  · rw [Bool.eq_iff_iff, beq_iff_eq]; exact meet_all hb
end Go.Proofs.Ytcbkidpgefmhoaa
