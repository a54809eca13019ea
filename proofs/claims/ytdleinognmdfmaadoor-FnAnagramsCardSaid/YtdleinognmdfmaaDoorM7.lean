/-
  What the law of anagrams leans on: plain facts on piles and words; the law's own helpers; what the model says of two sorted words.
  What the law of anagrams leans on: what is true of a drawn lexicon and a drawn word; the callees against one fixed older world.
-/
import Derived.Test.YtdleinognmdfmaaDoorM5
import Derived.Test.YtdleinognmdfmaaDoorM6
import Derived.Test.YtdleinognmdfmaaDoorLN
import Derived.Test.YtdleinognmdfmaaDoorLP
import Derived.Test.YtdleinognmdfmaaDoorO7
namespace Go.Proofs.YtdleinognmdfmaaDoor
open Go.RowKit Go.Lib

/-! ### Words made from a word's own letters -/
theorem need_zero : ∀ (l : List UInt8) (f : Nat → Nat), (∀ c ∈ l, smallB (c.toNat : Int) = true) → (needL f l = 0 ↔ ∀ k, k < 27 → cnt l k ≤ f k)
  | [], f, _ => by simp [needL, cnt]
  | c :: l, f, h => by
    have hc := h c List.mem_cons_self
    have hl : ∀ x ∈ l, smallB (x.toNat : Int) = true := fun x hx => h x (List.mem_cons_of_mem _ hx)
    have hk := small_kind hc
    have hcn : ∀ k, k < 27 → cnt (c :: l) k = if k = kindN c then cnt l k + 1 else cnt l k := fun k hk => by
      rw [cnt_perm (show (c :: l).Perm (l ++ [c]) from (List.perm_append_singleton c l).symm) k]
      exact cnt_snoc_kind l (small_tile hc) hk
    rw [needL]
    by_cases h0 : f (kindN c) = 0
    · rw [if_pos h0]
      refine ⟨fun e => by omega, fun e => ?_⟩
      have := e (kindN c) hk.2.1
      rw [hcn _ hk.2.1, if_pos rfl, h0] at this
      omega
    · rw [if_neg h0, need_zero l (decK f (kindN c)) hl]
      constructor
      · intro e k hk2
        have := e k hk2
        unfold decK at this
        rw [hcn k hk2]
        by_cases hkk : k = kindN c
        · rw [if_pos hkk] at this ⊢; subst hkk; omega
        · rw [if_neg hkk] at this ⊢; exact this
      · intro e k hk2
        have := e k hk2
        rw [hcn k hk2] at this
        unfold decK
        by_cases hkk : k = kindN c
        · rw [if_pos hkk] at this ⊢; subst hkk; omega
        · rw [if_neg hkk] at this ⊢; exact this
theorem cntS (l : List UInt8) {k : Nat} (hk : k < 27) : cnt (sortL l) k = cnt l k := cnt_pileN _ hk
theorem no_blank {l : List UInt8} (h : isWordB l = true) : cnt l 0 = 0 := by
  rw [cnt0, List.count_eq_zero]
  intro hm
  have := word_small h hm
  rw [smallB_iff] at this
  have e : ((63 : UInt8).toNat : Int) = 63 := by decide
  omega
theorem can_has {y x : List UInt8} (hy : isWordB y = true) (hx : isWordB x = true) : canL (sortL y) x = hasAll (sortL y) (sortL x) := by
  unfold canL
  rw [needL_congr x (f := cnt (sortL y)) (g := cnt y) (fun k hk => cntS y hk) (word_kinds hx), cntS y (by omega), no_blank hy]
  have h1 := need_zero x (cnt y) (fun c hc => word_small hx hc)
  cases hh : hasAll (sortL y) (sortL x)
  · refine decide_eq_false fun e => ?_
    have h2 := h1.1 (by omega)
    have : hasAll (sortL y) (sortL x) = true := hasAll_iff.2 fun k hk => by rw [cntS x hk, cntS y hk]; exact h2 k hk
    rw [hh] at this
    cases this
  · refine decide_eq_true ?_
    have h2 := hasAll_iff.1 hh
    have := h1.2 (fun k hk => by have := h2 k hk; rw [cntS x hk, cntS y hk] at this; exact this)
    omega
theorem sort_pile {l : List UInt8} (h : isWordB l = true) : pileB (sortL l) = true := by
  rw [pileB_iff]
  refine ⟨sortL_tiles l, sortL_asc l, ?_⟩
  rw [sortL_len (word_tiles h)]
  have := word_len h
  omega

/-! ### Lists picked from a rising one -/
theorem pickTo_rise {q : ByteArray → Bool} {us : List ByteArray} (hr : Rise us) (k : Nat) : Rise (pickTo q us k) := by
  rw [rise_pw] at hr ⊢
  have hs : (pickTo q us k).Sublist us := List.Sublist.trans List.filter_sublist (List.take_sublist k us)
  exact hr.sublist (hs.map bytesOf)
theorem pickTo_mem {q : ByteArray → Bool} {us : List ByteArray} {x : ByteArray} : x ∈ pickTo q us us.length ↔ x ∈ us ∧ q x = true := by
  unfold pickTo
  rw [List.take_length, List.mem_filter]
/-- Is a text among the first k of a list? -/
def hasTo (us : List ByteArray) (s : ByteArray) : Nat → Bool
  | 0 => false
  | k + 1 => hasTo us s k || decide (strAt us k = s)
theorem hasTo_iff {us : List ByteArray} {s : ByteArray} : ∀ {k : Nat}, k ≤ us.length → (hasTo us s k = true ↔ s ∈ us.take k)
  | 0, _ => by simp [hasTo]
  | k + 1, h => by
    rw [hasTo, Bool.or_eq_true, hasTo_iff (by omega), decide_eq_true_eq, List.take_succ_eq_append_getElem (by omega), List.mem_append, List.mem_singleton, strAt_eq (by omega)]
    exact or_congr_right eq_comm
theorem hasTo_mem {us : List ByteArray} {s : ByteArray} : hasTo us s us.length = true ↔ s ∈ us := by
  have h := hasTo_iff (us := us) (s := s) (Nat.le_refl _)
  rw [List.take_length] at h
  exact h

/-! ### The law's helpers -/
theorem rises_any {v : Value} {us : List ByteArray} (w : World) (h : Strs w v us) (hr : Rise us) :
    Calls Tryd.prog 10 #[v] w fun e w' => e = .returned (.bool true) ∧ Below w.heap.size w w' := by
  have hl := h.len
  obtain ⟨a, cap, rfl, hl1, hm, hc⟩ := h
  have HC := Shh.mk hc
  have HRI := Shh.mk hr
  clear hc hr
  go_enter Tryd.func10, Tryd.ntmps10
  go_wp2
  go_loopw [3] (fun i wr => ∃ k m : Nat, 1 ≤ k ∧ (k ≤ us.length ∨ k = 1) ∧ i = .int .i64 k ∧ wr = w.drewN m) (fun i _ => us.length + 1 - (intOf i).toNat)
  case atStart => exact ⟨1, 0, Nat.le_refl _, .inr rfl, rfl, rfl⟩
  case round =>
    obtain ⟨k, m, h1, hk, rfl, hw'⟩ := hrel
    have HW := Shh.mk hw'
    by_cases hlt : k < us.length
    · obtain ⟨j, hj⟩ : ∃ j, k = j + 1 := ⟨k - 1, by omega⟩
      obtain ⟨b, off, rfl, hb, hcc⟩ := HC.out (by omega)
      have ck : wr.cell? ⟨b, off + k, none⟩ = some (.string (strAt us k)) := by rw [hw']; exact hcc k hlt
      have cj : wr.cell? ⟨b, off + j, none⟩ = some (.string (strAt us j)) := by rw [hw']; exact hcc j (by omega)
      have hup := HRI.out j k (by omega) hlt
      obtain ⟨y, hy⟩ : ∃ y, strAt us k = y := ⟨_, rfl⟩
      obtain ⟨x, hx⟩ : ∃ x, strAt us j = x := ⟨_, rfl⟩
      rw [hy] at ck hup
      rw [hx] at cj hup
      have hjl : j < us.length := by omega
      have hp1 : (k : Int) - 1 = (j : Int) := by omega
      have hp3 : IntKind.i64.wrap (j : Int) = (j : Int) := IntWalk.i64_in _ (by omega)
      have hcmp := not_le (a := x) (b := y)
      rw [hup] at hcmp
      simp only [Bool.not_true] at hcmp
      clear hcc hy hx hw' hup hj hk
      go_wp2
      go_quiet (fail)
      go_wp2
      go_roundw
      case rel => exact ⟨k + 1, _, by omega, .inl (by omega), by go_num, by rw [HW.out]; exact World.drewN_drewN _ _ _⟩
      case measure => simp [intOf]; omega
    · clear hk
      go_wp2
      go_ret
      exact ⟨rfl, by first | exact below_drewN (Below.refl _ _) _ | (rw [HW.out]; exact below_drewN (Below.refl _ _) _)⟩
theorem in_any {v : Value} {us : List ByteArray} (s : ByteArray) (w : World) (h : Strs w v us) {t : Bool} (ht : hasTo us s us.length = t) :
    Calls Tryd.prog 13 #[v, .string s] w fun e w' => e = .returned (.bool t) ∧ w = w' := by
  have hl := h.len
  obtain ⟨a, cap, rfl, hl1, hm, hc⟩ := h
  have HC := Shh.mk hc
  have HT := Shh.mk ht
  clear hc ht
  go_enter Tryd.func13, Tryd.ntmps13
  go_wp2
  go_loop [5] (fun i => ∃ k : Nat, k ≤ us.length ∧ i = .int .i64 k ∧ Hid (hasTo us s k = false)) (fun i => us.length - (intOf i).toNat)
  case atStart => exact ⟨0, Nat.zero_le _, rfl, rfl⟩
  case round =>
    obtain ⟨k, hk, rfl, hn⟩ := hrel
    by_cases hlt : k < us.length
    · obtain ⟨b, off, rfl, hb, hcc⟩ := HC.out (by omega)
      have ck := hcc k hlt
      by_cases he : strAt us k = s
      · have HR := Shh.mk (show true = t by rw [← HT.out]; exact (hasTo_mem.2 (by rw [← he]; exact strAt_mem hlt)).symm)
        rw [he] at ck
        have heq := strSame s
        clear hcc he hn
        go_wp2
        go_ret
        exact ⟨ret_bool HR.out, rfl⟩
      · have HN : Hid (hasTo us s (k + 1) = false) := by rw [Hid, hasTo, hn, decide_eq_false he]; rfl
        obtain ⟨y, hy⟩ : ∃ y, strAt us k = y := ⟨_, rfl⟩
        rw [hy] at ck he
        have heq : (y.toList == s.toList) = false := strNe he
        clear hcc hy he hn
        go_wp2
        go_round
        case rel => exact ⟨k + 1, by omega, by go_num, HN⟩
        case measure => simp [intOf]; omega
    · obtain rfl : k = us.length := by omega
      have HR := Shh.mk (show false = t by rw [← HT.out]; exact hn.symm)
      clear hn
      go_wp2
      go_ret
      exact ⟨ret_bool HR.out, rfl⟩
theorem long_any {v u : Value} {zs ys : List Int} (w : World) (hz : Ints .u8 w v zs) (hy : Ints .u8 w u ys) {t : Bool} (ht : (decide (3000 < zs.length) || decide (3000 < ys.length)) = t) :
    Calls Tryd.prog 4 #[v, u] w fun e w' => e = .returned (.bool t) ∧ w = w' := by
  have hl := hz.len
  have hl2 := hy.len
  obtain ⟨a, cap, rfl, -⟩ := hz
  obtain ⟨b, cap2, rfl, -⟩ := hy
  by_cases h : 3000 < zs.length
  · have h1 : (3000 : Int) < (zs.length : Int) := by omega
    have HR := Shh.mk (show true = t by rw [← ht, decide_eq_true h]; rfl)
    clear ht
    go_enter Tryd.func4, Tryd.ntmps4
    go_wp2
    go_ret
    exact ⟨ret_bool HR.out, rfl⟩
  · have h1 : ¬ (3000 : Int) < (zs.length : Int) := by omega
    by_cases h2 : 3000 < ys.length
    · have h3 : (3000 : Int) < (ys.length : Int) := by omega
      have HR := Shh.mk (show true = t by rw [← ht, decide_eq_false h, decide_eq_true h2]; rfl)
      clear ht
      go_enter Tryd.func4, Tryd.ntmps4
      go_wp2
      go_ret
      exact ⟨ret_bool HR.out, rfl⟩
    · have h3 : ¬ (3000 : Int) < (ys.length : Int) := by omega
      have HR := Shh.mk (show false = t by rw [← ht, decide_eq_false h, decide_eq_false h2]; rfl)
      clear ht
      go_enter Tryd.func4, Tryd.ntmps4
      go_wp2
      go_ret
      exact ⟨ret_bool HR.out, rfl⟩

/-! ### The model, of sorted words -/
theorem sorted_size (x : ByteArray) (h : isWordB x.data.toList = true) : (sortT x).size ≤ 12 := by
  unfold sortT
  rw [txt_size, sortL_len (word_tiles h)]
  exact word_len h
theorem tilesS_is {x T : ByteArray} (h : sortT x = T) (w : World) (hx : isWordB x.data.toList = true) : Calls Tryd.prog 9 #[.string x] w fun e w' => e = .returned (.string T) ∧ Below w.heap.size w w' := by
  have hs : x.size ≤ 1048576 := by
    have := word_len hx
    rw [Array.length_toList] at this
    exact Nat.le_trans this (by decide)
  have := specTilesOfWord_any x w hs
  rw [word_out hx] at this
  rw [← h]
  exact this
set_option maxHeartbeats 1000000 in
theorem contains_is {a b : ByteArray} {t : Bool} (w : World) (ha : a.size ≤ 1048576) (hb : b.size ≤ 1048576) (h1 : pileB a.data.toList = true) (h2 : pileB b.data.toList = true) (ht : hasAll a.data.toList b.data.toList = t) :
    Calls Tryd.prog 12 #[.string a, .string b] w fun e w' => e = .returned (.bool t) ∧ Below w.heap.size w w' := by
  obtain ⟨X, hX⟩ : ∃ X, (takeL a.data.toList b.data.toList).1 = X := ⟨_, rfl⟩
  have HX := Shh.mk hX
  have HE := Shh.mk ((takeL_empty h1 h2).trans ht)
  have HP := Shh.mk h1
  have HQ := Shh.mk h2
  clear hX h1 h2 ht
  go_enter Tryd.func12, Tryd.ntmps12
  go_wp2_with fail
  refine (l03Take_is HX.out HE.out _ ha hb).mono ?_
  rintro e w1 ⟨rfl, hb1⟩
  go_wp2_with fail
  refine (pile_is HP.out _ ha).mono ?_
  rintro e w2 ⟨rfl, hb2⟩
  go_wp2_with fail
  refine (pile_is HQ.out _ hb).mono ?_
  rintro e w3 ⟨rfl, hb3⟩
  go_wp2
  go_ret
  exact ⟨rfl, (hb1.trans (hb2.mono hb1.size)).trans (hb3.mono (by have := hb1.size; have := hb2.size; omega))⟩
end Go.Proofs.YtdleinognmdfmaaDoor

namespace Go.Proofs.YtdleinognmdfmaaDoor
open Go.RowKit Go.Lib

/-- What the program answers of a drawn lexicon and a drawn word. -/
structure Ana (us : List ByteArray) (y : ByteArray) (A G : List ByteArray) : Prop where
  word : isWordB y.data.toList = true
  ok : okL us = true
  lus : us.length ≤ 16
  small : ∀ x ∈ us, isWordB x.data.toList = true
  ana : anaOut us y = (A, 0)
  made : fromOut us (sortT y) = (G, 0)
  riseA : Rise A
  riseG : Rise G
  la : A.length ≤ 16
  lg : G.length ≤ 16
  inA : ∀ x ∈ A, x ∈ us ∧ sortT x = sortT y
  both : ∀ x ∈ us, hasTo G x G.length = hasAll (sortL y.data.toList) (sortL x.data.toList)
  last : hasL us y = (decide (0 < A.length) && hasTo A y A.length)
theorem ana_of {us : List ByteArray} {y : ByteArray} (h : Drawn us) (hy : y ∈ someL) : ∃ A G, Ana us y A G := by
  have hw : ∀ x ∈ someL, isWordB x.data.toList = true := fun x hx => long_word (some_long hx)
  have hyw := hw y hy
  have hp : pileB (sortT y).data.toList = true := by unfold sortT; rw [txt_list]; exact sort_pile hyw
  have hl1 := pickTo_len (sameQ y) us us.length
  have hl2 := pickTo_len (canQ (sortT y)) us us.length
  have hlu := h.len
  refine ⟨pickTo (sameQ y) us us.length, pickTo (canQ (sortT y)) us us.length, hyw, h.ok, hlu, fun x hx => hw x (h.mem x hx), anaOut_yes h.ok hyw, fromOut_yes h.ok hp, pickTo_rise h.rise _, pickTo_rise h.rise _, by omega, by omega, fun x hx => ?_, fun x hx => ?_, ?_⟩
  · rw [pickTo_mem] at hx
    exact ⟨hx.1, of_decide_eq_true hx.2⟩
  · rw [Bool.eq_iff_iff, hasTo_mem, pickTo_mem]
    have hxw := hw x (h.mem x hx)
    have := can_has hyw hxw
    have hq : canQ (sortT y) x = hasAll (sortL y.data.toList) (sortL x.data.toList) := by unfold canQ sortT; rw [txt_list]; exact this
    rw [hq]
    exact ⟨fun e => e.2, fun e => ⟨hx, e⟩⟩
  · rw [Bool.eq_iff_iff, hasL_mem h.rise, Bool.and_eq_true, decide_eq_true_eq, hasTo_mem, pickTo_mem]
    constructor
    · intro e
      have hm : y ∈ pickTo (sameQ y) us us.length := pickTo_mem.2 ⟨e, by simp [sameQ]⟩
      exact ⟨List.length_pos_of_mem hm, e, by simp [sameQ]⟩
    · intro e
      exact e.2.1
theorem same_txtS (s : ByteArray) : (s.toList != s.toList) = false := by simp

theorem tilesS_on {x T : ByteArray} (h : sortT x = T) (hx : isWordB x.data.toList = true) (a w : World) (hb : Below a.heap.size a w) : Calls Tryd.prog 9 #[.string x] w fun e w' => e = .returned (.string T) ∧ Below a.heap.size a w' :=
  (tilesS_is h w hx).mono fun _ _ ⟨h1, h2⟩ => ⟨h1, hb.trans (h2.mono hb.size)⟩
theorem word_sizeS {x : ByteArray} (h : isWordB x.data.toList = true) : x.size ≤ 1048576 := by
  have := word_len h
  rw [Array.length_toList] at this
  exact Nat.le_trans this (by decide)
theorem sizes_us {us : List ByteArray} (h : ∀ x ∈ us, isWordB x.data.toList = true) : ∀ x ∈ us, x.size ≤ maxLen := fun x hx => by
  have := word_sizeS (h x hx)
  unfold maxLen
  omega
theorem madeI_on {us G : List ByteArray} {p : ByteArray} {v : Value} (h : fromOut us p = (G, 0)) (a w : World) (hb : Below a.heap.size a w) (hu : Strs a v us) (hz : ∀ s ∈ us, s.size ≤ maxLen) (hp : p.size ≤ 1048576) :
    Calls Tryd.prog 8 #[.agg #[v], .string p] w fun e w' => ∃ c d, e = .returned (.tuple #[.slice c G.length d, .int .i64 0]) ∧ OwnS a.heap.size w' (.slice c G.length d) G ∧ Below a.heap.size a w' := by
  refine (implWordsFrom_any p w (hu.below hb) hz hp).mono ?_
  rw [h]
  rintro e w' ⟨v0, rfl, ho, hb2⟩
  have ho : OwnS w.heap.size w' v0 G := ho
  obtain ⟨c, d, rfl, -⟩ := own_form ho
  exact ⟨c, d, rfl, OwnS.lower ho hb.size, hb.trans (hb2.mono hb.size)⟩
theorem hasS_on {us : List ByteArray} {s : ByteArray} {v : Value} {t : Bool} (h : hasOut us s = t) (a w : World) (hb : Below a.heap.size a w) (hu : Strs a v us) (hz : ∀ s ∈ us, s.size ≤ maxLen) (hs : s.size ≤ 1048576) :
    Calls Tryd.prog 11 #[.agg #[v], .string s] w fun e w' => e = .returned (.bool t) ∧ Below a.heap.size a w' := by
  rw [← h]
  exact (specHasWord_any s w (hu.below hb) hz hs).mono fun _ _ ⟨h1, h2⟩ => ⟨h1, hb.trans (h2.mono hb.size)⟩
theorem containsS_on {A B : List UInt8} {t : Bool} (a w : World) (hb : Below a.heap.size a w) (hA : pileB A = true) (hB : pileB B = true) (ht : hasAll A B = t) :
    Calls Tryd.prog 12 #[.string (txt A), .string (txt B)] w fun e w' => e = .returned (.bool t) ∧ Below a.heap.size a w' := by
  have h1 := (pileB_iff.1 hA).2.2
  have h2 := (pileB_iff.1 hB).2.2
  refine (contains_is w (by rw [txt_size]; omega) (by rw [txt_size]; omega) (by rw [txt_list]; exact hA) (by rw [txt_list]; exact hB) (by rw [txt_list, txt_list]; exact ht)).mono fun _ _ ⟨h1, h2⟩ => ⟨h1, hb.trans (h2.mono hb.size)⟩
end Go.Proofs.YtdleinognmdfmaaDoor
