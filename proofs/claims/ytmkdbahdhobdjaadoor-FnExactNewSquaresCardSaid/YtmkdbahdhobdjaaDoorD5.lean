/-
  Placed words and their tiles: the program's and the model's.
  Placed words and their tiles: the model's.
-/
import Derived.Test.YtmkdbahdhobdjaaDoorN5
import Derived.Test.YtmkdbahdhobdjaaDoorO4
import Derived.Test.YtmkdbahdhobdjaaDoorO2
import Derived.Laws.IdiomStrings
namespace Go.Proofs.YtmkdbahdhobdjaaDoor
open Go.RowKit

/-! ### The program's -/
set_option maxHeartbeats 400000 in
theorem isCapital_any (c : Int) (w : World) : Calls Tryd.prog 100 #[.int .i32 c] w fun e w' => e = .returned (.bool (capB c)) ∧ w = w' := by
  by_cases h1 : 65 ≤ c
  · by_cases h2 : c ≤ 90
    · rw [capB_iff.2 ⟨h1, h2⟩]
      go_enter Tryd.func100, Tryd.ntmps100
      go_wp2
      go_ret
      exact ⟨rfl, rfl⟩
    · rw [capB_no (fun h => h2 h.2)]
      go_enter Tryd.func100, Tryd.ntmps100
      go_wp2
      go_ret
      exact ⟨rfl, rfl⟩
  · rw [capB_no (fun h => h1 h.1)]
    go_enter Tryd.func100, Tryd.ntmps100
    go_wp2
    go_ret
    exact ⟨rfl, rfl⟩
theorem capital_is {c : Int} {b : Bool} (h : capB c = b) (w : World) : Calls Tryd.prog 100 #[.int .i32 c] w fun e w' => e = .returned (.bool b) ∧ w = w' := by
  rw [← h]
  exact isCapital_any c w
theorem ret_i32 {a b : Int} (h : a = b) : Ending.returned (.int .i32 a) = .returned (.int .i32 b) := by rw [h]
set_option maxHeartbeats 400000 in
theorem smallLetter_any (x : Nat) (hx : x ≤ 1114111) (w : World) : Calls Tryd.prog 107 #[.int .i32 (x : Int)] w fun e w' => e = .returned (.int .i32 (smallF x)) ∧ w = w' := by
  by_cases h : 65 ≤ (x : Int) ∧ (x : Int) ≤ 90
  · have HF := Shh.mk (show smallF x = (x : Int) - 65 + 97 by unfold smallF; rw [if_pos h]; omega)
    have HC := Shh.mk (capB_iff.2 h)
    obtain ⟨h1, h2⟩ := h
    go_enter Tryd.func107, Tryd.ntmps107
    go_wp2_with (go_at_call 100; refine (capital_is HC.out _).mono ?_; rintro e w' ⟨rfl, rfl⟩)
    go_ret
    exact ⟨ret_i32 HF.out.symm, rfl⟩
  · have HF := Shh.mk (show smallF x = (x : Int) by unfold smallF; rw [if_neg h])
    have HC := Shh.mk (capB_no h)
    clear h
    go_enter Tryd.func107, Tryd.ntmps107
    go_wp2_with (go_at_call 100; refine (capital_is HC.out _).mono ?_; rintro e w' ⟨rfl, rfl⟩)
    go_ret
    exact ⟨ret_i32 HF.out.symm, rfl⟩
set_option maxHeartbeats 400000 in
theorem tileForLetter_any (x : Nat) (w : World) : Calls Tryd.prog 51 #[.int .i32 (x : Int)] w fun e w' => e = .returned (.int .i32 (tileF x)) ∧ w = w' := by
  by_cases h : 65 ≤ (x : Int) ∧ (x : Int) ≤ 90
  · have HF := Shh.mk (show tileF x = 63 by unfold tileF; rw [if_pos h])
    have HC := Shh.mk (capB_iff.2 h)
    clear h
    go_enter Tryd.func51, Tryd.ntmps51
    go_wp2_with (go_at_call 100; refine (capital_is HC.out _).mono ?_; rintro e w' ⟨rfl, rfl⟩)
    go_ret
    exact ⟨ret_i32 HF.out.symm, rfl⟩
  · have HF := Shh.mk (show tileF x = (x : Int) by unfold tileF; rw [if_neg h])
    have HC := Shh.mk (capB_no h)
    clear h
    go_enter Tryd.func51, Tryd.ntmps51
    go_wp2_with (go_at_call 100; refine (capital_is HC.out _).mono ?_; rintro e w' ⟨rfl, rfl⟩)
    go_ret
    exact ⟨ret_i32 HF.out.symm, rfl⟩
theorem small_grows (w : World) : MapGrows Tryd.prog 107 #[] smallF w := by
  intro W x hx _
  exact (smallLetter_any x hx W).mono fun _ _ ⟨he, hw⟩ => ⟨he, hw ▸ Below.refl _ _⟩
theorem tile_grows (w : World) : MapGrows Tryd.prog 51 #[] tileF w := by
  intro W x _ _
  exact (tileForLetter_any x W).mono fun _ _ ⟨he, hw⟩ => ⟨he, hw ▸ Below.refl _ _⟩
/-- The decoder's tables, as the world holds them. -/
def Tabs (w : World) : Prop := Lib.Utf8Tabs 0 1 w
theorem Tabs.on {w w' : World} (h : Tabs w) (hb : Below w.heap.size w w') : Tabs w' :=
  ⟨fun c hc => (hb.cell (World.block_lt_of_cell? w _ (h.1 c hc))).trans (h.1 c hc),
   fun i hi => ⟨(hb.cell (World.block_lt_of_cell? w _ (h.2 i hi).1)).trans (h.2 i hi).1, (hb.cell (World.block_lt_of_cell? w _ (h.2 i hi).2)).trans (h.2 i hi).2⟩⟩
theorem smallF_bounds : ∀ x : Nat, x ≤ 1114111 → -2147483648 ≤ smallF x ∧ smallF x ≤ 2147483647 := by
  intro x hx
  unfold smallF
  split <;> omega
theorem tileF_bounds : ∀ x : Nat, x ≤ 1114111 → -2147483648 ≤ tileF x ∧ tileF x ≤ 2147483647 := by
  intro x hx
  unfold tileF
  split <;> omega
set_option maxRecDepth 100000 in
theorem map_small_any (s : ByteArray) (w : World) (hs : s.size ≤ 1048576) (hT : Tabs w) :
    Calls Tryd.prog 50 #[.func (.func 107) #[] #[], .string s] w fun e w' => e = .returned (.string (txt (Lib.mapD smallF s.data.toList))) ∧ Below w.heap.size w w' :=
  Tryd.strings_Map_grows 107 #[] (fun _ _ => rfl) smallF s w (by omega) (small_grows w) smallF_bounds hT
set_option maxRecDepth 100000 in
theorem map_tile_any (s : ByteArray) (w : World) (hs : s.size ≤ 1048576) (hT : Tabs w) :
    Calls Tryd.prog 50 #[.func (.func 51) #[] #[], .string s] w fun e w' => e = .returned (.string (txt (Lib.mapD tileF s.data.toList))) ∧ Below w.heap.size w w' :=
  Tryd.strings_Map_grows 51 #[] (fun _ _ => rfl) tileF s w (by omega) (tile_grows w) tileF_bounds hT
theorem word_txt {X : List UInt8} {b : Bool} (h : isWordB X = b) (w : World) (hX : X.length ≤ 9000000) :
    Calls Tryd.prog 174 #[.string (txt X)] w fun e w' => e = .returned (.bool b) ∧ Below w.heap.size w w' := by
  have := implIsWord_any (txt X) w (by rw [txt_size]; unfold maxLen; omega)
  rw [txt_list, h] at this
  exact this
set_option maxHeartbeats 1000000 in
theorem isPlacedWord_any (s : ByteArray) (w : World) (hs : s.size ≤ 1048576) (hT : Tabs w) :
    Calls Tryd.prog 153 #[.string s] w fun e w' => e = .returned (.bool (placedL s.data.toList)) ∧ Below w.heap.size w w' := by
  have hl := map_len _ smallF s.data.toList (Nat.le_refl _)
  rw [len_list] at hl
  have hw := word_placed s.data.toList
  obtain ⟨X, hX⟩ : ∃ X, Lib.mapD smallF s.data.toList = X := ⟨_, rfl⟩
  rw [hX] at hl hw
  have HM := Shh.mk (map_small_any s w hs hT)
  have HX := Shh.mk hX
  have HW := Shh.mk hw
  clear hX hw hT
  go_enter Tryd.func153, Tryd.ntmps153
  go_wp2_with fail
  refine HM.out.mono ?_
  rw [HX.out]
  rintro e w1 ⟨rfl, hb1⟩
  go_wp2_with fail
  refine (word_txt HW.out _ (by omega)).mono ?_
  rintro e w2 ⟨rfl, hb2⟩
  go_wp2
  go_ret
  exact ⟨rfl, hb1.trans (hb2.mono hb1.size)⟩
theorem placed_is {s : ByteArray} {b : Bool} (h : placedL s.data.toList = b) (w : World) (hs : s.size ≤ 1048576) (hT : Tabs w) :
    Calls Tryd.prog 153 #[.string s] w fun e w' => e = .returned (.bool b) ∧ Below w.heap.size w w' := by
  rw [← h]
  exact isPlacedWord_any s w hs hT
theorem sort_out {X : List UInt8} {P : List UInt8 × Int} (h : sortOut X = P) (w : World) (hX : X.length ≤ 1048576) :
    Calls Tryd.prog 49 #[.string (txt X)] w fun e w' => e = .returned (ret2 P) ∧ Below w.heap.size w w' := by
  have := implSortTiles_any (txt X) w (by rw [txt_size]; exact hX)
  rw [txt_list, h] at this
  exact this
theorem ret_txt {X Y : List UInt8} (h : X = Y) : Ending.returned (.string (txt X)) = .returned (.string (txt Y)) := by rw [h]
set_option maxHeartbeats 1000000 in
theorem implTilesOfWord_any (s : ByteArray) (w : World) (hs : s.size ≤ 1048576) (hT : Tabs w) :
    Calls Tryd.prog 127 #[.string s] w fun e w' => e = .returned (.string (txt (tilesOut s.data.toList))) ∧ Below w.heap.size w w' := by
  cases hp : placedL s.data.toList
  · have HR := Shh.mk (tilesOut_no hp)
    have HP := Shh.mk (placed_is hp w hs hT)
    clear hp hT
    go_enter Tryd.func127, Tryd.ntmps127
    go_wp2_with fail
    refine HP.out.mono ?_
    rintro e w1 ⟨rfl, hb1⟩
    go_wp2
    go_ret
    exact ⟨ret_txt HR.out.symm, hb1⟩
  · have hlet := placed_let hp
    have hlen := placed_len hp
    have hm := map_tile hlet
    have ht := map_tiles hlet
    obtain ⟨X, hX⟩ : ∃ X, s.data.toList.map tileU = X := ⟨_, rfl⟩
    have hXl : X.length ≤ 12 := by rw [← hX, List.length_map]; exact hlen
    rw [hX] at hm ht
    have HM := Shh.mk hm
    have hy := sortOut_yes ht (by omega)
    have hr := tilesOut_yes hp
    rw [hX] at hr
    obtain ⟨Y, hY⟩ : ∃ Y, sortL X = Y := ⟨_, rfl⟩
    rw [hY] at hy hr
    have HS := Shh.mk hy
    have HR := Shh.mk hr
    have HP := Shh.mk (placed_is hp w hs hT)
    have HT := Shh.mk hT
    clear hp hT hlet hlen hm ht hX hy hr hY
    go_enter Tryd.func127, Tryd.ntmps127
    go_wp2_with fail
    refine HP.out.mono ?_
    rintro e w1 ⟨rfl, hb1⟩
    go_wp2_with fail
    refine (map_tile_any s _ hs (HT.out.on hb1)).mono ?_
    rw [HM.out]
    rintro e w2 ⟨rfl, hb2⟩
    go_wp2_with fail
    refine (sort_out HS.out _ (by omega)).mono ?_
    rintro e w3 ⟨rfl, hb3⟩
    have hB2 := hb1.trans (hb2.mono hb1.size)
    unfold ret2
    go_wp2
    go_ret
    exact ⟨ret_txt HR.out.symm, hB2.trans (hb3.mono hB2.size)⟩
end Go.Proofs.YtmkdbahdhobdjaaDoor

namespace Go.Proofs.YtmkdbahdhobdjaaDoor
open Go.RowKit

set_option maxHeartbeats 400000 in
theorem l03Capital_any (c : Int) (w : World) : Calls Tryd.prog 85 #[.int .u8 c] w fun e w' => e = .returned (.bool (capB c)) ∧ w = w' := by
  by_cases h1 : 65 ≤ c
  · by_cases h2 : c ≤ 90
    · rw [capB_iff.2 ⟨h1, h2⟩]
      go_enter Tryd.func85, Tryd.ntmps85
      go_wp2
      go_ret
      exact ⟨rfl, rfl⟩
    · rw [capB_no (fun h => h2 h.2)]
      go_enter Tryd.func85, Tryd.ntmps85
      go_wp2
      go_ret
      exact ⟨rfl, rfl⟩
  · rw [capB_no (fun h => h1 h.1)]
    go_enter Tryd.func85, Tryd.ntmps85
    go_wp2
    go_ret
    exact ⟨rfl, rfl⟩
theorem cap_is {c : Int} {b : Bool} (h : capB c = b) (w : World) : Calls Tryd.prog 85 #[.int .u8 c] w fun e w' => e = .returned (.bool b) ∧ w = w' := by
  rw [← h]
  exact l03Capital_any c w
theorem small_is {c : Int} {b : Bool} (h : smallB c = b) (w : World) : Calls Tryd.prog 133 #[.int .u8 c] w fun e w' => e = .returned (.bool b) ∧ w = w' := by
  rw [← h]
  exact l01Small_any c w
theorem let_grows (s : ByteArray) (k : Nat) (h : k < s.size) : allLet (s.data.toList.take (k + 1)) = (allLet (s.data.toList.take k) && letB ((s[k]'h).toNat : Int)) := by
  rw [take_grows s k h]
  simp [allLet]
theorem placed_not (s : ByteArray) (k : Nat) (h : k < s.size) (h1 : smallB ((s[k]'h).toNat : Int) = false) (h2 : capB ((s[k]'h).toNat : Int) = false) : placedL s.data.toList = false := by
  cases hp : placedL s.data.toList
  · rfl
  · have := placed_let hp
    unfold allLet at this
    rw [List.all_eq_true] at this
    have := this _ (at_mem s k h)
    unfold letB at this
    rw [h1, h2] at this
    cases this
theorem placed_end (s : ByteArray) (h : allLet s.data.toList = true) : inB (s.size : Int) 1 12 = placedL s.data.toList := by
  have hl := len_list s
  rw [Bool.eq_iff_iff]
  simp only [placedL, h, inB, hl, Bool.true_and, Bool.and_eq_true, decide_eq_true_eq]
  omega

set_option maxHeartbeats 1000000 in
theorem l03Placed_any (s : ByteArray) (w : World) (hs : s.size ≤ 1048576) :
    Calls Tryd.prog 148 #[.string s] w fun e w' => e = .returned (.bool (placedL s.data.toList)) ∧ w = w' := by
  go_enter Tryd.func148, Tryd.ntmps148
  go_wp2
  go_loop [3] (fun i => ∃ k : Nat, k ≤ s.size ∧ i = .int .i64 k ∧ Shh (allLet (s.data.toList.take k) = true)) (fun i => s.size - (intOf i).toNat)
  case atStart => exact ⟨0, Nat.zero_le _, rfl, ⟨rfl⟩⟩
  case round =>
    obtain ⟨k, hk, rfl, ha⟩ := hrel
    by_cases hlt : k < s.size
    · have hg := Shh.mk (let_grows s k hlt)
      cases h1 : smallB ((s[k]'hlt).toNat : Int)
      · cases h2 : capB ((s[k]'hlt).toNat : Int)
        · have HN := Shh.mk (placed_not s k hlt h1 h2)
          have H1 := Shh.mk h1
          have H2 := Shh.mk h2
          clear h1 h2
          go_wp2_with (first
            | (go_at_call 133; refine (small_is H1.out _).mono ?_; rintro e w' ⟨rfl, rfl⟩)
            | (go_at_call 85; refine (cap_is H2.out _).mono ?_; rintro e w' ⟨rfl, rfl⟩))
          go_ret
          exact ⟨ret_bool HN.out.symm, rfl⟩
        · have HL := Shh.mk (show letB ((s[k]'hlt).toNat : Int) = true by unfold letB; rw [h2, Bool.or_true])
          have H1 := Shh.mk h1
          have H2 := Shh.mk h2
          clear h1 h2
          go_wp2_with (first
            | (go_at_call 133; refine (small_is H1.out _).mono ?_; rintro e w' ⟨rfl, rfl⟩)
            | (go_at_call 85; refine (cap_is H2.out _).mono ?_; rintro e w' ⟨rfl, rfl⟩))
          go_round
          case rel => exact ⟨k + 1, by omega, by go_num, ⟨by rw [hg.out, ha.out, HL.out]; rfl⟩⟩
          case measure => simp [intOf]; omega
      · have HL := Shh.mk (show letB ((s[k]'hlt).toNat : Int) = true by unfold letB; rw [h1, Bool.true_or])
        have H1 := Shh.mk h1
        clear h1
        go_wp2_with (go_at_call 133; refine (small_is H1.out _).mono ?_; rintro e w' ⟨rfl, rfl⟩)
        go_round
        case rel => exact ⟨k + 1, by omega, by go_num, ⟨by rw [hg.out, ha.out, HL.out]; rfl⟩⟩
        case measure => simp [intOf]; omega
    · have hkk : k = s.size := by omega
      have HP := Shh.mk (placed_end s (by have := ha.out; rwa [hkk, take_all] at this))
      clear ha hkk
      go_wp2_with (go_at_call 113; refine (l00In_any _ _ _ _).mono ?_; rintro e w' ⟨rfl, rfl⟩)
      go_ret
      exact ⟨ret_bool HP.out, rfl⟩
theorem lplaced_is {s : ByteArray} {b : Bool} (h : placedL s.data.toList = b) (w : World) (hs : s.size ≤ 1048576) : Calls Tryd.prog 148 #[.string s] w fun e w' => e = .returned (.bool b) ∧ w = w' := by
  rw [← h]
  exact l03Placed_any s w hs

/-- The first k letters made tiles. -/
def tiledTo (l : List UInt8) (k : Nat) : List UInt8 := (l.take k).map tileU ++ l.drop k
theorem tiled_zero (l : List UInt8) : tiledTo l 0 = l := by simp [tiledTo]
theorem tiled_all (l : List UInt8) : tiledTo l l.length = l.map tileU := by simp [tiledTo]
theorem tiled_len (l : List UInt8) (k : Nat) : (tiledTo l k).length = l.length := by
  unfold tiledTo
  rw [List.length_append, List.length_map, ← List.length_append, List.take_append_drop]
theorem tiled_at (s : ByteArray) {k : Nat} (h : k < s.size) : (tiledTo s.data.toList k)[k]? = some (s[k]'h) := by
  have hl := len_list s
  unfold tiledTo
  rw [List.getElem?_append_right (by simp; omega), drop_at s h]
  simp [Nat.min_eq_left (show k ≤ s.size by omega)]
theorem tiled_set (s : ByteArray) {k : Nat} (h : k < s.size) : (tiledTo s.data.toList k).set k (tileU (s[k]'h)) = tiledTo s.data.toList (k + 1) := by
  have hl := len_list s
  unfold tiledTo
  rw [List.set_append_right _ _ (by simp; omega), drop_at s h, take_grows s k h]
  simp [Nat.min_eq_left (show k ≤ s.size by omega)]
theorem tiled_same (s : ByteArray) {k : Nat} (h : k < s.size) (e : tileU (s[k]'h) = s[k]'h) : tiledTo s.data.toList k = tiledTo s.data.toList (k + 1) := by
  rw [← tiled_set s h, e]
  apply List.ext_getElem?
  intro i
  rw [List.getElem?_set]
  by_cases hi : k = i
  · subst hi
    rw [if_pos rfl, if_pos (by rw [tiled_len, len_list]; exact h), tiled_at s h]
  · rw [if_neg hi]

/-- A row of bytes that a conversion has made, in block g: its first n cells hold l; what lies behind it is frozen. -/
def FrB (w : World) (g n : Nat) (l : List UInt8) : Prop :=
  ∃ cs : Array Value, w.heap[g]? = some (.cells cs 5 (cs.size, cs.size + 1)) ∧ l.length = n ∧ n ≤ cs.size ∧ ∀ (j : Nat) (c : UInt8), l[j]? = some c → cs[j]? = some (Value.int .u8 (c.toNat : Int))
theorem FrB.cell {w : World} {g n : Nat} {l : List UInt8} (h : FrB w g n l) {j : Nat} {c : UInt8} (hj : l[j]? = some c) : w.cell? ⟨g, j, none⟩ = some (.int .u8 (c.toNat : Int)) := by
  obtain ⟨cs, h1, _, _, h4⟩ := h
  rw [cell_of_row w g j cs _ _ h1]
  exact h4 j c hj
theorem FrB.mark {w : World} {g n : Nat} {l : List UInt8} (h : FrB w g n l) {j : Nat} (hj : j < n) : w.frozen? ⟨g, j, none⟩ = false := by
  obtain ⟨cs, h1, _, h3, _⟩ := h
  simp [World.frozen?, h1]
  omega
theorem FrB.store {w : World} {g n : Nat} {l : List UInt8} (h : FrB w g n l) {j : Nat} (hj : j < n) (c : UInt8) : FrB (w.setCell ⟨g, j, none⟩ (.int .u8 (c.toNat : Int))) g n (l.set j c) := by
  obtain ⟨cs, h1, h2, h3, h4⟩ := h
  refine ⟨cs.setIfInBounds j (.int .u8 (c.toNat : Int)), ?_, by rw [List.length_set]; exact h2, by simpa using h3, fun i x hx => ?_⟩
  · simp [World.setCell, Array.getElem?_modify, h1]
  · rw [List.getElem?_set] at hx
    rw [Array.getElem?_setIfInBounds]
    by_cases e : j = i
    · subst e
      rw [if_pos rfl, if_pos (by omega)] at hx
      rw [if_pos rfl, if_pos (by omega), ← Option.some.inj hx]
    · rw [if_neg e] at hx
      rw [if_neg e]
      exact h4 i x hx
theorem frb_made (w : World) (s : ByteArray) (cap : Nat) : FrB (w.drew.alloc (.cells (bytesRow s cap) 5 ((bytesRow s cap).size, (bytesRow s cap).size + 1))) w.heap.size s.size s.data.toList := by
  refine ⟨bytesRow s cap, ?_, by simp, ?_, fun j c hc => ?_⟩
  · exact heap_alloc_new w.drew _
  · have e1 : (bytesRow s cap).size = s.data.size + (cap - s.size) := by
      unfold bytesRow
      rw [Array.size_append, Array.size_map, Array.size_replicate]
    have e2 : s.size = s.data.size := rfl
    omega
  · have hj : j < s.data.size := by
      rcases Nat.lt_or_ge j s.data.size with h | h
      · exact h
      · rw [List.getElem?_eq_none (by simpa using h)] at hc; cases hc
    unfold bytesRow
    rw [Array.getElem?_append_left (by simpa using hj), Array.getElem?_map]
    rw [Array.getElem?_toList] at hc
    rw [hc]
    rfl
theorem conv_fr {w : World} {g n cap : Nat} {l : List UInt8} (h : FrB w g n l) : (convert 79 9 (.slice (some ⟨g, 0, none⟩) n cap)).run Tryd.prog w = .ok (.string (txt l)) w := by
  have hl : l.length = n := h.choose_spec.2.1
  subst hl
  exact run_convert_bytes_back w 79 9 5 ⟨g, 0, none⟩ cap l Tryd.underlying79 Tryd.underlying5 Tryd.underlying9 (fun j hj => by
    have e : (⟨g, 0, none⟩ : Addr).add j = ⟨g, j, none⟩ := by unfold Addr.add; split <;> simp_all
    rw [e]
    exact h.cell (List.getElem?_eq_getElem hj))
theorem sort_txt (A : List UInt8) (w : World) (hs : A.length ≤ 1048576) (ht : allTiles A = true) :
    Calls Tryd.prog 86 #[.string (txt A)] w fun e w' => e = .returned (.string (txt (sortL A))) ∧ Below w.heap.size w w' := by
  have := l03Sort_any (txt A) w (by rw [txt_size]; exact hs) (by rw [txt_list]; exact ht)
  rw [txt_list] at this
  exact this

set_option maxRecDepth 100000 in
set_option maxHeartbeats 2000000 in
theorem l03Tiles_any {Y : List UInt8} (s : ByteArray) (w : World) (hs : s.size ≤ 12) (hlet : allLet s.data.toList = true) (hY : sortL (s.data.toList.map tileU) = Y) :
    Calls Tryd.prog 46 #[.string s] w fun e w' => e = .returned (.string (txt Y)) ∧ Below w.heap.size w w' := by
  have HY := Shh.mk hY
  clear hY
  have hcv := run_bytes_of_string (P := Tryd.prog) w 9 79 5 s Tryd.underlying9 Tryd.underlying79 Tryd.underlying5
  have hfb := frb_made w s (grownCap w s.size 0 5)
  have hB := ((Below.refl w.heap.size w).drew).alloc (Nat.le_refl _) (.cells (bytesRow s (grownCap w s.size 0 5)) 5 ((bytesRow s (grownCap w s.size 0 5)).size, (bytesRow s (grownCap w s.size 0 5)).size + 1))
  obtain ⟨W, hW⟩ : ∃ W, w.drew.alloc (.cells (bytesRow s (grownCap w s.size 0 5)) 5 ((bytesRow s (grownCap w s.size 0 5)).size, (bytesRow s (grownCap w s.size 0 5)).size + 1)) = W := ⟨_, rfl⟩
  rw [hW] at hcv hfb hB
  obtain ⟨cap, hcap⟩ : ∃ cap, grownCap w s.size 0 5 = cap := ⟨_, rfl⟩
  rw [hcap] at hcv
  have HF := Shh.mk hfb
  have HB := Shh.mk hB
  have HL := Shh.mk hlet
  clear hW hfb hB hcap hlet
  go_enter Tryd.func46, Tryd.ntmps46
  go_wp2
  go_loopw [4] (fun i wr => ∃ k : Nat, k ≤ s.size ∧ i = .int .i64 k ∧ Shh (FrB wr w.heap.size s.size (tiledTo s.data.toList k)) ∧ Shh (Below w.heap.size w wr)) (fun i _ => s.size - (intOf i).toNat)
  case atStart => exact ⟨0, Nat.zero_le _, rfl, ⟨by rw [tiled_zero]; exact HF.out⟩, HB⟩
  case round =>
    obtain ⟨k, hk, rfl, hf, hBq⟩ := hrel
    by_cases hlt : k < s.size
    · have hcell := hf.out.cell (tiled_at s hlt)
      have hfr := hf.out.mark hlt
      have hk0 : (0 : Int) ≤ (k : Int) := by omega
      have hk1 : (k : Int) < (s.size : Int) := by omega
      cases hcap : capB ((s[k]'hlt).toNat : Int)
      · have HC := Shh.mk hcap
        have HT := Shh.mk (tiled_same s hlt (by unfold tileU; rw [if_neg (fun h => by rw [capB_iff.2 (by omega)] at hcap; cases hcap)]))
        clear hcap
        go_wp2_with (go_at_call 85; refine (cap_is HC.out _).mono ?_; rintro e w' ⟨rfl, rfl⟩)
        go_roundw
        case rel => exact ⟨k + 1, by omega, by go_num, ⟨by rw [← HT.out]; exact hf.out⟩, hBq⟩
        case measure => simp [intOf]; omega
      · have HC := Shh.mk hcap
        have HT := Shh.mk (tiled_set s hlt)
        have e63 : tileU (s[k]'hlt) = 63 := by unfold tileU; rw [if_pos (by have := capB_iff.1 hcap; omega)]
        rw [e63] at HT
        have HS := Shh.mk (hf.out.store hlt 63)
        clear hcap e63
        go_wp2_with (go_at_call 85; refine (cap_is HC.out _).mono ?_; rintro e w' ⟨rfl, rfl⟩)
        go_roundw
        case rel => exact ⟨k + 1, by omega, by go_num, ⟨by rw [← HT.out]; exact HS.out⟩, ⟨hBq.out.setCell (p := ⟨w.heap.size, k, none⟩) (Nat.le_refl _) _⟩⟩
        case measure => simp [intOf]; omega
    · have hkk : k = s.size := by omega
      have hfe : FrB wr w.heap.size s.size (s.data.toList.map tileU) := by
        have := hf.out
        rw [hkk] at this
        have e := tiled_all s.data.toList
        rw [len_list] at e
        rwa [e] at this
      have hcb := fun cap => conv_fr (cap := cap) hfe
      have ht := map_tiles HL.out
      have hxl : (s.data.toList.map tileU).length ≤ 12 := by rw [List.length_map, len_list]; exact hs
      obtain ⟨X, hX⟩ : ∃ X, s.data.toList.map tileU = X := ⟨_, rfl⟩
      have hy := HY.out
      rw [hX] at ht hxl hcb hy
      have HTX := Shh.mk ht
      have HY2 := Shh.mk hy
      clear hf hkk hX ht hfe hy
      go_wp2_with fail
      refine (sort_txt X _ (by omega) HTX.out).mono ?_
      rw [HY2.out]
      rintro e w2 ⟨rfl, hb2⟩
      go_wp2
      go_ret
      exact ⟨rfl, hBq.out.trans (hb2.mono hBq.out.size)⟩

end Go.Proofs.YtmkdbahdhobdjaaDoor
