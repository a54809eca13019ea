/-
  Placed words and their tiles: the program's and the model's.
-/
import Derived.Test.YtilagppmljpclaaDoorN5
import Derived.Test.YtilagppmljpclaaDoorO4
import Derived.Test.YtilagppmljpclaaDoorO2
namespace Go.Proofs.YtilagppmljpclaaDoor
open Go.RowKit

/-! ### The program's -/
set_option maxHeartbeats 400000 in
theorem isCapital_any (c : Int) (w : World) : Calls Tryd.prog 59 #[.int .i32 c] w fun e w' => e = .returned (.bool (capB c)) ∧ w = w' := by
  by_cases h1 : 65 ≤ c
  · by_cases h2 : c ≤ 90
    · rw [capB_iff.2 ⟨h1, h2⟩]
      go_enter Tryd.func59, Tryd.ntmps59
      go_wp2
      go_ret
      exact ⟨rfl, rfl⟩
    · rw [capB_no (fun h => h2 h.2)]
      go_enter Tryd.func59, Tryd.ntmps59
      go_wp2
      go_ret
      exact ⟨rfl, rfl⟩
  · rw [capB_no (fun h => h1 h.1)]
    go_enter Tryd.func59, Tryd.ntmps59
    go_wp2
    go_ret
    exact ⟨rfl, rfl⟩
theorem capital_is {c : Int} {b : Bool} (h : capB c = b) (w : World) : Calls Tryd.prog 59 #[.int .i32 c] w fun e w' => e = .returned (.bool b) ∧ w = w' := by
  rw [← h]
  exact isCapital_any c w
theorem ret_i32 {a b : Int} (h : a = b) : Ending.returned (.int .i32 a) = .returned (.int .i32 b) := by rw [h]
set_option maxHeartbeats 400000 in
theorem smallLetter_any (x : Nat) (hx : x ≤ 1114111) (w : World) : Calls Tryd.prog 48 #[.int .i32 (x : Int)] w fun e w' => e = .returned (.int .i32 (smallF x)) ∧ w = w' := by
  by_cases h : 65 ≤ (x : Int) ∧ (x : Int) ≤ 90
  · have HF := Shh.mk (show smallF x = (x : Int) - 65 + 97 by unfold smallF; rw [if_pos h]; omega)
    have HC := Shh.mk (capB_iff.2 h)
    obtain ⟨h1, h2⟩ := h
    go_enter Tryd.func48, Tryd.ntmps48
    go_wp2_with (go_at_call 59; refine (capital_is HC.out _).mono ?_; rintro e w' ⟨rfl, rfl⟩)
    go_ret
    exact ⟨ret_i32 HF.out.symm, rfl⟩
  · have HF := Shh.mk (show smallF x = (x : Int) by unfold smallF; rw [if_neg h])
    have HC := Shh.mk (capB_no h)
    clear h
    go_enter Tryd.func48, Tryd.ntmps48
    go_wp2_with (go_at_call 59; refine (capital_is HC.out _).mono ?_; rintro e w' ⟨rfl, rfl⟩)
    go_ret
    exact ⟨ret_i32 HF.out.symm, rfl⟩
set_option maxHeartbeats 400000 in
theorem tileForLetter_any (x : Nat) (w : World) : Calls Tryd.prog 37 #[.int .i32 (x : Int)] w fun e w' => e = .returned (.int .i32 (tileF x)) ∧ w = w' := by
  by_cases h : 65 ≤ (x : Int) ∧ (x : Int) ≤ 90
  · have HF := Shh.mk (show tileF x = 63 by unfold tileF; rw [if_pos h])
    have HC := Shh.mk (capB_iff.2 h)
    clear h
    go_enter Tryd.func37, Tryd.ntmps37
    go_wp2_with (go_at_call 59; refine (capital_is HC.out _).mono ?_; rintro e w' ⟨rfl, rfl⟩)
    go_ret
    exact ⟨ret_i32 HF.out.symm, rfl⟩
  · have HF := Shh.mk (show tileF x = (x : Int) by unfold tileF; rw [if_neg h])
    have HC := Shh.mk (capB_no h)
    clear h
    go_enter Tryd.func37, Tryd.ntmps37
    go_wp2_with (go_at_call 59; refine (capital_is HC.out _).mono ?_; rintro e w' ⟨rfl, rfl⟩)
    go_ret
    exact ⟨ret_i32 HF.out.symm, rfl⟩
theorem small_grows (w : World) : MapGrows Tryd.prog 48 #[] smallF w := by
  intro W x hx _
  exact (smallLetter_any x hx W).mono fun _ _ ⟨he, hw⟩ => ⟨he, hw ▸ Below.refl _ _⟩
theorem tile_grows (w : World) : MapGrows Tryd.prog 37 #[] tileF w := by
  intro W x _ _
  exact (tileForLetter_any x W).mono fun _ _ ⟨he, hw⟩ => ⟨he, hw ▸ Below.refl _ _⟩
/-- The decoder's tables, as the world holds them. -/
def Tabs (w : World) : Prop := Lib.Utf8Tabs 0 1 w
theorem Tabs.on {w w' : World} (h : Tabs w) (hb : Below w.heap.size w w') : Tabs w' :=
  ⟨fun c hc => (hb.cell (World.block_lt_of_cell? w _ (h.1 c hc))).trans (h.1 c hc),
   fun i hi => ⟨(hb.cell (World.block_lt_of_cell? w _ (h.2 i hi).1)).trans (h.2 i hi).1, (hb.cell (World.block_lt_of_cell? w _ (h.2 i hi).2)).trans (h.2 i hi).2⟩⟩
theorem smallF_bounds : ∀ x : Nat, x ≤ 1114111 → -2147483648 ≤ smallF x ∧ smallF x ≤ 2147483647 := by
  intro x hx
  unfold smallF
  split <;> omega
theorem tileF_bounds : ∀ x : Nat, x ≤ 1114111 → -2147483648 ≤ tileF x ∧ tileF x ≤ 2147483647 := by
  intro x hx
  unfold tileF
  split <;> omega
theorem map_small_any (s : ByteArray) (w : World) (hs : s.size ≤ 1048576) (hT : Tabs w) :
    Calls Tryd.prog 36 #[.func (.func 48) #[] #[], .string s] w fun e w' => e = .returned (.string (txt (Lib.mapD smallF s.data.toList))) ∧ Below w.heap.size w w' :=
  Tryd.strings_Map_grows 48 #[] (fun _ _ => rfl) smallF s w (by omega) (small_grows w) smallF_bounds hT
theorem map_tile_any (s : ByteArray) (w : World) (hs : s.size ≤ 1048576) (hT : Tabs w) :
    Calls Tryd.prog 36 #[.func (.func 37) #[] #[], .string s] w fun e w' => e = .returned (.string (txt (Lib.mapD tileF s.data.toList))) ∧ Below w.heap.size w w' :=
  Tryd.strings_Map_grows 37 #[] (fun _ _ => rfl) tileF s w (by omega) (tile_grows w) tileF_bounds hT
theorem word_txt {X : List UInt8} {b : Bool} (h : isWordB X = b) (w : World) (hX : X.length ≤ 9000000) :
    Calls Tryd.prog 19 #[.string (txt X)] w fun e w' => e = .returned (.bool b) ∧ Below w.heap.size w w' := by
  have := implIsWord_any (txt X) w (by rw [txt_size]; unfold maxLen; omega)
  rw [txt_list, h] at this
  exact this
set_option maxHeartbeats 1000000 in
theorem isPlacedWord_any (s : ByteArray) (w : World) (hs : s.size ≤ 1048576) (hT : Tabs w) :
    Calls Tryd.prog 34 #[.string s] w fun e w' => e = .returned (.bool (placedL s.data.toList)) ∧ Below w.heap.size w w' := by
  have hl := map_len _ smallF s.data.toList (Nat.le_refl _)
  rw [len_list] at hl
  have hw := word_placed s.data.toList
  obtain ⟨X, hX⟩ : ∃ X, Lib.mapD smallF s.data.toList = X := ⟨_, rfl⟩
  rw [hX] at hl hw
  have HM := Shh.mk (map_small_any s w hs hT)
  have HX := Shh.mk hX
  have HW := Shh.mk hw
  clear hX hw hT
  go_enter Tryd.func34, Tryd.ntmps34
  go_wp2_with fail
  refine HM.out.mono ?_
  rw [HX.out]
  rintro e w1 ⟨rfl, hb1⟩
  go_wp2_with fail
  refine (word_txt HW.out _ (by omega)).mono ?_
  rintro e w2 ⟨rfl, hb2⟩
  go_wp2
  go_ret
  exact ⟨rfl, hb1.trans (hb2.mono hb1.size)⟩
theorem placed_is {s : ByteArray} {b : Bool} (h : placedL s.data.toList = b) (w : World) (hs : s.size ≤ 1048576) (hT : Tabs w) :
    Calls Tryd.prog 34 #[.string s] w fun e w' => e = .returned (.bool b) ∧ Below w.heap.size w w' := by
  rw [← h]
  exact isPlacedWord_any s w hs hT
theorem sort_out {X : List UInt8} {P : List UInt8 × Int} (h : sortOut X = P) (w : World) (hX : X.length ≤ 1048576) :
    Calls Tryd.prog 35 #[.string (txt X)] w fun e w' => e = .returned (ret2 P) ∧ Below w.heap.size w w' := by
  have := implSortTiles_any (txt X) w (by rw [txt_size]; exact hX)
  rw [txt_list, h] at this
  exact this
theorem ret_txt {X Y : List UInt8} (h : X = Y) : Ending.returned (.string (txt X)) = .returned (.string (txt Y)) := by rw [h]
set_option maxHeartbeats 1000000 in
theorem implTilesOfWord_any (s : ByteArray) (w : World) (hs : s.size ≤ 1048576) (hT : Tabs w) :
    Calls Tryd.prog 21 #[.string s] w fun e w' => e = .returned (.string (txt (tilesOut s.data.toList))) ∧ Below w.heap.size w w' := by
  cases hp : placedL s.data.toList
  · have HR := Shh.mk (tilesOut_no hp)
    have HP := Shh.mk (placed_is hp w hs hT)
    clear hp hT
    go_enter Tryd.func21, Tryd.ntmps21
    go_wp2_with fail
    refine HP.out.mono ?_
    rintro e w1 ⟨rfl, hb1⟩
    go_wp2
    go_ret
    exact ⟨ret_txt HR.out.symm, hb1⟩
  · have hlet := placed_let hp
    have hlen := placed_len hp
    have hm := map_tile hlet
    have ht := map_tiles hlet
    obtain ⟨X, hX⟩ : ∃ X, s.data.toList.map tileU = X := ⟨_, rfl⟩
    have hXl : X.length ≤ 12 := by rw [← hX, List.length_map]; exact hlen
    rw [hX] at hm ht
    have HM := Shh.mk hm
    have hy := sortOut_yes ht (by omega)
    have hr := tilesOut_yes hp
    rw [hX] at hr
    obtain ⟨Y, hY⟩ : ∃ Y, sortL X = Y := ⟨_, rfl⟩
    rw [hY] at hy hr
    have HS := Shh.mk hy
    have HR := Shh.mk hr
    have HP := Shh.mk (placed_is hp w hs hT)
    have HT := Shh.mk hT
    clear hp hT hlet hlen hm ht hX hy hr hY
    go_enter Tryd.func21, Tryd.ntmps21
    go_wp2_with fail
    refine HP.out.mono ?_
    rintro e w1 ⟨rfl, hb1⟩
    go_wp2_with fail
    refine (map_tile_any s _ hs (HT.out.on hb1)).mono ?_
    rw [HM.out]
    rintro e w2 ⟨rfl, hb2⟩
    go_wp2_with fail
    refine (sort_out HS.out _ (by omega)).mono ?_
    rintro e w3 ⟨rfl, hb3⟩
    have hB2 := hb1.trans (hb2.mono hb1.size)
    unfold ret2
    go_wp2
    go_ret
    exact ⟨ret_txt HR.out.symm, hB2.trans (hb3.mono hB2.size)⟩
end Go.Proofs.YtilagppmljpclaaDoor
