/-
  The map from letters to numbers that the program makes, and the model's search: what they say of a letter.
-/
import Derived.Test.YtbfilebkmpcepaaT3
import Derived.Maps.OwnOps
import Derived.Maps.Views
import Derived.Laws.MakeOwn
namespace Go.Proofs.Ytbfilebkmpcepaa
open Go.RowKit Go.Maps

/-- The number that belongs to a letter among the first k; 0 if there is none. -/
def lookTo (l : List UInt8) (zs : List Int) : Nat → Int → Int
  | 0, _ => 0
  | k + 1, c => if c = byteAt l k then zs.getD k 0 else lookTo l zs k c
theorem lookTo_none {l : List UInt8} {zs : List Int} {c : Int} : ∀ {n : Nat}, (∀ i, i < n → byteAt l i ≠ c) → lookTo l zs n c = 0
  | 0, _ => rfl
  | n + 1, h => by
    rw [lookTo, if_neg (fun e => h n (by omega) e.symm)]
    exact lookTo_none (fun i hi => h i (by omega))
theorem letters_less {l : List UInt8} : ∀ {n : Nat}, lettersTo l n = true → ∀ i j, i < j → j < n → byteAt l i < byteAt l j
  | 0, _, i, j, _, hj => by omega
  | n + 1, h, i, j, hij, hj => by
    rw [lettersTo_succ, Bool.and_eq_true] at h
    rcases Nat.lt_or_ge j n with h1 | h1
    · exact letters_less h.1 i j hij h1
    · obtain rfl : j = n := by omega
      have h2 := h.2
      simp only [letterB, Bool.and_eq_true, decide_eq_true_eq] at h2
      obtain ⟨m, rfl⟩ : ∃ m, j = m + 1 := ⟨j - 1, by omega⟩
      rw [lastAt_succ] at h2
      rcases Nat.lt_or_ge i m with h3 | h3
      · have := letters_less h.1 i m h3 (by omega)
        omega
      · obtain rfl : i = m := by omega
        exact h2.2
theorem lookTo_at {l : List UInt8} {zs : List Int} {c : Int} : ∀ {n : Nat}, lettersTo l n = true → ∀ i, i < n → byteAt l i = c → lookTo l zs n c = zs.getD i 0
  | 0, _, i, hi, _ => by omega
  | n + 1, h, i, hi, hc => by
    rcases Nat.lt_or_ge i n with h1 | h1
    · have hl := letters_less h i n h1 (by omega)
      rw [lookTo, if_neg (by omega)]
      rw [lettersTo_succ, Bool.and_eq_true] at h
      exact lookTo_at h.1 i h1 hc
    · obtain rfl : i = n := by omega
      rw [lookTo, if_pos hc.symm]

/-- Block B is a map of at most n entries that gives each byte the number that f gives it. -/
def MapI (w : World) (B n : Nat) (f : Int → Int) : Prop :=
  ∃ D : DataW Unit, IsMap D ∧ w.ownsMap Try.prog 5 (plainElem Try.prog 2) B n D ∧ ∀ c : Int, (Lit.int .u8 c).wf = true → D.atKey (.int .u8 c) (.lit (.int .i64 0)) = .lit (.int .i64 (f c))

theorem law8 : Keyed Try.prog 5 := int_keyed Try.underlying5
theorem zero64 (w : World) : (zeroValue 2).run Try.prog w = .ok (.int .i64 0) w := by kernel_rfl
theorem make_map (x : Int) (w : World) : (Instr.makeMap 64 (some (.int .i64 x))).run Try.prog w = .ok (.map (some w.heap.size)) (w.alloc (.map #[] 0)) := by
  simp [Instr.makeMap, run_underlying Try.underlying64]
  rfl

theorem MapI.empty (w : World) : MapI (w.alloc (.map #[] 0)) w.heap.size 0 (fun _ => 0) := by
  refine ⟨.map [], isMap_empty, World.ownsMap_made _ _ _ _, fun c _ => rfl⟩
theorem MapI.kept {w w' : World} {B n B' : Nat} {f : Int → Int} (h : MapI w B n f) (hb : Below B' w w') (hB : B < B') : MapI w' B n f := by
  obtain ⟨D, h1, ⟨es, clock, h2, h3⟩, h4⟩ := h
  exact ⟨D, h1, ⟨es, clock, (hb.block B hB).trans h2, h3⟩, h4⟩
theorem MapI.lt {w : World} {B n : Nat} {f : Int → Int} (h : MapI w B n f) : B < w.heap.size := by
  obtain ⟨D, h1, ⟨es, clock, h2, h3⟩, h4⟩ := h
  exact (Array.getElem?_eq_some_iff.1 h2).1
theorem put_at {D : DataW Unit} (hD : IsMap D) (k c x y : Int) (f : D.atKey (.int .u8 c) (.lit (.int .i64 0)) = .lit (.int .i64 y)) :
    (D.put (.int .u8 k) (.lit (.int .i64 x))).atKey (.int .u8 c) (.lit (.int .i64 0)) = .lit (.int .i64 (if c = k then x else y)) := by
  by_cases h : c = k
  · subst h
    rw [if_pos rfl]
    exact atKey_put_same hD (k := .int .u8 c) trivial _ _
  · rw [if_neg h, atKey_put_other (fun e => h (by injection e))]
    exact f
theorem byte_wf (c : UInt8) : (Lit.int .u8 (c.toNat : Int)).wf = true := by
  have := c.toNat_lt
  exact WalkArith.wf_u8 (by omega)

set_option maxRecDepth 100000 in
set_option maxHeartbeats 2000000 in
theorem byLetter_any (L : ByteArray) {v : Value} {zs : List Int} (w : World) (_hL : L.size ≤ maxLen) (h : Ints .i64 w v zs) (hn : zs.length ≤ L.size) (hs : L.size ≤ 26) :
    Calls Try.prog 63 #[.string L, v] w fun e w' => e = .returned (.map (some w.heap.size)) ∧ MapI w' w.heap.size zs.length (lookTo L.data.toList zs zs.length) ∧ Below w.heap.size w w' := by
  obtain ⟨a, cap, rfl, hl, hm, hc, hw⟩ := h
  unfold maxLen at hm
  have HW := hid hw
  clear hw
  have hmm := make_map
  go_enter Try.func63, Try.ntmps63
  go_wp2
  go_loopw [13] (fun i wr => ∃ k : Nat, k ≤ zs.length ∧ i = .int .i64 k ∧ MapI wr w.heap.size k (lookTo L.data.toList zs k) ∧ Below w.heap.size w wr) (fun i _ => zs.length - (intOf i).toNat)
  case atStart => exact ⟨0, Nat.zero_le _, rfl, MapI.empty w, (Below.refl _ _).alloc (Nat.le_refl _) _⟩
  case round =>
    obtain ⟨k, hk, rfl, hmap, hb⟩ := hrel
    clear hmm
    by_cases hlt : k < zs.length
    · have hltL : k < L.size := by omega
      obtain ⟨ba, oa, rfl, hba, hca⟩ := hc (by omega)
      have ca := (hb.cell (p := ⟨ba, oa + k, none⟩) hba).trans (hca k hlt)
      have hmem : zs.getD k 0 ∈ zs := by
        rw [List.getD_eq_getElem?_getD, List.getElem?_eq_getElem hlt]
        exact List.getElem_mem _
      have hwx := HW.out _ hmem
      obtain ⟨x, hx⟩ : ∃ x, zs.getD k 0 = x := ⟨_, rfl⟩
      rw [hx] at ca hwx
      have HX := hid hx
      have HWX := hid hwx
      have HBE := hid (byteAt_eq L k hltL)
      obtain ⟨D, hD, hown, hat⟩ := hmap
      have HD := hid hD
      have HAT := hid hat
      have HWF := hid (byte_wf (L[k]'hltL))
      clear hx hwx hmem hca hc hat hD
      go_wp2_with (at_mapUpdate; refine wpList_mapUpdate_own _ rfl _ _ _ 64 rfl 5 2 law8 Try.underlying64 _ w.heap.size k _ rfl hown (by unfold maxLen; omega) _ _ _ rfl rfl (keyOf_int_mk Try.underlying5 HWF.out) _ [] (plainElem_int Try.underlying2 HWX.out) ?_; intro w1 hown1 hgrow1)
      go_roundw
      case rel =>
        refine ⟨k + 1, by omega, by go_num, ⟨_, HD.out.put _ _, hown1, fun c hcw => ?_⟩, hb.grown hgrow1 hb.size (fun j hj => by cases hj; exact Nat.le_refl _)⟩
        rw [put_at HD.out _ c x _ (HAT.out c hcw), lookTo, HBE.out, HX.out]
      case measure => simp [intOf]; omega
    · have hkk : zs.length = k := by omega
      have HM : Hid (MapI wr w.heap.size zs.length (lookTo L.data.toList zs zs.length)) := by rw [hkk]; exact hmap
      clear hkk hmap hc
      go_wp2
      go_ret
      exact ⟨rfl, HM.out, hb⟩

/-! ### The model's search -/
/-- What the search ends with: the place of the byte, or -1. -/
def Found (l : List UInt8) (c : Int) (n : Nat) (e : Ending) : Prop :=
  (∃ i : Nat, i < n ∧ byteAt l i = c ∧ e = .returned (.int .i64 i)) ∨ ((∀ i, i < n → byteAt l i ≠ c) ∧ e = .returned (.int .i64 (-1)))

set_option maxHeartbeats 1000000 in
theorem l02Find_any (B : Nat) (L : ByteArray) {vv vc : Value} (b c : Int) (w : World) (hL : L.size ≤ maxLen) (hp : Blk w B 32 #[.string L, vv, vc, .int .i64 b]) :
    Calls Try.prog 72 #[.pointer (some ⟨B, 0, none⟩), .int .u8 c] w fun e w' => Found L.data.toList c L.size e ∧ w = w' := by
  unfold maxLen at hL
  have c0 := hp.cells
  clear hp
  go_enter Try.func72, Try.ntmps72
  go_wp2
  go_loop [5] (fun i => ∃ k : Nat, k ≤ L.size ∧ i = .int .i64 k ∧ Hid (∀ j, j < k → byteAt L.data.toList j ≠ c)) (fun i => L.size - (intOf i).toNat)
  case atStart => exact ⟨0, Nat.zero_le _, rfl, fun j hj => absurd hj (by omega)⟩
  case round =>
    obtain ⟨k, hk, rfl, hno⟩ := hrel
    by_cases hlt : k < L.size
    · have HBE := hid (byteAt_eq L k hlt)
      by_cases hc : ((L[k]'hlt).toNat : Int) = c
      · have hcb : (((L[k]'hlt).toNat : Int) == c) = true := beq_iff_eq.2 hc
        have HF : Hid (Found L.data.toList c L.size (.returned (.int .i64 k))) := .inl ⟨k, hlt, HBE.out.trans hc, rfl⟩
        clear hc
        go_wp2
        go_ret
        exact ⟨HF.out, rfl⟩
      · have hcb : (((L[k]'hlt).toNat : Int) == c) = false := beq_eq_false_iff_ne.2 hc
        have HN : Hid (∀ j, j < k + 1 → byteAt L.data.toList j ≠ c) := by
          intro j hj
          rcases Nat.lt_or_ge j k with h | h
          · exact hno.out j h
          · obtain rfl : j = k := by omega
            rw [HBE.out]
            exact hc
        clear hc
        go_wp2
        go_round
        case rel => exact ⟨k + 1, by omega, by go_num, HN⟩
        case measure => simp [intOf]; omega
    · have HF : Hid (Found L.data.toList c L.size (.returned (.int .i64 (-1)))) := .inr ⟨fun i hi => hno.out i (by omega), rfl⟩
      go_wp2
      go_ret
      exact ⟨HF.out, rfl⟩

set_option maxHeartbeats 1000000 in
theorem l02Value_any (B : Nat) (L : ByteArray) {vv vc : Value} {zv : List Int} (b c : Int) (w : World) (hL : L.size ≤ maxLen) (hp : Blk w B 32 #[.string L, vv, vc, .int .i64 b]) (hv : Ints .i64 w vv zv)
    (hz : L.size ≤ zv.length) (ho : lettersTo L.data.toList L.size = true) :
    Calls Try.prog 62 #[.pointer (some ⟨B, 0, none⟩), .int .u8 c] w fun e w' => e = .returned (.int .i64 (lookTo L.data.toList zv L.size c)) ∧ w = w' := by
  have hvl := hv.len
  have HP := hid hp
  have c0 := hp.cells
  have HO := hid ho
  clear hp ho
  obtain ⟨a, cap, rfl, hl, hm, hc, -⟩ := hv
  unfold maxLen at hm
  go_enter Try.func62, Try.ntmps62
  go_wp2_with fail
  refine (l02Find_any B L b c w hL HP.out).mono ?_
  rintro e w1 ⟨hf, rfl⟩
  rcases hf with ⟨i, hi, hic, rfl⟩ | ⟨hno, rfl⟩
  · have HR := hid (lookTo_at (zs := zv) HO.out i hi hic)
    obtain ⟨ba, oa, rfl, hba, hca⟩ := hc (by omega)
    have ca := hca i (by omega)
    obtain ⟨x, hx⟩ : ∃ x, zv.getD i 0 = x := ⟨_, rfl⟩
    rw [hx] at ca
    have HX := hid (HR.out.trans hx)
    clear hx hca hc hic
    go_wp2
    go_ret
    exact ⟨ret_i64 HX.out.symm, rfl⟩
  · have HR := hid (lookTo_none (zs := zv) hno)
    clear hno hc
    go_wp2
    go_ret
    exact ⟨ret_i64 HR.out.symm, rfl⟩

end Go.Proofs.Ytbfilebkmpcepaa
