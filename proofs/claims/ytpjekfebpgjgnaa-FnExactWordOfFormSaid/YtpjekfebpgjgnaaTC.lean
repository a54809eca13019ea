/-
  The word of a form: both sides.
-/
import Derived.Test.YtpjekfebpgjgnaaTB
import Derived.Deep.RegionWith
import Derived.Deep.RegionHeld3
namespace Go.Proofs.Ytpjekfebpgjgnaa
open Go.RowKit

/-! ### A text cut at one byte -/
set_option maxHeartbeats 1000000 in
theorem liteCut_none {s : ByteArray} (hi : Lib.indexByte s.data.toList 62 = -1) (w : World) :
    Calls Try.prog 164 #[.string s, .string ⟨#[62]⟩] w fun e w' => e = .returned (.tuple #[.string s, .string ⟨#[]⟩, .bool false]) ∧ Below w.heap.size w w' := by
  have HI := ShR.mk hi
  clear hi
  go_enter Try.func164, Try.ntmps164
  go_wp2_with fail
  refine (Try.stringslite_Index_one s 62 _).mono ?_
  rw [HI.out]
  rintro e w' ⟨rfl, rfl⟩
  go_wp2
  go_ret3
  exact ⟨rfl, Below.refl _ _⟩
set_option maxHeartbeats 1000000 in
theorem liteCut_some {s x y : ByteArray} {i : Nat} (hi : Lib.indexByte s.data.toList 62 = (i : Int)) (hl : i < s.size) (hx : s.extract 0 i = x) (hy : s.extract (i + 1) s.size = y) (hs : s.size ≤ 1048576) (w : World) :
    Calls Try.prog 164 #[.string s, .string ⟨#[62]⟩] w fun e w' => e = .returned (.tuple #[.string x, .string y, .bool true]) ∧ Below w.heap.size w w' := by
  have HI := ShR.mk hi
  have h0 : (0 : Int) ≤ (i : Int) := by omega
  have h1 : (i : Int) ≤ (s.size : Int) := by omega
  have h2 : (i : Int) + 1 ≤ (s.size : Int) := by omega
  have h3 : (0 : Int) ≤ (i : Int) + 1 := by omega
  have HX := ShR.mk hx
  have HY := ShR.mk hy
  have h4 : ((i : Int) + 1).toNat = i + 1 := by omega
  clear hi hx hy
  go_enter Try.func164, Try.ntmps164
  go_wp2_with fail
  refine (Try.stringslite_Index_one s 62 _).mono ?_
  rw [HI.out]
  rintro e w' ⟨rfl, rfl⟩
  go_wp2
  go_quiet (fail)
  go_wp2
  go_ret3
  exact ⟨by rw [← HX.out, ← HY.out]; rfl, below_drewN (Below.refl _ _) _⟩
set_option maxHeartbeats 1000000 in
theorem cut_of {s : ByteArray} {r : Value} {a b : ByteArray} {f : Bool} (h : ∀ w, Calls Try.prog 164 #[.string s, .string ⟨#[62]⟩] w fun e w' => e = .returned (.tuple #[.string a, .string b, .bool f]) ∧ Below w.heap.size w w') (w : World) (hr : r = .tuple #[.string a, .string b, .bool f]) :
    Calls Try.prog 123 #[.string s, .string ⟨#[62]⟩] w fun e w' => e = .returned r ∧ Below w.heap.size w w' := by
  subst hr
  go_enter Try.func123, Try.ntmps123
  go_wp2_with fail
  refine (h _).mono ?_
  rintro e w' ⟨rfl, hb⟩
  go_wp2
  go_ret3
  exact ⟨rfl, hb⟩

/-! ### The program's -/
def failW : Value := .tuple #[.string ⟨#[]⟩, .int .i64 0, .int .i64 7]
def foundW (w : ByteArray) (k : Nat) : Value := .tuple #[.string w, .int .i64 (k : Int), .int .i64 0]
theorem lenI (s : ByteArray) (w : World) (hs : s.size ≤ 1048576) : Calls Try.prog 101 #[.string s] w fun e w' => e = .returned (.int .i64 (s.size : Int)) ∧ Below w.heap.size w w' :=
  (lengthOf_any s w hs).mono fun _ _ ⟨h1, h2⟩ => ⟨h1, by rw [← h2]; exact Below.refl _ _⟩
theorem wordI2 {s : ByteArray} {b : Bool} (h : isWordB s.data.toList = b) (w : World) (hs : s.size ≤ 2097152) : Calls Try.prog 29 #[.string s] w fun e w' => e = .returned (.bool b) ∧ Below w.heap.size w w' := by
  rw [← h]; exact implIsWord_any s w (by unfold maxLen; omega)
/-- What the program does with what the cut tells. -/
theorem implWof_any {s x y W : ByteArray} {t b : Bool} (hcut : ∀ w, Calls Try.prog 123 #[.string s, .string ⟨#[62]⟩] w fun e w' => e = .returned (.tuple #[.string x, .string y, .bool t]) ∧ Below w.heap.size w w')
    (hx : x.size ≤ 1048576) (hy : y.size ≤ 1048576) (hW : backS x ++ y = W) (hb : isWordB W.data.toList = b) (r : Value)
    (h1 : x.size = 0 → r = failW) (h2 : 0 < x.size → t = true → y.size = 0 → r = failW) (h3 : b = false → r = failW) (h4 : 0 < x.size → (t = true → 0 < y.size) → b = true → r = foundW W x.size) (w : World) :
    Calls Try.prog 60 #[.string s] w fun e w' => e = .returned r ∧ Below w.heap.size w w' := by
  have HW := ShR.mk hW
  have hWs : W.size = x.size + y.size := by rw [← hW, ByteArray.size_append, backS_size]
  have HB := ShR.mk hb
  have HC := ShR.mk hcut
  have hsum : ¬ 9223372036854775807 < (backS x).size + y.size := by rw [backS_size]; omega
  have HBS := ShR.mk (fun w => reversed_any x w hx)
  obtain ⟨Z, hZ⟩ : ∃ Z, backS x = Z := ⟨_, rfl⟩
  rw [hZ] at hsum HBS HW
  clear hb hW hcut hZ
  rcases Nat.eq_zero_or_pos x.size with hx0 | hx0
  · have hE := empty_yes hx0
    have HR := ShR.mk (h1 hx0)
    clear h1 h2 h3 h4
    go_enter Try.func60, Try.ntmps60
    go_wp2_with fail
    refine (HC.out _).mono ?_
    rintro e w1 ⟨rfl, hb1⟩
    go_wp2_with fail
    refine (HBS.out _).mono ?_
    rintro e w2 ⟨rfl, hb2⟩
    go_wp2
    go_ret3
    exact ⟨by rw [HR.out]; rfl, hb1.trans (hb2.mono hb1.size)⟩
  · have hE := empty_no hx0
    by_cases hty : t = true ∧ y.size = 0
    · obtain ⟨rfl, hy0⟩ := hty
      have hE2 := empty_yes hy0
      have HR := ShR.mk (h2 hx0 rfl hy0)
      clear h1 h2 h3 h4
      go_enter Try.func60, Try.ntmps60
      go_wp2_with fail
      refine (HC.out _).mono ?_
      rintro e w1 ⟨rfl, hb1⟩
      go_wp2_with fail
      refine (HBS.out _).mono ?_
      rintro e w2 ⟨rfl, hb2⟩
      go_wp2
      go_ret3
      exact ⟨by rw [HR.out]; rfl, hb1.trans (hb2.mono hb1.size)⟩
    · have hyt : t = true → 0 < y.size := fun e => by
        rcases Nat.eq_zero_or_pos y.size with h | h
        · exact absurd ⟨e, h⟩ hty
        · exact h
      have HYT := ShR.mk hyt
      have HHH := ShR.mk (show (t = false) ∨ (t = true ∧ y.toList.isEmpty = false) by
        cases t
        · exact .inl rfl
        · exact .inr ⟨rfl, empty_no (hyt rfl)⟩)
      cases b
      · have HR := ShR.mk (h3 rfl)
        clear h1 h2 h3 h4 hty hyt
        rcases HHH.out with rfl | ⟨rfl, hE2⟩
        all_goals
          go_enter Try.func60, Try.ntmps60
          go_wp2_with fail
          refine (HC.out _).mono ?_
          rintro e w1 ⟨rfl, hb1⟩
          go_wp2_with fail
          refine (HBS.out _).mono ?_
          rintro e w2 ⟨rfl, hb2⟩
          have HB2 := ShR.mk (hb1.trans (hb2.mono hb1.size))
          clear hb1 hb2
          go_wp2_with fail
          rw [HW.out]
          refine (wordI2 HB.out _ (by omega)).mono ?_
          rintro e w3 ⟨rfl, hb3⟩
          go_wp2
          go_ret3
          exact ⟨by rw [HR.out]; rfl, HB2.out.trans (hb3.mono HB2.out.size)⟩
      · have HR := ShR.mk (h4 hx0 hyt rfl)
        clear h1 h2 h3 h4 hty hyt
        rcases HHH.out with rfl | ⟨rfl, hE2⟩
        all_goals
          go_enter Try.func60, Try.ntmps60
          go_wp2_with fail
          refine (HC.out _).mono ?_
          rintro e w1 ⟨rfl, hb1⟩
          go_wp2_with fail
          refine (HBS.out _).mono ?_
          rintro e w2 ⟨rfl, hb2⟩
          have HB2 := ShR.mk (hb1.trans (hb2.mono hb1.size))
          clear hb1 hb2
          go_wp2_with fail
          rw [HW.out]
          refine (wordI2 HB.out _ (by omega)).mono ?_
          rintro e w3 ⟨rfl, hb3⟩
          have HB3 := ShR.mk (HB2.out.trans (hb3.mono HB2.out.size))
          clear hb3
          go_wp2_with fail
          refine (lenI x _ hx).mono ?_
          rintro e w4 ⟨rfl, hb4⟩
          go_wp2
          go_ret3
          exact ⟨by rw [HR.out]; rfl, HB3.out.trans (hb4.mono HB3.out.size)⟩

/-! ### The model's -/
set_option maxHeartbeats 1000000 in
theorem l09Form_all (s : ByteArray) (w : World) (hs : s.size ≤ 1048576) : Calls Try.prog 119 #[.string s, .int .i64 (s.size : Int)] w fun e w' => e = .returned (.string (backS s)) ∧ Below w.heap.size w w' := by
  have hb : ((s.size : Int) == (s.size : Int)) = true := by simp
  go_enter Try.func119, Try.ntmps119
  go_wp2_with fail
  refine (l08Back_any s _ hs).mono ?_
  rintro e w' ⟨rfl, hb⟩
  go_wp2
  go_ret
  exact ⟨rfl, hb⟩
set_option maxHeartbeats 1000000 in
theorem l09Form_part {s x y : ByteArray} {k : Nat} (hk : k < s.size) (hx : s.extract 0 k = x) (hy : s.extract k s.size = y) (w : World) (hs : s.size ≤ 1048576) :
    Calls Try.prog 119 #[.string s, .int .i64 (k : Int)] w fun e w' => e = .returned (.string ((backS x ++ gtS) ++ y)) ∧ Below w.heap.size w w' := by
  have hb : ((k : Int) == (s.size : Int)) = false := beq_eq_false_iff_ne.2 (by omega)
  have h0 : (0 : Int) ≤ (k : Int) := by omega
  have h1 : (k : Int) ≤ (s.size : Int) := by omega
  have hxs : x.size = k := by rw [← hx, ByteArray.size_extract]; omega
  have hys : y.size = s.size - k := by rw [← hy, ByteArray.size_extract]; omega
  have HX := ShR.mk hx
  have HY := ShR.mk hy
  have HBX := ShR.mk (fun w => l08Back_any x w (by omega))
  have HR := ShR.mk (show (backS x ++ gtS) ++ y = (backS x ++ gtS) ++ y from rfl)
  have hz := backS_size x
  obtain ⟨Z, hZ⟩ : ∃ Z, backS x = Z := ⟨_, rfl⟩
  rw [hZ] at HBX hz ⊢
  have hg : gtS.size = 1 := rfl
  have hzg : (Z ++ gtS).size = Z.size + 1 := by rw [ByteArray.size_append, hg]
  have hzh : (Z ++ (⟨#[62]⟩ : ByteArray)).size = Z.size + 1 := hzg
  have s1 : ¬ 9223372036854775807 < Z.size + 1 := by omega
  have s2 : ¬ 9223372036854775807 < (Z ++ (⟨#[62]⟩ : ByteArray)).size + y.size := by omega
  have s3 : ¬ 9223372036854775807 < Z.size + (⟨#[62]⟩ : ByteArray).size := by show ¬ 9223372036854775807 < Z.size + 1; omega
  have s4 : ¬ 9223372036854775807 < Z.size + 1 + y.size := by omega
  clear hZ hx hy
  unfold gtS
  go_enter Try.func119, Try.ntmps119
  go_wp2
  go_region_with (first
    | (go_at_call 159; rw [HX.out]; refine (HBX.out _).mono ?_; rintro e w1 ⟨rfl, hb1⟩))
  all_goals
    go_wp2
    go_ret
    exact ⟨by rw [HY.out]; rfl, (Below.refl _ _).drew.trans hb1⟩
end Go.Proofs.Ytpjekfebpgjgnaa
