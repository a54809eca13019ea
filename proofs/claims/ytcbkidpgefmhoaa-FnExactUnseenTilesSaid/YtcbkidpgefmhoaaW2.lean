/-
  The tiles that are not among others: the program's and the model's.
-/
import Derived.Test.YtcbkidpgefmhoaaW1
import Derived.Test.YtcbkidpgefmhoaaO8
namespace Go.Proofs.Ytcbkidpgefmhoaa
open Go.RowKit

def unseenOut (L : ByteArray) (zv zc : List Int) (b : Int) (s : ByteArray) : List UInt8 × Int := if okT L.data.toList zv zc b = true then takeOut (allTo L zc b L.size) s.data.toList else ([], 1)
theorem unseenOut_no {L s : ByteArray} {zv zc : List Int} {b : Int} (h : okT L.data.toList zv zc b = false) : unseenOut L zv zc b s = ([], 1) := by
  unfold unseenOut
  rw [if_neg (by rw [h]; exact fun e => by cases e)]
theorem unseenOut_yes {L s : ByteArray} {zv zc : List Int} {b : Int} (h : okT L.data.toList zv zc b = true) : unseenOut L zv zc b s = takeOut (allTo L zc b L.size) s.data.toList := by
  unfold unseenOut
  rw [if_pos h]

theorem take_txt {A : List UInt8} {P : List UInt8 × Int} (s : ByteArray) (h : takeOut A s.data.toList = P) (w : World) (ha : A.length ≤ 1048576) (hs : s.size ≤ 1048576) :
    Calls Try.prog 19 #[.string (txt A), .string s] w fun e w' => e = .returned (ret2 P) ∧ Below w.heap.size w w' := by
  have := implTakeTiles_any (txt A) s w (by rw [txt_size]; exact ha) hs
  rw [txt_list, h] at this
  exact this

set_option maxHeartbeats 1000000 in
theorem implUnseenTiles_any (L : ByteArray) {vv vc : Value} {zv zc : List Int} (b : Int) (s : ByteArray) (hs : s.size ≤ 1048576) (w : World) (hL : L.size ≤ maxLen) (hv : Ints .i64 w vv zv) (hc : Ints .i64 w vc zc) :
    Calls Try.prog 45 #[.agg #[.string L, vv, vc, .int .i64 b], .string s] w fun e w' => e = .returned (ret2 (unseenOut L zv zc b s)) ∧ Below w.heap.size w w' := by
  cases hok : okT L.data.toList zv zc b
  · have HR := hid (unseenOut_no (s := s) hok)
    have HK := Shh.mk (allOut_no hok)
    clear hok
    go_enter Try.func45, Try.ntmps45
    go_wp2_with fail
    refine (implAllTiles_any L b _ hL (hv.alloc _) (hc.alloc _)).mono ?_
    rw [HK.out]
    rintro e w1 ⟨rfl, hb1⟩
    have hB1 := ((Below.refl w.heap.size w).alloc (Nat.le_refl _) _).trans (hb1.mono (by simp))
    unfold ret2
    go_wp2
    go_ret2
    exact ⟨ret2_nil HR.out, hB1⟩
  · have HR := Shh.mk (unseenOut_yes (s := s) hok)
    have HK := Shh.mk (allOut_yes hok)
    have hap := (pileB_iff.1 (all_pile hok)).2.2
    obtain ⟨A, hA⟩ : ∃ A, allTo L zc b L.size = A := ⟨_, rfl⟩
    rw [hA] at HR HK hap
    obtain ⟨P, hP⟩ : ∃ P, takeOut A s.data.toList = P := ⟨_, rfl⟩
    rw [hP] at HR
    have HP := Shh.mk hP
    obtain ⟨X, c⟩ := P
    clear hok hA hP
    go_enter Try.func45, Try.ntmps45
    go_wp2_with fail
    refine (implAllTiles_any L b _ hL (hv.alloc _) (hc.alloc _)).mono ?_
    rw [HK.out]
    rintro e w1 ⟨rfl, hb1⟩
    have hB1 := ((Below.refl w.heap.size w).alloc (Nat.le_refl _) _).trans (hb1.mono (by simp))
    unfold ret2
    go_wp2_with fail
    refine (take_txt s HP.out _ (by omega) hs).mono ?_
    rintro e w2 ⟨rfl, hb2⟩
    unfold ret2
    go_wp2
    go_ret2
    exact ⟨ret2_is HR.out, hB1.trans (hb2.mono hB1.size)⟩

theorem take_of {A O : List UInt8} {t : Bool} (s : ByteArray) (h1 : (takeL A s.data.toList).1 = O) (h2 : (takeL A s.data.toList).2.isEmpty = t) (w : World) (ha : A.length ≤ 1048576) (hs : s.size ≤ 1048576) :
    Calls Try.prog 63 #[.string (txt A), .string s] w fun e w' => e = .returned (.tuple #[.string (txt O), .bool t]) ∧ Below w.heap.size w w' := by
  refine l03Take_is ?_ ?_ w (by rw [txt_size]; exact ha) hs
  · rw [txt_list]; exact h1
  · rw [txt_list]; exact h2
set_option maxHeartbeats 1000000 in
theorem specUnseenTiles_any (L : ByteArray) {vv vc : Value} {zv zc : List Int} (b : Int) (s : ByteArray) (hs : s.size ≤ 1048576) (w : World) (hL : L.size ≤ maxLen) (hv : Ints .i64 w vv zv) (hc : Ints .i64 w vc zc) :
    Calls Try.prog 43 #[.agg #[.string L, vv, vc, .int .i64 b], .string s] w fun e w' => e = .returned (ret2 (unseenOut L zv zc b s)) ∧ Below w.heap.size w w' := by
  have hB0 := (Below.refl w.heap.size w).alloc (Nat.le_refl _) (.cells #[.string L, vv, vc, .int .i64 b] 44)
  cases hok : okT L.data.toList zv zc b
  · have HR := hid (unseenOut_no (s := s) hok)
    have HK := hid hok
    clear hok
    go_enter Try.func43, Try.ntmps43
    go_wp2_with fail
    refine (l02Ok_any _ L b _ hL (Blk.made _ _ _) (hv.alloc _) (hc.alloc _)).mono ?_
    rw [HK.out]
    rintro e w1 ⟨rfl, n1, rfl⟩
    go_wp2
    go_ret2
    exact ⟨ret2_nil HR.out, below_drewN hB0 _⟩
  · have hHR := unseenOut_yes (s := s) hok
    have HK := hid hok
    have hap := all_pile hok
    obtain ⟨h1, h26, hvn, hcn, hb, hlet, hnum, -⟩ := okT_facts hok
    have HCN := Shh.mk hcn
    have HNM := Shh.mk hnum
    have HB := Shh.mk hb
    obtain ⟨A, hA⟩ : ∃ A, allTo L zc b L.size = A := ⟨_, rfl⟩
    have HA := Shh.mk hA
    rw [hA] at hap hHR
    have hal := (pileB_iff.1 hap).2.2
    cases hq : pileB s.data.toList
    · have HR := Shh.mk (hHR.trans (takeOut_no (.inr hq)))
      have HQ := hid hq
      clear hok hA hq hHR hap hvn hcn hlet hnum hb
      go_enter Try.func43, Try.ntmps43
      go_wp2_with fail
      refine (l02Ok_any _ L b _ hL (Blk.made _ _ _) (hv.alloc _) (hc.alloc _)).mono ?_
      rw [HK.out]
      rintro e w1 ⟨rfl, n1, rfl⟩
      have hB1 := below_drewN hB0 n1
      go_wp2_with fail
      refine (pile_is HQ.out _ hs).mono ?_
      rintro e w2 ⟨rfl, hb2⟩
      go_wp2
      go_ret2
      exact ⟨ret2_nil HR.out, hB1.trans (hb2.mono hB1.size)⟩
    · have HQ := hid hq
      have hb1 := (below_drewN hB0)
      cases hh : hasAll A s.data.toList
      · have HR := Shh.mk (hHR.trans (takeOut_not hap hq hh))
        have HE := Shh.mk ((takeL_empty hap hq).trans hh)
        obtain ⟨X, hX⟩ : ∃ X, (takeL A s.data.toList).1 = X := ⟨_, rfl⟩
        have HX := Shh.mk hX
        clear hok hA hq hHR hap hvn hcn hlet hnum hb hX hh
        go_enter Try.func43, Try.ntmps43
        go_wp2_with fail
        refine (l02Ok_any _ L b _ hL (Blk.made _ _ _) (hv.alloc _) (hc.alloc _)).mono ?_
        rw [HK.out]
        rintro e w1 ⟨rfl, n1, rfl⟩
        have hB1 := hid (below_drewN hB0 n1)
        go_wp2_with fail
        refine (pile_is HQ.out _ hs).mono ?_
        rintro e w2 ⟨rfl, hb2⟩
        have hB2 := hid (hB1.out.trans (hb2.mono hB1.out.size))
        go_wp2_with fail
        refine (l02All_any (zv := zv) _ L b _ hL (((Blk.made w _ _).drewN n1).kept hb2 (by show w.heap.size < (w.alloc _).heap.size; simp)) (hc.below hB2.out) h26 HCN.out HB.out HNM.out).mono ?_
        rw [HA.out]
        rintro e w3 ⟨rfl, hb3⟩
        have hB3 := hid (hB2.out.trans (hb3.mono hB2.out.size))
        go_wp2_with fail
        refine (take_of s HX.out HE.out _ (by omega) hs).mono ?_
        rintro e w4 ⟨rfl, hb4⟩
        go_wp2
        go_ret2
        exact ⟨ret2_nil HR.out, hB3.out.trans (hb4.mono hB3.out.size)⟩
      · have HE := Shh.mk ((takeL_empty hap hq).trans hh)
        obtain ⟨X, hX⟩ : ∃ X, lessL A s.data.toList = X := ⟨_, rfl⟩
        have HX := Shh.mk ((takeL_less hap hq hh).trans hX)
        have HR := Shh.mk (hHR.trans ((takeOut_yes hap hq hh).trans (by rw [hX])))
        clear hok hA hq hHR hap hvn hcn hlet hnum hb hX hh
        go_enter Try.func43, Try.ntmps43
        go_wp2_with fail
        refine (l02Ok_any _ L b _ hL (Blk.made _ _ _) (hv.alloc _) (hc.alloc _)).mono ?_
        rw [HK.out]
        rintro e w1 ⟨rfl, n1, rfl⟩
        have hB1 := hid (below_drewN hB0 n1)
        go_wp2_with fail
        refine (pile_is HQ.out _ hs).mono ?_
        rintro e w2 ⟨rfl, hb2⟩
        have hB2 := hid (hB1.out.trans (hb2.mono hB1.out.size))
        go_wp2_with fail
        refine (l02All_any (zv := zv) _ L b _ hL (((Blk.made w _ _).drewN n1).kept hb2 (by show w.heap.size < (w.alloc _).heap.size; simp)) (hc.below hB2.out) h26 HCN.out HB.out HNM.out).mono ?_
        rw [HA.out]
        rintro e w3 ⟨rfl, hb3⟩
        have hB3 := hid (hB2.out.trans (hb3.mono hB2.out.size))
        go_wp2_with fail
        refine (take_of s HX.out HE.out _ (by omega) hs).mono ?_
        rintro e w4 ⟨rfl, hb4⟩
        go_wp2
        go_ret2
        exact ⟨ret2_is HR.out, hB3.out.trans (hb4.mono hB3.out.size)⟩

/-- The same, the text and the code told one by one. -/
theorem specUnseen2 (L : ByteArray) {vv vc : Value} {zv zc : List Int} (b : Int) (s : ByteArray) (hs : s.size ≤ 1048576) (w : World) (hL : L.size ≤ maxLen) (hv : Ints .i64 w vv zv) (hc : Ints .i64 w vc zc) :
    Calls Try.prog 43 #[.agg #[.string L, vv, vc, .int .i64 b], .string s] w fun e w' => e = .returned (.tuple #[.string ⟨(unseenOut L zv zc b s).1.toArray⟩, .int .i64 (unseenOut L zv zc b s).2]) ∧ Below w.heap.size w w' :=
  specUnseenTiles_any L b s hs w hL hv hc
theorem implUnseen2 (L : ByteArray) {vv vc : Value} {zv zc : List Int} (b : Int) (s : ByteArray) (hs : s.size ≤ 1048576) (w : World) (hL : L.size ≤ maxLen) (hv : Ints .i64 w vv zv) (hc : Ints .i64 w vc zc) :
    Calls Try.prog 45 #[.agg #[.string L, vv, vc, .int .i64 b], .string s] w fun e w' => e = .returned (.tuple #[.string ⟨(unseenOut L zv zc b s).1.toArray⟩, .int .i64 (unseenOut L zv zc b s).2]) ∧ Below w.heap.size w w' :=
  implUnseenTiles_any L b s hs w hL hv hc
end Go.Proofs.Ytcbkidpgefmhoaa
