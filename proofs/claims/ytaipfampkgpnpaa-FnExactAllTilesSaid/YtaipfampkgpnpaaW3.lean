/-
  All tiles of a tile set: the model's, and both with the text and the code told one by one.
-/
import Derived.Test.YtaipfampkgpnpaaW1
namespace Go.Proofs.Ytaipfampkgpnpaa
open Go.RowKit

set_option maxHeartbeats 1000000 in
theorem specAllTiles_any (L : ByteArray) {vv vc : Value} {zv zc : List Int} (b : Int) (w : World) (hL : L.size ≤ maxLen) (hv : Ints .i64 w vv zv) (hc : Ints .i64 w vc zc) :
    Calls Try.prog 10 #[.agg #[.string L, vv, vc, .int .i64 b]] w fun e w' => e = .returned (ret2 (allOut L zv zc b)) ∧ Below w.heap.size w w' := by
  have hB0 := (Below.refl w.heap.size w).alloc (Nat.le_refl _) (.cells #[.string L, vv, vc, .int .i64 b] 27)
  cases hok : okT L.data.toList zv zc b
  · have HR := hid (allOut_no hok)
    have HK := hid hok
    clear hok
    go_enter Try.func10, Try.ntmps10
    go_wp2_with fail
    refine (l02Ok_any _ L b _ hL (Blk.made _ _ _) (hv.alloc _) (hc.alloc _)).mono ?_
    rw [HK.out]
    rintro e w1 ⟨rfl, n1, rfl⟩
    go_wp2
    go_ret2
    exact ⟨ret2_nil HR.out, below_drewN hB0 _⟩
  · have HR := Shh.mk (allOut_yes hok)
    have HK := hid hok
    obtain ⟨h1, h26, hvn, hcn, hb, hlet, hnum, -⟩ := okT_facts hok
    have HCN := Shh.mk hcn
    have HNM := Shh.mk hnum
    have HB := Shh.mk hb
    obtain ⟨A, hA⟩ : ∃ A, allTo L zc b L.size = A := ⟨_, rfl⟩
    have HA := Shh.mk hA
    rw [hA] at HR
    clear hok hA hvn hcn hlet hnum hb
    go_enter Try.func10, Try.ntmps10
    go_wp2_with fail
    refine (l02Ok_any _ L b _ hL (Blk.made _ _ _) (hv.alloc _) (hc.alloc _)).mono ?_
    rw [HK.out]
    rintro e w1 ⟨rfl, n1, rfl⟩
    have hB1 := hid (below_drewN hB0 n1)
    go_wp2_with fail
    refine (l02All_any (zv := zv) _ L b _ hL ((Blk.made w _ _).drewN n1) ((hc.alloc _).drewN n1) h26 HCN.out HB.out HNM.out).mono ?_
    rw [HA.out]
    rintro e w2 ⟨rfl, hb2⟩
    have hB2 := hid (hB1.out.trans (hb2.mono hB1.out.size))
    go_wp2
    go_ret2
    exact ⟨ret2_is HR.out, hB2.out⟩
theorem specAll2 (L : ByteArray) {vv vc : Value} {zv zc : List Int} (b : Int) (w : World) (hL : L.size ≤ maxLen) (hv : Ints .i64 w vv zv) (hc : Ints .i64 w vc zc) :
    Calls Try.prog 10 #[.agg #[.string L, vv, vc, .int .i64 b]] w fun e w' => e = .returned (.tuple #[.string ⟨(allOut L zv zc b).1.toArray⟩, .int .i64 (allOut L zv zc b).2]) ∧ Below w.heap.size w w' := specAllTiles_any L b w hL hv hc
theorem implAll2 (L : ByteArray) {vv vc : Value} {zv zc : List Int} (b : Int) (w : World) (hL : L.size ≤ maxLen) (hv : Ints .i64 w vv zv) (hc : Ints .i64 w vc zc) :
    Calls Try.prog 11 #[.agg #[.string L, vv, vc, .int .i64 b]] w fun e w' => e = .returned (.tuple #[.string ⟨(allOut L zv zc b).1.toArray⟩, .int .i64 (allOut L zv zc b).2]) ∧ Below w.heap.size w w' := implAllTiles_any L b w hL hv hc
end Go.Proofs.Ytaipfampkgpnpaa
