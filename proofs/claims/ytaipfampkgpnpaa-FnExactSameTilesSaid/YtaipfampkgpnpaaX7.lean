/-
  SameTiles: the law's walk, over the program's contract.
-/
import Derived.Test.YtaipfampkgpnpaaX5
namespace Go.Proofs.Ytaipfampkgpnpaa
open Go.ChangeShapes Go.WideShapes Go.ChangeAt Go.RowKit Go.Joins

theorem toTile_on (a : World) (L : ByteArray) {vv vc : Value} {zv zc : List Int} (b : Int) (w : World) (h : Below a.heap.size a w) (hv : Ints .i64 a vv zv) (hc : Ints .i64 a vc zc) (hvn : zv.length ≤ 1048576) (hcn : zc.length ≤ 1048576) :
    Calls Try.prog 7 #[.agg #[.string L, vv, vc, .int .i64 b]] w fun e w' => ∃ v1 u1, e = .returned (.agg #[.string L, v1, u1, .int .i64 b]) ∧ Ints .i64 w' v1 zv ∧ Ints .i64 w' u1 zc ∧ Below w.heap.size w w' ∧ Below a.heap.size a w' := by
  have hwv : ∀ n ∈ zv, (Lit.int .i64 n).wf = true := by obtain ⟨_, _, _, _, _, _, h⟩ := hv; exact h
  have hwc : ∀ n ∈ zc, (Lit.int .i64 n).wf = true := by obtain ⟨_, _, _, _, _, _, h⟩ := hc; exact h
  refine (toTileSet_any L b w (hv.below h) (hc.below h) hvn hcn).mono ?_
  rintro e w' ⟨t, rfl, ⟨v1, u1, rfl, o1, q1⟩, hb⟩
  exact ⟨v1, u1, rfl, o1.ints hwv, q1.ints hwc, hb, h.trans (hb.mono h.size)⟩
/-- The same, the two rows written out. -/
theorem toTile_is (a : World) (L : ByteArray) {vv vc : Value} {zv zc : List Int} (b : Int) (w : World) (h : Below a.heap.size a w) (hv : Ints .i64 a vv zv) (hc : Ints .i64 a vc zc) (hvn : zv.length ≤ 1048576) (hcn : zc.length ≤ 1048576) :
    Calls Try.prog 7 #[.agg #[.string L, vv, vc, .int .i64 b]] w fun e w' => ∃ g k : Nat, e = .returned (.agg #[.string L, .slice (some ⟨g, 0, none⟩) zv.length zv.length, .slice (some ⟨k, 0, none⟩) zc.length zc.length, .int .i64 b]) ∧
      Ints .i64 w' (.slice (some ⟨g, 0, none⟩) zv.length zv.length) zv ∧ Ints .i64 w' (.slice (some ⟨k, 0, none⟩) zc.length zc.length) zc ∧ Below w.heap.size w w' ∧ Below a.heap.size a w' := by
  have hwv : ∀ n ∈ zv, (Lit.int .i64 n).wf = true := by obtain ⟨_, _, _, _, _, _, h⟩ := hv; exact h
  have hwc : ∀ n ∈ zc, (Lit.int .i64 n).wf = true := by obtain ⟨_, _, _, _, _, _, h⟩ := hc; exact h
  refine (toTileSet_any L b w (hv.below h) (hc.below h) hvn hcn).mono ?_
  rintro e w' ⟨t, rfl, ⟨v1, u1, rfl, o1, q1⟩, hb⟩
  have i1 := o1.ints hwv
  have j1 := q1.ints hwc
  obtain ⟨g, rfl, -⟩ := o1
  obtain ⟨k, rfl, -⟩ := q1
  exact ⟨g, k, rfl, i1, j1, hb, h.trans (hb.mono h.size)⟩
theorem two_kept {B C : Nat} {t t' : TypeId} {L1 L2 : ByteArray} {x1 x2 y1 y2 : Value} {b1 b2 : Int} {w w' : World} (p1 : Blk w B t #[.string L1, x1, y1, .int .i64 b1]) (p2 : Blk w C t' #[.string L2, x2, y2, .int .i64 b2])
    (hb : Below w.heap.size w w') : (w'.cell? ⟨B, 0, none⟩ = some (.string L1) ∧ w'.cell? ⟨B, 1, none⟩ = some x1 ∧ w'.cell? ⟨B, 2, none⟩ = some y1 ∧ w'.cell? ⟨B, 3, none⟩ = some (.int .i64 b1)) ∧
      (w'.cell? ⟨C, 0, none⟩ = some (.string L2) ∧ w'.cell? ⟨C, 1, none⟩ = some x2 ∧ w'.cell? ⟨C, 2, none⟩ = some y2 ∧ w'.cell? ⟨C, 3, none⟩ = some (.int .i64 b2)) := by
  have q1 := (p1.kept hb p1.lt).cells
  have q2 := (p2.kept hb p2.lt).cells
  exact ⟨⟨q1 0, q1 1, q1 2, q1 3⟩, ⟨q2 0, q2 1, q2 2, q2 3⟩⟩
def ImplSame (L M : ByteArray) (zv yv zc yc : List Int) (b d : Int) (V : Bool) : Prop := ∀ (w : World) (x1 x2 y1 y2 : Value), Ints .i64 w x1 zv → Ints .i64 w x2 yv → Ints .i64 w y1 zc → Ints .i64 w y2 yc →
  Calls Try.prog 8 #[.agg #[.string L, x1, y1, .int .i64 b], .agg #[.string M, x2, y2, .int .i64 d]] w fun e w' => e = .returned (.bool V) ∧ Below w.heap.size w w'
theorem sets_kept {B : Nat} {L1 L2 : ByteArray} {x1 x2 y1 y2 : Value} {b1 b2 : Int} {w w' : World} (p1 : Blk w B 24 #[.string L1, x1, y1, .int .i64 b1]) (p2 : Blk w (B + 1) 24 #[.string L2, x2, y2, .int .i64 b2])
    (hb : Below w.heap.size w w') : TwoSets B L1 L2 x1 x2 y1 y2 b1 b2 w' := by
  have q1 := (p1.kept hb p1.lt).cells
  have q2 := (p2.kept hb p2.lt).cells
  exact ⟨⟨q1 0, q1 1, q1 2, q1 3⟩, ⟨q2 0, q2 1, q2 2, q2 3⟩⟩

set_option maxRecDepth 100000 in
set_option maxHeartbeats 16000000 in
theorem FnExactSameTiles_in (w : World) (L : ByteArray) (vv vc : Value) (zv zc : List Int) (b : Int) (hL : L.size ≤ maxLen) (hv : Ints .i64 w vv zv) (hc : Ints .i64 w vc zc)
    (M : ByteArray) (mv mc : Value) (yv yc : List Int) (d : Int) (hM : M.size ≤ maxLen) (kv : Ints .i64 w mv yv) (kc : Ints .i64 w mc yc)
    (R Q : Int) (hR : szN 1048576 (L.size + zv.length + zc.length) = R) (hQ : szN R (M.size + yv.length + yc.length) = Q) (hr : 0 ≤ R) (hr2 : R ≤ 1048576) (hq : 0 ≤ Q) (hvn : zv.length ≤ 1048576) (hcn : zc.length ≤ 1048576) (kvn : yv.length ≤ 1048576) (kcn : yc.length ≤ 1048576)
    (V : Bool) (hV : sameB L M zv yv zc yc b d = V) (HI : Shh (ImplSame L M zv yv zc yc b d V)) :
    Calls Try.prog 3 #[.agg #[.string L, vv, vc, .int .i64 b], .agg #[.string M, mv, mc, .int .i64 d]] w fun e w' => e = .returned (.bool true) ∧ Below w.heap.size w w' := by
  have hr' : ¬ R < 0 := by omega
  have hq' : ¬ Q < 0 := by omega
  have HV := Shh.mk hV
  have HR := Shh.mk hR
  have HQ := Shh.mk hQ
  clear hR hQ hV
  go_enter Try.func3, Try.ntmps3
  go_wp2_with fail
  refine (szTileSet_any L b 1048576 _ hL ((hv.alloc _).alloc _) ((hc.alloc _).alloc _) (by omega) (by omega)).mono ?_
  rw [HR.out]
  rintro e w1 ⟨rfl, hb1⟩
  have p1 := hid (((Blk.made w 24 #[.string L, vv, vc, .int .i64 b]).alloc (.cells #[.string M, mv, mc, .int .i64 d] 24)).kept hb1 (by simp; omega))
  have r1 := hid ((made2 w 24 24 #[.string L, vv, vc, .int .i64 b] #[.string M, mv, mc, .int .i64 d]).kept hb1 (by simp))
  have cp := p1.out.cells
  have cr := r1.out.cells
  have hB1 := (((Below.refl w.heap.size w).alloc (Nat.le_refl _) _).alloc (by simp) _).trans (hb1.mono (by simp; omega))
  go_wp2_with fail
  refine (szTileSet_any M d R _ hM (kv.below hB1) (kc.below hB1) hr hr2).mono ?_
  rw [HQ.out]
  rintro e w2 ⟨rfl, hb2⟩
  have p2 := hid (p1.out.kept hb2 p1.out.lt)
  have r2 := hid (r1.out.kept hb2 r1.out.lt)
  have hB2 := hB1.trans (hb2.mono hB1.size)
  clear cp cr
  have v2 := Shh.mk (hv.below hB2)
  have c2 := Shh.mk (hc.below hB2)
  have m2 := Shh.mk (kv.below hB2)
  have n2 := Shh.mk (kc.below hB2)
  have HP := Shh.mk (fun w' (h : Below w2.heap.size w2 w') => sets_kept p2.out r2.out h)
  unfold TwoSets at HP
  clear hv hc kv kc
  go_wp2_with fail
  go_region_held3 (fun w' => (w'.cell? ⟨w.heap.size, 0, none⟩ = some (.string L) ∧ w'.cell? ⟨w.heap.size, 1, none⟩ = some vv ∧ w'.cell? ⟨w.heap.size, 2, none⟩ = some vc ∧ w'.cell? ⟨w.heap.size, 3, none⟩ = some (.int .i64 b)) ∧
      (w'.cell? ⟨w.heap.size + 1, 0, none⟩ = some (.string M) ∧ w'.cell? ⟨w.heap.size + 1, 1, none⟩ = some mv ∧ w'.cell? ⟨w.heap.size + 1, 2, none⟩ = some mc ∧ w'.cell? ⟨w.heap.size + 1, 3, none⟩ = some (.int .i64 d)))
    (exact HP.out _ (by first | assumption | exact (Below.refl _ _).drew))
    (first
      | (go_at_call 7; with_reducible refine (toTile_on w2 L b _ (by first | assumption | exact (Below.refl _ _).drew) v2.out c2.out hvn hcn).mono ?_; rintro e w3 ⟨ta, ua, rfl, ia, ja, hc3, hb3⟩)
      | (go_at_call 7; with_reducible refine (toTile_on w2 M d _ (by first | assumption | exact (Below.refl _ _).drew) m2.out n2.out kvn kcn).mono ?_; rintro e w4 ⟨tb, ub, rfl, ib, jb, hc4, hb4⟩)
      | (go_at_call 6; refine (specSameTiles_any L M b d _ (by first | exact ia | exact ia.below hc4) (by first | exact ib | exact ib.below hc3) (by first | exact ja | exact ja.below hc4) (by first | exact jb | exact jb.below hc3)).mono ?_; rw [HV.out]; rintro e w5 ⟨rfl, hc5⟩; have hb5 : Below w2.heap.size w2 w5 := by first | exact hb4.trans (hc5.mono hb4.size) | exact hb3.trans (hc5.mono hb3.size)))
  have hB5 := hB2.trans (hb5.mono hB2.size)
  have P5 := HP.out w5 hb5
  obtain ⟨⟨e0, e1, e2, e3⟩, ⟨f0, f1, f2, f3⟩⟩ := P5
  clear ia ja ib jb hc3 hc4 hc5
  go_wp2_with fail
  refine (toTile_is w2 L b _ hb5 v2.out c2.out hvn hcn).mono ?_
  rintro e w6 ⟨g6, k6, rfl, i6, j6, hc6, hb6⟩
  have P6 := HP.out w6 hb6
  clear e0 e1 e2 e3 f0 f1 f2 f3
  obtain ⟨⟨e0, e1, e2, e3⟩, ⟨f0, f1, f2, f3⟩⟩ := P6
  have hz6 : w2.heap.size ≤ w6.heap.size := hb6.size
  have I6 := Shh.mk i6
  have J6 := Shh.mk j6
  clear i6 j6
  have hb7 : Below w2.heap.size w2 (w6.alloc (.cells #[.string L, .slice (some ⟨g6, 0, none⟩) zv.length zv.length, .slice (some ⟨k6, 0, none⟩) zc.length zc.length, .int .i64 b] 27)) := hb6.alloc hb6.size _
  have HB7 := Shh.mk hb7
  have P7 := HP.out _ hb7
  clear hb7
  obtain ⟨⟨a0, a1, a2, a3⟩, ⟨d0, d1, d2, d3⟩⟩ := P7
  go_wp2_with fail
  refine (toTile_is w2 M d _ HB7.out m2.out n2.out kvn kcn).mono ?_
  rintro e w8 ⟨g8, k8, rfl, i8, j8, hc8, hb8⟩
  have x8 := hid ((Blk.made w6 27 #[.string L, .slice (some ⟨g6, 0, none⟩) zv.length zv.length, .slice (some ⟨k6, 0, none⟩) zc.length zc.length, .int .i64 b]).kept hc8 (by simp))
  have I8 := Shh.mk ((I6.out.alloc _).below hc8)
  have J8 := Shh.mk ((J6.out.alloc _).below hc8)
  have K8 := Shh.mk i8
  have L8 := Shh.mk j8
  have hz8 : w6.heap.size < w8.heap.size := by have := hc8.size; simp at this; omega
  have P8 := HP.out w8 hb8
  clear e0 e1 e2 e3 f0 f1 f2 f3 a0 a1 a2 a3 d0 d1 d2 d3 i8 j8
  have xc := ((x8.out.alloc (.cells #[.string M, .slice (some ⟨g8, 0, none⟩) yv.length yv.length, .slice (some ⟨k8, 0, none⟩) yc.length yc.length, .int .i64 d] 27))).cells
  go_wp2_with fail
  refine (HI.out _ _ _ _ _ (I8.out.alloc _) (K8.out.alloc _) (J8.out.alloc _) (L8.out.alloc _)).mono ?_
  rintro e w9 ⟨rfl, hc9⟩
  have hz9 : w8.heap.size < w9.heap.size := by have := hc9.size; simp at this; omega
  have hb9 : Below w2.heap.size w2 w9 := (hb8.alloc hb8.size _).trans (hc9.mono (by have := hb8.size; simp; omega))
  have x9 := hid ((x8.out.alloc _).kept hc9 (by simp; omega))
  have y9 := hid ((Blk.made w8 27 #[.string M, .slice (some ⟨g8, 0, none⟩) yv.length yv.length, .slice (some ⟨k8, 0, none⟩) yc.length yc.length, .int .i64 d]).kept hc9 (by simp))
  have I9 := Shh.mk ((I8.out.alloc _).below hc9)
  have J9 := Shh.mk ((J8.out.alloc _).below hc9)
  have K9 := Shh.mk ((K8.out.alloc _).below hc9)
  have L9 := Shh.mk ((L8.out.alloc _).below hc9)
  have p9 := hid (p2.out.kept hb9 p2.out.lt)
  have r9 := hid (r2.out.kept hb9 r2.out.lt)
  have HX := Shh.mk (fun w' (h : Below w9.heap.size w9 w') => two_kept x9.out p9.out h)
  have HY := Shh.mk (fun w' (h : Below w9.heap.size w9 w') => two_kept y9.out r9.out h)
  have HB9 := Shh.mk hb9
  have hVV : (V != V) = false := by simp
  clear xc P8 hb9 hb8 hb6 hb5 hb4 hb3 hb2 hb1
  go_wp2_with fail
  go_region_held3 (fun w' => (w'.cell? ⟨w6.heap.size, 0, none⟩ = some (.string L) ∧ w'.cell? ⟨w6.heap.size, 1, none⟩ = some (.slice (some ⟨g6, 0, none⟩) zv.length zv.length) ∧ w'.cell? ⟨w6.heap.size, 2, none⟩ = some (.slice (some ⟨k6, 0, none⟩) zc.length zc.length) ∧ w'.cell? ⟨w6.heap.size, 3, none⟩ = some (.int .i64 b)) ∧
      (w'.cell? ⟨w.heap.size, 0, none⟩ = some (.string L) ∧ w'.cell? ⟨w.heap.size, 1, none⟩ = some vv ∧ w'.cell? ⟨w.heap.size, 2, none⟩ = some vc ∧ w'.cell? ⟨w.heap.size, 3, none⟩ = some (.int .i64 b)))
    (exact HX.out _ (by first | assumption | exact (Below.refl _ _).drew))
    (first
      | (go_at_call 7; refine (toTile_on w2 L b _ HB9.out.drew v2.out c2.out hvn hcn).mono ?_; rintro e w10 ⟨ta, ua, rfl, ia, ja, hc10, hb10⟩; have hd10 : Below w9.heap.size w9 w10 := (Below.refl w9.heap.size w9).drew.trans hc10)
      | (go_at_call 9; refine (eqTileSet_same L b _ (I9.out.below hd10) (J9.out.below hd10) ia ja).mono ?_; rintro e w11 ⟨rfl, hc11⟩; have hd11 : Below w9.heap.size w9 w11 := hd10.trans (hc11.mono hd10.size)))
  clear ia ja hc10 hd10 hb10
  have HD := Shh.mk hd11
  have HB11 := Shh.mk (HB9.out.trans (hd11.mono HB9.out.size))
  clear hd11
  have HY2 := Shh.mk (fun w' (h : Below w11.heap.size w11 w') => HY.out w' (HD.out.trans (h.mono HD.out.size)))
  go_wp2_with fail
  go_region_held3 (fun w' => (w'.cell? ⟨w8.heap.size, 0, none⟩ = some (.string M) ∧ w'.cell? ⟨w8.heap.size, 1, none⟩ = some (.slice (some ⟨g8, 0, none⟩) yv.length yv.length) ∧ w'.cell? ⟨w8.heap.size, 2, none⟩ = some (.slice (some ⟨k8, 0, none⟩) yc.length yc.length) ∧ w'.cell? ⟨w8.heap.size, 3, none⟩ = some (.int .i64 d)) ∧
      (w'.cell? ⟨w.heap.size + 1, 0, none⟩ = some (.string M) ∧ w'.cell? ⟨w.heap.size + 1, 1, none⟩ = some mv ∧ w'.cell? ⟨w.heap.size + 1, 2, none⟩ = some mc ∧ w'.cell? ⟨w.heap.size + 1, 3, none⟩ = some (.int .i64 d)))
    (exact HY2.out _ (by first | assumption | exact (Below.refl _ _).drew))
    (first
      | (go_at_call 7; refine (toTile_on w2 M d _ HB11.out.drew m2.out n2.out kvn kcn).mono ?_; rintro e w12 ⟨ta, ua, rfl, ia, ja, hc12, hb12⟩; have hd12 : Below w11.heap.size w11 w12 := (Below.refl w11.heap.size w11).drew.trans hc12)
      | (go_at_call 9; refine (eqTileSet_same M d _ ((K9.out.below HD.out).below hd12) ((L9.out.below HD.out).below hd12) ia ja).mono ?_; rintro e w13 ⟨rfl, hc13⟩; have hd13 : Below w11.heap.size w11 w13 := hd12.trans (hc13.mono hd12.size)))
  go_wp2
  go_ret
  have hb13 : Below w2.heap.size w2 w13 := HB11.out.trans (hd13.mono HB11.out.size)
  exact ⟨rfl, hB2.trans (hb13.mono hB2.size)⟩
end Go.Proofs.Ytaipfampkgpnpaa
