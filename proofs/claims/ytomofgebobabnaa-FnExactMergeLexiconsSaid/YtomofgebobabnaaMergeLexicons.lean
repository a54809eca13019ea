/-
  The law of MergeLexicons is true of every two lexicons, valid or not: the program answers as the model does, in memory of its own at each call, and changes nothing.
-/
import Derived.Test.YtomofgebobabnaaLH
import Derived.Test.YtomofgebobabnaaLD
import Derived.Deep.DeepCutAuto
namespace Go.Proofs.Ytomofgebobabnaa
open Go.ChangeShapes Go.WideShapes Go.ChangeAt Go.RowKit Go.Joins Go.Deep
open Go.ChangeMaps (open_string shut_string)

theorem specMerge_on {u v : Value} {us vs os : List ByteArray} {cd : Int} (h : mergeOut us vs = (os, cd)) (w0 W : World) (hb : Below w0.heap.size w0 W) (hx : Strs W u us) (hy : Strs W v vs) (hz : ∀ s ∈ us, s.size ≤ maxLen) (hz2 : ∀ s ∈ vs, s.size ≤ maxLen) :
    Calls Try.prog 43 #[.agg #[u], .agg #[v]] W fun e w' => ∃ a n c, e = .returned (.tuple #[.agg #[.slice a n c], .int .i64 cd]) ∧ OwnS W.heap.size w' (.slice a n c) os ∧ Below w0.heap.size w0 w' ∧ Below W.heap.size W w' := by
  have := specMergeLexicons_any W hx hy hz hz2
  rw [h] at this
  exact this.mono fun _ _ ⟨a, n, c, h1, h2, h3⟩ => ⟨a, n, c, h1, h2, hb.trans (h3.mono hb.size), h3⟩
theorem implMerge_on {u v : Value} {us vs os : List ByteArray} {cd : Int} (h : mergeOut us vs = (os, cd)) (w0 W : World) (hb : Below w0.heap.size w0 W) (hx : Strs W u us) (hy : Strs W v vs) (hz : ∀ s ∈ us, s.size ≤ maxLen) (hz2 : ∀ s ∈ vs, s.size ≤ maxLen) :
    Calls Try.prog 44 #[.agg #[u], .agg #[v]] W fun e w' => ∃ a n c, e = .returned (.tuple #[.agg #[.slice a n c], .int .i64 cd]) ∧ OwnS W.heap.size w' (.slice a n c) os ∧ Below w0.heap.size w0 w' ∧ Below W.heap.size W w' := by
  have := implMergeLexicons_any W hx hy hz hz2
  rw [h] at this
  exact this.mono fun _ _ ⟨a, n, c, h1, h2, h3⟩ => ⟨a, n, c, h1, h2, hb.trans (h3.mono hb.size), h3⟩
theorem implMerge_is {u v : Value} {us vs os : List ByteArray} {cd : Int} (h : mergeOut us vs = (os, cd)) (W : World) (hx : Strs W u us) (hy : Strs W v vs) (hz : ∀ s ∈ us, s.size ≤ maxLen) (hz2 : ∀ s ∈ vs, s.size ≤ maxLen) :
    Calls Try.prog 44 #[.agg #[u], .agg #[v]] W fun e w' => ∃ a n c, e = .returned (.tuple #[.agg #[.slice a n c], .int .i64 cd]) ∧ OwnS W.heap.size w' (.slice a n c) os ∧ Below W.heap.size W w' := by
  have := implMergeLexicons_any W hx hy hz hz2
  rw [h] at this
  exact this
/-- What a call's draw leaves of the cell that the answer is laid into, made ahead of the call. -/
theorem made_kept {w X y : World} {t : TypeId} (hX : (w.alloc (.cells #[.slice none 0 0] t)) = X ∨ (w.alloc (.cells #[.slice none 0 0] t)).drew = X) (hb : Below X.heap.size X y) : Blk y w.heap.size t #[.slice none 0 0] := by
  rcases hX with rfl | rfl
  · exact (Blk.made w t #[.slice none 0 0]).kept hb (by simp)
  · exact (Blk.drew (Blk.made w t #[.slice none 0 0])).kept hb (Blk.drew (Blk.made w t #[.slice none 0 0])).lt

set_option maxRecDepth 100000 in
set_option maxHeartbeats 4000000 in
theorem FnExactMergeLexicons_walk (W : World) (us : List ByteArray) (u : Value) (hu : Strs W u us) (hz : ∀ s ∈ us, s.size ≤ maxLen)
    (vs : List ByteArray) (v : Value) (hv : Strs W v vs) (hy : ∀ s ∈ vs, s.size ≤ maxLen) :
    Calls Try.prog 12 #[.agg #[u], .agg #[v]] W fun e w' => e = .returned (.bool true) ∧ Below W.heap.size W w' := by
  have hB0 := ((Below.refl W.heap.size W).alloc (Nat.le_refl _) (.cells #[u] 24)).alloc (by simp) (.cells #[v] 24)
  have HU := Shh.mk hu
  have HV := Shh.mk hv
  have p0 := (Blk.made W 24 #[u]).alloc (.cells #[v] 24)
  have p1 := Blk.made (W.alloc (.cells #[u] 24)) 24 #[v]
  rw [World.size_alloc] at p1
  obtain ⟨aa, ac, rfl, -⟩ := hu
  obtain ⟨ba, bc, rfl, -⟩ := hv
  have P0 := Shh.mk p0
  have P1 := Shh.mk p1
  clear p0 p1
  by_cases hsz : (1048576 : Int) < ((strsW us : Nat) : Int)
  · have HS := hid (szN_no hsz)
    clear hsz
    go_enter Try.func12, Try.ntmps12
    go_wp2_with fail
    refine (szLexicon_any us 1048576 _ (HU.out.below hB0) hz (by omega) (by omega)).mono ?_
    rw [HS.out]
    rintro e w1 ⟨rfl, hb1⟩
    go_wp2
    go_ret
    exact ⟨rfl, hB0.trans (hb1.mono hB0.size)⟩
  · have HS := hid (szN_yes hsz)
    have hge : ¬ (1048576 : Int) - ((strsW us : Nat) : Int) < 0 := by omega
    by_cases hsz2 : (1048576 : Int) - ((strsW us : Nat) : Int) < ((strsW vs : Nat) : Int)
    · have HS2 := hid (szN_no hsz2)
      clear hsz2
      go_enter Try.func12, Try.ntmps12
      go_wp2_with fail
      refine (szLexicon_any us 1048576 _ (HU.out.below hB0) hz (by omega) (by omega)).mono ?_
      rw [HS.out]
      rintro e w1 ⟨rfl, hb1⟩
      have hB1 := hB0.trans (hb1.mono hB0.size)
      have c1 := (P1.out.kept hb1 P1.out.lt).cells
      go_wp2_with fail
      refine (szLexicon_any vs _ _ (HV.out.below hB1) hy (by omega) (by omega)).mono ?_
      rw [HS2.out]
      rintro e w2 ⟨rfl, hb2⟩
      go_wp2
      go_ret
      exact ⟨rfl, hB1.trans (hb2.mono hB1.size)⟩
    · have HS2 := hid (szN_yes hsz2)
      have hN1 : us.length ≤ 1048576 := by have := strsW_len us; omega
      have hN2 : vs.length ≤ 1048576 := by have := strsW_len vs; omega
      have hge2 : ¬ (1048576 : Int) - ((strsW us : Nat) : Int) - ((strsW vs : Nat) : Int) < 0 := by omega
      obtain ⟨t, htt⟩ : ∃ t, mergeOut us vs = t := ⟨_, rfl⟩
      have hos := show t.1.length ≤ 3000000 by rw [← htt]; exact Nat.le_trans (mergeOut_len us vs) (by omega)
      obtain ⟨os, cd⟩ := t
      have hos : os.length ≤ 3000000 := hos
      have HT := Shh.mk htt
      have N1 := Shh.mk hN1
      have N2 := Shh.mk hN2
      clear hsz hsz2 htt hN1 hN2
      have B_0 := Shh.mk (hB0)
      have Q_0 := Shh.mk (P0.out)
      have R_0 := Shh.mk (P1.out)
      go_enter Try.func12, Try.ntmps12
      go_wp2_with fail
      refine (szLexicon_any us 1048576 _ (HU.out.below B_0.out) hz (by omega) (by omega)).mono ?_
      rw [HS.out]
      rintro e w1 ⟨rfl, hb⟩
      have B_1 := Shh.mk (B_0.out.trans (hb.mono B_0.out.size))
      have Q_1 := Shh.mk (Q_0.out.kept hb Q_0.out.lt)
      have R_1 := Shh.mk (R_0.out.kept hb R_0.out.lt)
      clear B_0 Q_0 R_0
      clear hb
      have cell0 := R_1.out.cells
      go_wp2_with fail
      refine (szLexicon_any vs _ _ (HV.out.below B_1.out) hy (by omega) (by omega)).mono ?_
      rw [HS2.out]
      rintro e w2 ⟨rfl, hb⟩
      clear cell0
      have B_2 := Shh.mk (B_1.out.trans (hb.mono B_1.out.size))
      have Q_2 := Shh.mk (Q_1.out.kept hb Q_1.out.lt)
      have R_2 := Shh.mk (R_1.out.kept hb R_1.out.lt)
      clear B_1 Q_1 R_1
      clear hb
      have cell0 := Q_2.out.cells
      have cell1 := R_2.out.cells
      go_upto_region 8 with fail
      go_cut [6, 7] (fun sp sc wx => ∃ g a n c, sp = .pointer (some ⟨g, 0, none⟩) ∧ sc = .int .i64 cd ∧ Shh (Blk wx g 27 #[.slice a n c]) ∧ Shh (OwnS w2.heap.size wx (.slice a n c) os) ∧ Shh (Below w2.heap.size w2 wx) ∧ w2.heap.size ≤ g)
      case first =>
        have HK := Shh.mk (fun w' (hb : Below w2.heap.size w2 w') => twoLex Q_2.out R_2.out hb)
        have GA := Shh.mk (HU.out.below B_2.out)
        have GB := Shh.mk (HV.out.below B_2.out)
        go_region_held3 (fun w' => w'.cell? ⟨W.heap.size, 0, none⟩ = some (.slice aa us.length ac) ∧ w'.cell? ⟨W.heap.size + 1, 0, none⟩ = some (.slice ba vs.length bc))
          (exact HK.out _ (by first | assumption | exact (Below.refl _ _).drew | exact ((Below.refl _ _).alloc (Nat.le_refl _) _).drew | exact Below.alloc (by assumption) (Below.size (by assumption)) _ | exact Below.setCell (by assumption) (by first | exact Nat.le_refl _ | exact Below.size (by assumption)) _ | exact Below.setCell (Below.alloc (by assumption) (Below.size (by assumption)) _) (by first | exact Nat.le_refl _ | exact Below.size (by assumption)) _))
          (first
            | (go_at_call 17; with_reducible refine (toL_on w2 _ (by first | assumption | exact (Below.refl _ _).drew | exact ((Below.refl _ _).alloc (Nat.le_refl _) _).drew | exact Below.alloc (by assumption) (Below.size (by assumption)) _) GA.out N1.out).mono ?_; rintro e ya ⟨aq, nq, rfl, hga, hba, hca⟩; (first | (have qa := made_kept (t := 27) (.inl rfl) hca; have cqa := qa.cells; have mqa := qa.marks) | (have qa := made_kept (t := 27) (.inr rfl) hca; have cqa := qa.cells; have mqa := qa.marks) | (have qa := Blk.kept (show Blk _ _ 27 #[.slice none 0 0] by assumption) hca (Blk.lt (by assumption)); have cqa := qa.cells; have mqa := qa.marks) | skip))
            | (go_at_call 17; with_reducible refine (toL_on w2 _ (by first | assumption | exact (Below.refl _ _).drew | exact ((Below.refl _ _).alloc (Nat.le_refl _) _).drew | exact Below.alloc (by assumption) (Below.size (by assumption)) _) GB.out N2.out).mono ?_; rintro e yb ⟨ar, nr, rfl, hgb, hbb, hcb⟩; (first | (have qb := made_kept (t := 27) (.inl rfl) hcb; have cqb := qb.cells; have mqb := qb.marks) | (have qb := made_kept (t := 27) (.inr rfl) hcb; have cqb := qb.cells; have mqb := qb.marks) | (have qb := Blk.kept (show Blk _ _ 27 #[.slice none 0 0] by assumption) hcb (Blk.lt (by assumption)); have cqb := qb.cells; have mqb := qb.marks) | skip))
            | (go_at_call 43; refine (specMerge_on HT.out w2 _ (by first | assumption | exact (Below.refl _ _).drew | exact ((Below.refl _ _).alloc (Nat.le_refl _) _).drew | exact Below.alloc (by assumption) (Below.size (by assumption)) _) (by first | exact hga | exact hga.alloc _ | exact hga.below hcb | exact (hga.below hcb).alloc _ | exact (hga.alloc _).below hcb) (by first | exact hgb | exact hgb.alloc _ | exact hgb.below hca | exact (hgb.below hca).alloc _ | exact (hgb.alloc _).below hca) hz hy).mono ?_; rintro e y3 ⟨a3, n3, c3, rfl, hs3, hb3, hc3⟩; (first | (have q3 := made_kept (t := 27) (.inl rfl) hc3; have cq3 := q3.cells; have mq3 := q3.marks) | (have q3 := made_kept (t := 27) (.inr rfl) hc3; have cq3 := q3.cells; have mq3 := q3.marks) | (have q3 := Blk.kept (show Blk _ _ 27 #[.slice none 0 0] by assumption) hc3 (Blk.lt (by assumption)); have cq3 := q3.cells; have mq3 := q3.marks) | skip)))
        all_goals
          go_wp2_with fail
          go_meet
          first
            | exact ⟨_, _, _, _, rfl, rfl, ⟨Blk.made _ _ _⟩, ⟨OwnS.lower (OwnS.kept hs3 ((Below.refl _ _).alloc (Nat.le_refl _) _)) (by first | exact Nat.le_refl _ | exact hbb.size | exact hba.size | exact Nat.le_trans hbb.size (by simp) | exact Nat.le_trans hba.size (by simp) | simp)⟩, ⟨Below.alloc (by assumption) (Below.size (by assumption)) _⟩, Below.size (by assumption)⟩
            | exact ⟨_, _, _, _, rfl, rfl, ⟨q3.stored 0 _⟩, ⟨OwnS.lower (OwnS.off hs3 (by first | simp | exact Blk.lt (by assumption)) 0 _) (by first | exact Nat.le_refl _ | exact hbb.size | exact hba.size | exact Nat.le_trans hbb.size (by simp) | exact Nat.le_trans hba.size (by simp) | simp)⟩, ⟨Below.setCell (by assumption) (by first | exact Nat.le_refl _ | exact Below.size (by assumption)) _⟩, by first | exact Nat.le_refl _ | exact Below.size (by assumption)⟩
      case rest =>
        obtain ⟨g3, a3, n3, c3, rfl, rfl, blk, own, bel, hge3⟩ := hcut
        clear cell0 cell1
        have B_3 := Shh.mk (B_2.out.trans (bel.out.mono B_2.out.size))
        have Q_3 := Shh.mk (Q_2.out.kept bel.out Q_2.out.lt)
        have R_3 := Shh.mk (R_2.out.kept bel.out R_2.out.lt)
        clear B_2 Q_2 R_2
        have S_0 := Shh.mk (own.out.strs)
        have X_0 := Shh.mk (blk.out)
        clear blk own bel
        have D_0 := Shh.mk (Below.refl wc.heap.size wc)
        have HS0 := S_0
        have HB3 := Shh.mk (B_3.out.size)
        have HQ3 := Shh.mk (Q_3.out.lt)
        have HR3 := Shh.mk (R_3.out.lt)
        have HX3 := Shh.mk (X_0.out.lt)
        have cell0 := Q_3.out.cells
        go_wp2_with fail
        refine (toLexicon_any us _ (HU.out.below B_3.out) N1.out).mono ?_
        rintro e w4 ⟨a4, n4, rfl, hg, hb⟩
        clear cell0
        have HL4 := Shh.mk (OwnS.block hg)
        have HH4 := Shh.mk (OwnS.under hg)
        have HZ4 := Shh.mk hb.size
        have B_4 := Shh.mk (B_3.out.trans (hb.mono B_3.out.size))
        have Q_4 := Shh.mk (Q_3.out.kept hb Q_3.out.lt)
        have R_4 := Shh.mk (R_3.out.kept hb R_3.out.lt)
        have S_1 := Shh.mk (S_0.out.below hb)
        have X_1 := Shh.mk (X_0.out.kept hb X_0.out.lt)
        have D_1 := Shh.mk (D_0.out.trans (hb.mono D_0.out.size))
        clear B_3 Q_3 R_3 S_0 X_0 D_0
        clear hb
        have G_0 := Shh.mk (hg)
        clear hg
        have B_5 := Shh.mk (B_4.out.alloc B_4.out.size (.cells #[.slice a4 us.length n4] 27))
        have Q_5 := Shh.mk (Q_4.out.alloc (.cells #[.slice a4 us.length n4] 27))
        have R_5 := Shh.mk (R_4.out.alloc (.cells #[.slice a4 us.length n4] 27))
        have S_2 := Shh.mk (S_1.out.alloc (.cells #[.slice a4 us.length n4] 27))
        have X_2 := Shh.mk (X_1.out.alloc (.cells #[.slice a4 us.length n4] 27))
        have D_2 := Shh.mk (D_1.out.alloc D_1.out.size (.cells #[.slice a4 us.length n4] 27))
        have G_1 := Shh.mk (OwnS.kept G_0.out ((Below.refl _ _).alloc (Nat.le_refl _) (.cells #[.slice a4 us.length n4] 27)))
        clear B_4 Q_4 R_4 S_1 X_1 D_1 G_0
        have Y_0 := Shh.mk (Blk.made w4 27 #[.slice a4 us.length n4])
        have cell0 := R_5.out.cells
        go_wp2_with fail
        refine (toLexicon_any vs _ (HV.out.below B_5.out) N2.out).mono ?_
        rintro e w5 ⟨a5, n5, rfl, hg, hb⟩
        clear cell0
        have HL5 := Shh.mk (OwnS.block hg)
        have HH5 := Shh.mk (OwnS.under hg)
        have HZ5 := Shh.mk hb.size
        have B_6 := Shh.mk (B_5.out.trans (hb.mono B_5.out.size))
        have Q_6 := Shh.mk (Q_5.out.kept hb Q_5.out.lt)
        have R_6 := Shh.mk (R_5.out.kept hb R_5.out.lt)
        have S_3 := Shh.mk (S_2.out.below hb)
        have X_3 := Shh.mk (X_2.out.kept hb X_2.out.lt)
        have D_3 := Shh.mk (D_2.out.trans (hb.mono D_2.out.size))
        have G_2 := Shh.mk (OwnS.kept G_1.out hb)
        have Y_1 := Shh.mk (Y_0.out.kept hb Y_0.out.lt)
        clear B_5 Q_5 R_5 S_2 X_2 D_2 G_1 Y_0
        clear hb
        have K_0 := Shh.mk (hg)
        clear hg
        have B_7 := Shh.mk (B_6.out.alloc B_6.out.size (.cells #[.slice a5 vs.length n5] 27))
        have Q_7 := Shh.mk (Q_6.out.alloc (.cells #[.slice a5 vs.length n5] 27))
        have R_7 := Shh.mk (R_6.out.alloc (.cells #[.slice a5 vs.length n5] 27))
        have S_4 := Shh.mk (S_3.out.alloc (.cells #[.slice a5 vs.length n5] 27))
        have X_4 := Shh.mk (X_3.out.alloc (.cells #[.slice a5 vs.length n5] 27))
        have D_4 := Shh.mk (D_3.out.alloc D_3.out.size (.cells #[.slice a5 vs.length n5] 27))
        have G_3 := Shh.mk (OwnS.kept G_2.out ((Below.refl _ _).alloc (Nat.le_refl _) (.cells #[.slice a5 vs.length n5] 27)))
        have Y_2 := Shh.mk (Y_1.out.alloc (.cells #[.slice a5 vs.length n5] 27))
        have K_1 := Shh.mk (OwnS.kept K_0.out ((Below.refl _ _).alloc (Nat.le_refl _) (.cells #[.slice a5 vs.length n5] 27)))
        clear B_6 Q_6 R_6 S_3 X_3 D_3 G_2 Y_1 K_0
        have V_0 := Shh.mk (Blk.made w5 27 #[.slice a5 vs.length n5])
        have cell0 := Y_2.out.cells
        have cell1 := V_0.out.cells
        go_wp2_with fail
        refine (implMerge_is HT.out _ (OwnS.strs G_3.out) (OwnS.strs K_1.out) hz hy).mono ?_
        rintro e w6 ⟨a6, n6, c6, rfl, ho, hb⟩
        clear cell0 cell1
        have HL6 := Shh.mk (OwnS.block ho)
        have HH6 := Shh.mk (OwnS.under ho)
        have HZ6 := Shh.mk hb.size
        have B_8 := Shh.mk (B_7.out.trans (hb.mono B_7.out.size))
        have Q_8 := Shh.mk (Q_7.out.kept hb Q_7.out.lt)
        have R_8 := Shh.mk (R_7.out.kept hb R_7.out.lt)
        have S_5 := Shh.mk (S_4.out.below hb)
        have X_5 := Shh.mk (X_4.out.kept hb X_4.out.lt)
        have D_5 := Shh.mk (D_4.out.trans (hb.mono D_4.out.size))
        have G_4 := Shh.mk (OwnS.kept G_3.out hb)
        have Y_3 := Shh.mk (Y_2.out.kept hb Y_2.out.lt)
        have K_2 := Shh.mk (OwnS.kept K_1.out hb)
        have V_1 := Shh.mk (V_0.out.kept hb V_0.out.lt)
        clear B_7 Q_7 R_7 S_4 X_4 D_4 G_3 Y_2 K_1 V_0
        clear hb
        have O_0 := Shh.mk (ho)
        clear ho
        have B_9 := Shh.mk (B_8.out.alloc B_8.out.size (.cells #[.slice a6 n6 c6] 27))
        have Q_9 := Shh.mk (Q_8.out.alloc (.cells #[.slice a6 n6 c6] 27))
        have R_9 := Shh.mk (R_8.out.alloc (.cells #[.slice a6 n6 c6] 27))
        have S_6 := Shh.mk (S_5.out.alloc (.cells #[.slice a6 n6 c6] 27))
        have X_6 := Shh.mk (X_5.out.alloc (.cells #[.slice a6 n6 c6] 27))
        have D_6 := Shh.mk (D_5.out.alloc D_5.out.size (.cells #[.slice a6 n6 c6] 27))
        have G_5 := Shh.mk (OwnS.kept G_4.out ((Below.refl _ _).alloc (Nat.le_refl _) (.cells #[.slice a6 n6 c6] 27)))
        have Y_4 := Shh.mk (Y_3.out.alloc (.cells #[.slice a6 n6 c6] 27))
        have K_3 := Shh.mk (OwnS.kept K_2.out ((Below.refl _ _).alloc (Nat.le_refl _) (.cells #[.slice a6 n6 c6] 27)))
        have V_2 := Shh.mk (V_1.out.alloc (.cells #[.slice a6 n6 c6] 27))
        have O_1 := Shh.mk (OwnS.kept O_0.out ((Below.refl _ _).alloc (Nat.le_refl _) (.cells #[.slice a6 n6 c6] 27)))
        clear B_8 Q_8 R_8 S_5 X_5 D_5 G_4 Y_3 K_2 V_1 O_0
        have Z_0 := Shh.mk (Blk.made w6 27 #[.slice a6 n6 c6])
        have cell0 := Z_0.out.cells
        have cell1 := X_6.out.cells
        go_wp2_with fail
        refine (eqLexicon_same os _ (OwnS.strs O_1.out) S_6.out).mono ?_
        rintro e w7 ⟨rfl, hb⟩
        clear cell0 cell1
        have B_10 := Shh.mk (B_9.out.trans (hb.mono B_9.out.size))
        have Q_10 := Shh.mk (Q_9.out.kept hb Q_9.out.lt)
        have R_10 := Shh.mk (R_9.out.kept hb R_9.out.lt)
        have S_7 := Shh.mk (S_6.out.below hb)
        have X_7 := Shh.mk (X_6.out.kept hb X_6.out.lt)
        have D_7 := Shh.mk (D_6.out.trans (hb.mono D_6.out.size))
        have G_6 := Shh.mk (OwnS.kept G_5.out hb)
        have Y_5 := Shh.mk (Y_4.out.kept hb Y_4.out.lt)
        have K_4 := Shh.mk (OwnS.kept K_3.out hb)
        have V_3 := Shh.mk (V_2.out.kept hb V_2.out.lt)
        have O_2 := Shh.mk (OwnS.kept O_1.out hb)
        have Z_1 := Shh.mk (Z_0.out.kept hb Z_0.out.lt)
        clear B_9 Q_9 R_9 S_6 X_6 D_6 G_5 Y_4 K_3 V_2 O_1 Z_0
        clear hb
        go_wp2
        have HK := Shh.mk (fun w' (hb : Below w7.heap.size w7 w') => twoLex Y_5.out Q_10.out hb)
        have HGW := Shh.mk (HU.out.below B_10.out)
        go_region_held3 (fun w' => w'.cell? ⟨w4.heap.size, 0, none⟩ = some (.slice a4 us.length n4) ∧ w'.cell? ⟨W.heap.size, 0, none⟩ = some (.slice aa us.length ac))
          (exact HK.out _ (by first | assumption | exact (Below.refl _ _).drew))
          (first
            | (go_at_call 17; with_reducible refine (toL_on w7 _ (by first | assumption | exact (Below.refl _ _).drew) HGW.out N1.out).mono ?_; rintro e yc ⟨aw, nw, rfl, hgc, hbc, hcc⟩)
            | (go_at_call 19; refine (eqL_on w7 _ (by assumption) (Strs.below (OwnS.strs G_6.out) (by assumption)) hgc).mono ?_; rintro e w8 ⟨rfl, hb⟩))
        all_goals
          clear HK HGW
          have B_11 := Shh.mk (B_10.out.trans (hb.mono B_10.out.size))
          have Q_11 := Shh.mk (Q_10.out.kept hb Q_10.out.lt)
          have R_11 := Shh.mk (R_10.out.kept hb R_10.out.lt)
          have S_8 := Shh.mk (S_7.out.below hb)
          have X_8 := Shh.mk (X_7.out.kept hb X_7.out.lt)
          have D_8 := Shh.mk (D_7.out.trans (hb.mono D_7.out.size))
          have G_7 := Shh.mk (OwnS.kept G_6.out hb)
          have Y_6 := Shh.mk (Y_5.out.kept hb Y_5.out.lt)
          have K_5 := Shh.mk (OwnS.kept K_4.out hb)
          have V_4 := Shh.mk (V_3.out.kept hb V_3.out.lt)
          have O_3 := Shh.mk (OwnS.kept O_2.out hb)
          have Z_2 := Shh.mk (Z_1.out.kept hb Z_1.out.lt)
          clear B_10 Q_10 R_10 S_7 X_7 D_7 G_6 Y_5 K_4 V_3 O_2 Z_1
          clear hb hgc hbc hcc
          go_wp2
          have HK := Shh.mk (fun w' (hb : Below w8.heap.size w8 w') => twoLex V_4.out R_11.out hb)
          have HGW := Shh.mk (HV.out.below B_11.out)
          go_region_held3 (fun w' => w'.cell? ⟨w5.heap.size, 0, none⟩ = some (.slice a5 vs.length n5) ∧ w'.cell? ⟨W.heap.size + 1, 0, none⟩ = some (.slice ba vs.length bc))
            (exact HK.out _ (by first | assumption | exact (Below.refl _ _).drew))
            (first
              | (go_at_call 17; with_reducible refine (toL_on w8 _ (by first | assumption | exact (Below.refl _ _).drew) HGW.out N2.out).mono ?_; rintro e yc ⟨aw, nw, rfl, hgc, hbc, hcc⟩)
              | (go_at_call 19; refine (eqL_on w8 _ (by assumption) (Strs.below (OwnS.strs K_5.out) (by assumption)) hgc).mono ?_; rintro e w9 ⟨rfl, hb⟩))
          all_goals
            clear HK HGW
            have B_12 := Shh.mk (B_11.out.trans (hb.mono B_11.out.size))
            have Q_12 := Shh.mk (Q_11.out.kept hb Q_11.out.lt)
            have R_12 := Shh.mk (R_11.out.kept hb R_11.out.lt)
            have S_9 := Shh.mk (S_8.out.below hb)
            have X_9 := Shh.mk (X_8.out.kept hb X_8.out.lt)
            have D_9 := Shh.mk (D_8.out.trans (hb.mono D_8.out.size))
            have G_8 := Shh.mk (OwnS.kept G_7.out hb)
            have Y_7 := Shh.mk (Y_6.out.kept hb Y_6.out.lt)
            have K_6 := Shh.mk (OwnS.kept K_5.out hb)
            have V_5 := Shh.mk (V_4.out.kept hb V_4.out.lt)
            have O_4 := Shh.mk (OwnS.kept O_3.out hb)
            have Z_3 := Shh.mk (Z_2.out.kept hb Z_2.out.lt)
            clear B_11 Q_11 R_11 S_8 X_8 D_8 G_7 Y_6 K_5 V_4 O_3 Z_2
            clear hb hgc hbc hcc
            have cell0 := Y_7.out.cells
            go_wp2_with fail
            refine (markLexicon_any 1 _ G_8.out (by omega) (by have := N1.out; omega)).mono ?_
            rintro e w10 ⟨rfl, hm, hg⟩
            clear cell0
            clear hm
            clear G_8
            clear Y_7
            clear S_9
            have B_13 := Shh.mk (B_12.out.grown hg B_12.out.size (fun k hk => by have h1 := HL4.out k hk; have h2 := HH4.out k hk; have h4 := HB3.out; have h5 := HQ3.out; have h6 := HX3.out; have h7 := HR3.out; have z4 := HZ4.out; have z5 := HZ5.out; have z6 := HZ6.out; simp only [World.size_alloc] at *; omega))
            have Q_13 := Shh.mk (Q_12.out.grown hg (fun k hk => by have h1 := HL4.out k hk; have h2 := HH4.out k hk; have h4 := HB3.out; have h5 := HQ3.out; have h6 := HX3.out; have h7 := HR3.out; have z4 := HZ4.out; have z5 := HZ5.out; have z6 := HZ6.out; simp only [World.size_alloc] at *; omega))
            have R_13 := Shh.mk (R_12.out.grown hg (fun k hk => by have h1 := HL4.out k hk; have h2 := HH4.out k hk; have h4 := HB3.out; have h5 := HQ3.out; have h6 := HX3.out; have h7 := HR3.out; have z4 := HZ4.out; have z5 := HZ5.out; have z6 := HZ6.out; simp only [World.size_alloc] at *; omega))
            have X_10 := Shh.mk (X_9.out.grown hg (fun k hk => by have h1 := HL4.out k hk; have h2 := HH4.out k hk; have h4 := HB3.out; have h5 := HQ3.out; have h6 := HX3.out; have h7 := HR3.out; have z4 := HZ4.out; have z5 := HZ5.out; have z6 := HZ6.out; simp only [World.size_alloc] at *; omega))
            have D_10 := Shh.mk (D_9.out.grown hg D_9.out.size (fun k hk => by have h1 := HL4.out k hk; have h2 := HH4.out k hk; have h4 := HB3.out; have h5 := HQ3.out; have h6 := HX3.out; have h7 := HR3.out; have z4 := HZ4.out; have z5 := HZ5.out; have z6 := HZ6.out; simp only [World.size_alloc] at *; omega))
            have K_7 := Shh.mk (OwnS.grown K_6.out hg (fun k hk => by have h1 := HL4.out k hk; have h2 := HH4.out k hk; have h4 := HB3.out; have h5 := HQ3.out; have h6 := HX3.out; have h7 := HR3.out; have z4 := HZ4.out; have z5 := HZ5.out; have z6 := HZ6.out; simp only [World.size_alloc] at *; omega))
            have V_6 := Shh.mk (V_5.out.grown hg (fun k hk => by have h1 := HL4.out k hk; have h2 := HH4.out k hk; have h4 := HB3.out; have h5 := HQ3.out; have h6 := HX3.out; have h7 := HR3.out; have z4 := HZ4.out; have z5 := HZ5.out; have z6 := HZ6.out; simp only [World.size_alloc] at *; omega))
            have O_5 := Shh.mk (OwnS.grown O_4.out hg (fun k hk => by have h1 := HL4.out k hk; have h2 := HH4.out k hk; have h4 := HB3.out; have h5 := HQ3.out; have h6 := HX3.out; have h7 := HR3.out; have z4 := HZ4.out; have z5 := HZ5.out; have z6 := HZ6.out; simp only [World.size_alloc] at *; omega))
            have Z_4 := Shh.mk (Z_3.out.grown hg (fun k hk => by have h1 := HL4.out k hk; have h2 := HH4.out k hk; have h4 := HB3.out; have h5 := HQ3.out; have h6 := HX3.out; have h7 := HR3.out; have z4 := HZ4.out; have z5 := HZ5.out; have z6 := HZ6.out; simp only [World.size_alloc] at *; omega))
            clear B_12 Q_12 R_12 X_9 D_9 K_6 V_5 O_4 Z_3
            clear hg
            have cell0 := V_6.out.cells
            go_wp2_with fail
            refine (markLexicon_any (1 + us.length) _ K_7.out (by omega) (by have := N1.out; have := N2.out; omega)).mono ?_
            rintro e w11 ⟨rfl, hm, hg⟩
            clear cell0
            clear hm
            clear K_7
            clear V_6
            have B_14 := Shh.mk (B_13.out.grown hg B_13.out.size (fun k hk => by have h1 := HL5.out k hk; have h2 := HH5.out k hk; have h4 := HB3.out; have h5 := HQ3.out; have h6 := HX3.out; have h7 := HR3.out; have z4 := HZ4.out; have z5 := HZ5.out; have z6 := HZ6.out; simp only [World.size_alloc] at *; omega))
            have Q_14 := Shh.mk (Q_13.out.grown hg (fun k hk => by have h1 := HL5.out k hk; have h2 := HH5.out k hk; have h4 := HB3.out; have h5 := HQ3.out; have h6 := HX3.out; have h7 := HR3.out; have z4 := HZ4.out; have z5 := HZ5.out; have z6 := HZ6.out; simp only [World.size_alloc] at *; omega))
            have R_14 := Shh.mk (R_13.out.grown hg (fun k hk => by have h1 := HL5.out k hk; have h2 := HH5.out k hk; have h4 := HB3.out; have h5 := HQ3.out; have h6 := HX3.out; have h7 := HR3.out; have z4 := HZ4.out; have z5 := HZ5.out; have z6 := HZ6.out; simp only [World.size_alloc] at *; omega))
            have X_11 := Shh.mk (X_10.out.grown hg (fun k hk => by have h1 := HL5.out k hk; have h2 := HH5.out k hk; have h4 := HB3.out; have h5 := HQ3.out; have h6 := HX3.out; have h7 := HR3.out; have z4 := HZ4.out; have z5 := HZ5.out; have z6 := HZ6.out; simp only [World.size_alloc] at *; omega))
            have D_11 := Shh.mk (D_10.out.grown hg D_10.out.size (fun k hk => by have h1 := HL5.out k hk; have h2 := HH5.out k hk; have h4 := HB3.out; have h5 := HQ3.out; have h6 := HX3.out; have h7 := HR3.out; have z4 := HZ4.out; have z5 := HZ5.out; have z6 := HZ6.out; simp only [World.size_alloc] at *; omega))
            have O_6 := Shh.mk (OwnS.grown O_5.out hg (fun k hk => by have h1 := HL5.out k hk; have h2 := HH5.out k hk; have h4 := HB3.out; have h5 := HQ3.out; have h6 := HX3.out; have h7 := HR3.out; have z4 := HZ4.out; have z5 := HZ5.out; have z6 := HZ6.out; simp only [World.size_alloc] at *; omega))
            have Z_5 := Shh.mk (Z_4.out.grown hg (fun k hk => by have h1 := HL5.out k hk; have h2 := HH5.out k hk; have h4 := HB3.out; have h5 := HQ3.out; have h6 := HX3.out; have h7 := HR3.out; have z4 := HZ4.out; have z5 := HZ5.out; have z6 := HZ6.out; simp only [World.size_alloc] at *; omega))
            clear B_13 Q_13 R_13 X_10 D_10 O_5 Z_4
            clear hg
            have S_10 := Shh.mk (HS0.out.below D_11.out)
            have hnn : ¬ (((1 + us.length + vs.length : Nat) : Int) < 0) := by omega
            have cell0 := Z_5.out.cells
            have cell1 := X_11.out.cells
            go_wp2_with fail
            refine (eqLexicon_same os _ (OwnS.strs O_6.out) S_10.out).mono ?_
            rintro e w12 ⟨rfl, hb⟩
            clear cell0 cell1
            have B_15 := Shh.mk (B_14.out.trans (hb.mono B_14.out.size))
            have Q_15 := Shh.mk (Q_14.out.kept hb Q_14.out.lt)
            have R_15 := Shh.mk (R_14.out.kept hb R_14.out.lt)
            have X_12 := Shh.mk (X_11.out.kept hb X_11.out.lt)
            have D_12 := Shh.mk (D_11.out.trans (hb.mono D_11.out.size))
            have O_7 := Shh.mk (OwnS.kept O_6.out hb)
            have Z_6 := Shh.mk (Z_5.out.kept hb Z_5.out.lt)
            have S_11 := Shh.mk (S_10.out.below hb)
            clear B_14 Q_14 R_14 X_11 D_11 O_6 Z_5 S_10
            clear hb
            clear hnn
            have cell0 := Z_6.out.cells
            go_wp2_with fail
            refine (markLexicon_any 1 _ O_7.out (by omega) (by omega)).mono ?_
            rintro e w13 ⟨rfl, hm, hg⟩
            clear cell0
            clear O_7
            clear S_11
            have B_16 := Shh.mk (B_15.out.grown hg B_15.out.size (fun k hk => by have h1 := HL6.out k hk; have h2 := HH6.out k hk; have h4 := HB3.out; have h5 := HQ3.out; have h6 := HX3.out; have h7 := HR3.out; have z4 := HZ4.out; have z5 := HZ5.out; have z6 := HZ6.out; simp only [World.size_alloc] at *; omega))
            have Q_16 := Shh.mk (Q_15.out.grown hg (fun k hk => by have h1 := HL6.out k hk; have h2 := HH6.out k hk; have h4 := HB3.out; have h5 := HQ3.out; have h6 := HX3.out; have h7 := HR3.out; have z4 := HZ4.out; have z5 := HZ5.out; have z6 := HZ6.out; simp only [World.size_alloc] at *; omega))
            have R_16 := Shh.mk (R_15.out.grown hg (fun k hk => by have h1 := HL6.out k hk; have h2 := HH6.out k hk; have h4 := HB3.out; have h5 := HQ3.out; have h6 := HX3.out; have h7 := HR3.out; have z4 := HZ4.out; have z5 := HZ5.out; have z6 := HZ6.out; simp only [World.size_alloc] at *; omega))
            have X_13 := Shh.mk (X_12.out.grown hg (fun k hk => by have h1 := HL6.out k hk; have h2 := HH6.out k hk; have h4 := HB3.out; have h5 := HQ3.out; have h6 := HX3.out; have h7 := HR3.out; have z4 := HZ4.out; have z5 := HZ5.out; have z6 := HZ6.out; simp only [World.size_alloc] at *; omega))
            have D_13 := Shh.mk (D_12.out.grown hg D_12.out.size (fun k hk => by have h1 := HL6.out k hk; have h2 := HH6.out k hk; have h4 := HB3.out; have h5 := HQ3.out; have h6 := HX3.out; have h7 := HR3.out; have z4 := HZ4.out; have z5 := HZ5.out; have z6 := HZ6.out; simp only [World.size_alloc] at *; omega))
            have Z_7 := Shh.mk (Z_6.out.grown hg (fun k hk => by have h1 := HL6.out k hk; have h2 := HH6.out k hk; have h4 := HB3.out; have h5 := HQ3.out; have h6 := HX3.out; have h7 := HR3.out; have z4 := HZ4.out; have z5 := HZ5.out; have z6 := HZ6.out; simp only [World.size_alloc] at *; omega))
            clear B_15 Q_15 R_15 X_12 D_12 Z_6
            clear hg
            have S_12 := Shh.mk (HS0.out.below D_13.out)
            have M_0 := Shh.mk (OwnS.strs hm)
            clear hm
            have hnn : ¬ (((1 + os.length : Nat) : Int) < 0) := by omega
            have cell0 := Z_7.out.cells
            go_wp2_with fail
            refine (heldLexicon_any 1 os.length _ M_0.out (by omega) (by omega)).mono ?_
            rintro e w14 ⟨rfl, hb⟩
            clear cell0
            have B_17 := Shh.mk (B_16.out.trans (hb.mono B_16.out.size))
            have Q_17 := Shh.mk (Q_16.out.kept hb Q_16.out.lt)
            have R_17 := Shh.mk (R_16.out.kept hb R_16.out.lt)
            have X_14 := Shh.mk (X_13.out.kept hb X_13.out.lt)
            have D_14 := Shh.mk (D_13.out.trans (hb.mono D_13.out.size))
            have Z_8 := Shh.mk (Z_7.out.kept hb Z_7.out.lt)
            have S_13 := Shh.mk (S_12.out.below hb)
            have M_1 := Shh.mk (M_0.out.below hb)
            clear B_16 Q_16 R_16 X_13 D_13 Z_7 S_12 M_0
            clear hb
            have cell0 := Q_17.out.cells
            have cell1 := R_17.out.cells
            go_upto_region 31 with fail
            go_cut [15, 16] (fun sp sc wx => ∃ g a n c, sp = .pointer (some ⟨g, 0, none⟩) ∧ sc = .int .i64 cd ∧ Shh (Blk wx g 27 #[.slice a n c]) ∧ Shh (OwnS w14.heap.size wx (.slice a n c) os) ∧ Shh (Below w14.heap.size w14 wx) ∧ w14.heap.size ≤ g)
            case first =>
              have HK := Shh.mk (fun w' (hb : Below w14.heap.size w14 w') => twoLex Q_17.out R_17.out hb)
              have GA := Shh.mk (HU.out.below B_17.out)
              have GB := Shh.mk (HV.out.below B_17.out)
              go_region_held3 (fun w' => w'.cell? ⟨W.heap.size, 0, none⟩ = some (.slice aa us.length ac) ∧ w'.cell? ⟨W.heap.size + 1, 0, none⟩ = some (.slice ba vs.length bc))
                (exact HK.out _ (by first | assumption | exact (Below.refl _ _).drew | exact ((Below.refl _ _).alloc (Nat.le_refl _) _).drew | exact Below.alloc (by assumption) (Below.size (by assumption)) _ | exact Below.setCell (by assumption) (by first | exact Nat.le_refl _ | exact Below.size (by assumption)) _ | exact Below.setCell (Below.alloc (by assumption) (Below.size (by assumption)) _) (by first | exact Nat.le_refl _ | exact Below.size (by assumption)) _))
                (first
                  | (go_at_call 17; with_reducible refine (toL_on w14 _ (by first | assumption | exact (Below.refl _ _).drew | exact ((Below.refl _ _).alloc (Nat.le_refl _) _).drew | exact Below.alloc (by assumption) (Below.size (by assumption)) _) GA.out N1.out).mono ?_; rintro e ya ⟨aq, nq, rfl, hga, hba, hca⟩; (first | (have qa := made_kept (t := 27) (.inl rfl) hca; have cqa := qa.cells; have mqa := qa.marks) | (have qa := made_kept (t := 27) (.inr rfl) hca; have cqa := qa.cells; have mqa := qa.marks) | (have qa := Blk.kept (show Blk _ _ 27 #[.slice none 0 0] by assumption) hca (Blk.lt (by assumption)); have cqa := qa.cells; have mqa := qa.marks) | skip))
                  | (go_at_call 17; with_reducible refine (toL_on w14 _ (by first | assumption | exact (Below.refl _ _).drew | exact ((Below.refl _ _).alloc (Nat.le_refl _) _).drew | exact Below.alloc (by assumption) (Below.size (by assumption)) _) GB.out N2.out).mono ?_; rintro e yb ⟨ar, nr, rfl, hgb, hbb, hcb⟩; (first | (have qb := made_kept (t := 27) (.inl rfl) hcb; have cqb := qb.cells; have mqb := qb.marks) | (have qb := made_kept (t := 27) (.inr rfl) hcb; have cqb := qb.cells; have mqb := qb.marks) | (have qb := Blk.kept (show Blk _ _ 27 #[.slice none 0 0] by assumption) hcb (Blk.lt (by assumption)); have cqb := qb.cells; have mqb := qb.marks) | skip))
                  | (go_at_call 44; refine (implMerge_on HT.out w14 _ (by first | assumption | exact (Below.refl _ _).drew | exact ((Below.refl _ _).alloc (Nat.le_refl _) _).drew | exact Below.alloc (by assumption) (Below.size (by assumption)) _) (by first | exact hga | exact hga.alloc _ | exact hga.below hcb | exact (hga.below hcb).alloc _ | exact (hga.alloc _).below hcb) (by first | exact hgb | exact hgb.alloc _ | exact hgb.below hca | exact (hgb.below hca).alloc _ | exact (hgb.alloc _).below hca) hz hy).mono ?_; rintro e y3 ⟨a3, n3, c3, rfl, hs3, hb3, hc3⟩; (first | (have q3 := made_kept (t := 27) (.inl rfl) hc3; have cq3 := q3.cells; have mq3 := q3.marks) | (have q3 := made_kept (t := 27) (.inr rfl) hc3; have cq3 := q3.cells; have mq3 := q3.marks) | (have q3 := Blk.kept (show Blk _ _ 27 #[.slice none 0 0] by assumption) hc3 (Blk.lt (by assumption)); have cq3 := q3.cells; have mq3 := q3.marks) | skip)))
              all_goals
                go_wp2_with fail
                go_meet
                first
                  | exact ⟨_, _, _, _, rfl, rfl, ⟨Blk.made _ _ _⟩, ⟨OwnS.lower (OwnS.kept hs3 ((Below.refl _ _).alloc (Nat.le_refl _) _)) (by first | exact Nat.le_refl _ | exact hbb.size | exact hba.size | exact Nat.le_trans hbb.size (by simp) | exact Nat.le_trans hba.size (by simp) | simp)⟩, ⟨Below.alloc (by assumption) (Below.size (by assumption)) _⟩, Below.size (by assumption)⟩
                  | exact ⟨_, _, _, _, rfl, rfl, ⟨q3.stored 0 _⟩, ⟨OwnS.lower (OwnS.off hs3 (by first | simp | exact Blk.lt (by assumption)) 0 _) (by first | exact Nat.le_refl _ | exact hbb.size | exact hba.size | exact Nat.le_trans hbb.size (by simp) | exact Nat.le_trans hba.size (by simp) | simp)⟩, ⟨Below.setCell (by assumption) (by first | exact Nat.le_refl _ | exact Below.size (by assumption)) _⟩, by first | exact Nat.le_refl _ | exact Below.size (by assumption)⟩
            case rest =>
              obtain ⟨g15, a15, n15, c15, rfl, rfl, blk, own, bel, hge15⟩ := hcut
              clear cell0 cell1
              have B_18 := Shh.mk (B_17.out.trans (bel.out.mono B_17.out.size))
              have Q_18 := Shh.mk (Q_17.out.kept bel.out Q_17.out.lt)
              have R_18 := Shh.mk (R_17.out.kept bel.out R_17.out.lt)
              have X_15 := Shh.mk (X_14.out.kept bel.out X_14.out.lt)
              have D_15 := Shh.mk (D_14.out.trans (bel.out.mono D_14.out.size))
              have Z_9 := Shh.mk (Z_8.out.kept bel.out Z_8.out.lt)
              have S_14 := Shh.mk (S_13.out.below bel.out)
              have M_2 := Shh.mk (M_1.out.below bel.out)
              clear B_17 Q_17 R_17 X_14 D_14 Z_8 S_13 M_1
              have O_8 := Shh.mk (own.out)
              have U_0 := Shh.mk (blk.out)
              clear blk own bel
              have cell0 := U_0.out.cells
              have cell1 := X_15.out.cells
              go_wp2_with fail
              refine (eqLexicon_same os _ (OwnS.strs O_8.out) S_14.out).mono ?_
              rintro e w16 ⟨rfl, hb⟩
              clear cell0 cell1
              have B_19 := Shh.mk (B_18.out.trans (hb.mono B_18.out.size))
              have Q_19 := Shh.mk (Q_18.out.kept hb Q_18.out.lt)
              have R_19 := Shh.mk (R_18.out.kept hb R_18.out.lt)
              have X_16 := Shh.mk (X_15.out.kept hb X_15.out.lt)
              have D_16 := Shh.mk (D_15.out.trans (hb.mono D_15.out.size))
              have Z_10 := Shh.mk (Z_9.out.kept hb Z_9.out.lt)
              have S_15 := Shh.mk (S_14.out.below hb)
              have M_3 := Shh.mk (M_2.out.below hb)
              have O_9 := Shh.mk (OwnS.kept O_8.out hb)
              have U_1 := Shh.mk (U_0.out.kept hb U_0.out.lt)
              clear B_18 Q_18 R_18 X_15 D_15 Z_9 S_14 M_2 O_8 U_0
              clear hb
              have cell0 := Z_10.out.cells
              go_wp2_with fail
              refine (heldLexicon_any 1 os.length _ M_3.out (by omega) (by omega)).mono ?_
              rintro e w17 ⟨rfl, hb⟩
              clear cell0
              have B_20 := Shh.mk (B_19.out.trans (hb.mono B_19.out.size))
              have Q_20 := Shh.mk (Q_19.out.kept hb Q_19.out.lt)
              have R_20 := Shh.mk (R_19.out.kept hb R_19.out.lt)
              have X_17 := Shh.mk (X_16.out.kept hb X_16.out.lt)
              have D_17 := Shh.mk (D_16.out.trans (hb.mono D_16.out.size))
              have Z_11 := Shh.mk (Z_10.out.kept hb Z_10.out.lt)
              have S_16 := Shh.mk (S_15.out.below hb)
              have M_4 := Shh.mk (M_3.out.below hb)
              have O_10 := Shh.mk (OwnS.kept O_9.out hb)
              have U_2 := Shh.mk (U_1.out.kept hb U_1.out.lt)
              clear B_19 Q_19 R_19 X_16 D_16 Z_10 S_15 M_3 O_9 U_1
              clear hb
              go_wp2
              go_ret
              exact ⟨rfl, B_20.out⟩

set_option maxRecDepth 100000 in
theorem FnExactMergeLexicons_lifted (os : Os) (started : os.Started) (H : Type) (enc : TypeId × Value → H) :
    ReturnsInHanded {} Try.checked os 12 .any (Rows.fnExactMergeLexiconsSpec.pre6 enc Try.prog Try.f12 Rows.fnExactMergeLexiconsRow.domain false) (Rows.fnExactMergeLexiconsSpec.post enc Try.prog Try.f12 false true false false) := by
  refine returnsInHanded_of_change (C := Try.checked) prog_own started (by kernel_rfl) Try.func12
    (ChangeSpec.witness6 (enc := enc) (C := Try.checked) false ⟨#[], #[.agg #[.slice none 0 0], .agg #[.slice none 0 0]], []⟩ 8 (by kernel_rfl) (by kernel_rfl) (by kernel_rfl) (by kernel_rfl)) ?_
  intro W base args ds gs before hval0 hW hcnd _
  have hval : ∀ (j : Nat) t v, Try.f12.params[j]? = some t → args[j]? = some v → Value.okWide Try.prog W .any base t v := hval0
  have hW' := hW
  obtain ⟨p, q, hA0, hV, rfl, hfz, hnd⟩ := hW
  have hA : DataW.TrodAll enc Try.prog W 0 (fun _ => true) true Try.f12.params.toList args.toList ds p := hA0
  rw [Try.params12] at hA hval
  obtain ⟨v0, vs0, d0, ds0, p0, q0, hargs, rfl, rfl, h0, r0⟩ := trodAll_cons hA
  obtain ⟨v1, vs1, d1, ds1, p1, q1, rfl, rfl, rfl, h1, r1⟩ := trodAll_cons r0
  obtain ⟨rfl, rfl, rfl⟩ := trodAll_nil r1
  obtain rfl : args = #[v0, v1] := by cases args; simp_all
  obtain ⟨rfl, rfl⟩ := trodVars_none hV
  have k0 := h0
  have lt0 : ∀ x ∈ p0, x.block < W.heap.size := by obtain ⟨m, hm⟩ := k0; exact DataW.trod_lt m _ _ _ hm
  obtain ⟨c00, y00, n0, rfl, rfl, rfl, f00⟩ := open_agg1 Try.underlying24 (by kernel_rfl) (by kernel_rfl) (hval 0 24 v0 rfl rfl) h0
  obtain ⟨ss0, hs0, zs0⟩ := strs_cell Try.underlying22 Try.underlying9 (by kernel_rfl) f00
  have k1 := h1
  have lt1 : ∀ x ∈ p1, x.block < W.heap.size := by obtain ⟨m, hm⟩ := k1; exact DataW.trod_lt m _ _ _ hm
  obtain ⟨c10, y10, n1, rfl, rfl, rfl, f10⟩ := open_agg1 Try.underlying24 (by kernel_rfl) (by kernel_rfl) (hval 1 24 v1 rfl rfl) h1
  obtain ⟨ss1, hs1, zs1⟩ := strs_cell Try.underlying22 Try.underlying9 (by kernel_rfl) f10
  clear hA0 hval0
  refine (FnExactMergeLexicons_walk W ss0 _ hs0 zs0 ss1 _ hs1 zs1).mono fun e W' ⟨he, bel⟩ => ?_
  subst he
  exact ⟨_, rfl, _, _, _, [], _, [], hW', trodAll_mk1 (shut_bool Try.underlying4 _), (trodAll_cons_mk (Below.trod prog_laid (by kernel_rfl) (of_decide_eq_true (by kernel_rfl)) k0 bel lt0) (trodAll_cons_mk (Below.trod prog_laid (by kernel_rfl) (of_decide_eq_true (by kernel_rfl)) k1 bel lt1) trodAll_mk0)), rfl, bel.frame _, fun h => by cases h⟩

theorem FnExactMergeLexicons_holds : Rows.FnExactMergeLexiconsSaid :=
  OpenClaim.holds_of_wide 12 Try.f12 rfl rfl rfl rfl rfl rfl rfl ⟨rfl, rfl, rfl, rfl, rfl⟩ rfl rfl rfl rfl rfl (by kernel_rfl) Try.func12 (by kernel_rfl)
    (of_decide_eq_true (by kernel_rfl)) (by unfold Func.isWrapper; rw [if_neg (of_decide_eq_false (by kernel_rfl))]; exact ⟨rfl, rfl⟩)
    (fun os started H enc _ => FnExactMergeLexicons_lifted os started H enc)
#print axioms FnExactMergeLexicons_holds
end Go.Proofs.Ytomofgebobabnaa
