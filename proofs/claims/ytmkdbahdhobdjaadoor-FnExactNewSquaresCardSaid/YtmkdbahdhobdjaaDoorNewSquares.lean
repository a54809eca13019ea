/-
  At every board and play the program's NewSquares answers as the model does, and leaves its arguments as they were.
-/
import Derived.Test.YtmkdbahdhobdjaaDoorNM
import Derived.Test.YtmkdbahdhobdjaaDoorK5
import Derived.Test.YtmkdbahdhobdjaaDoorWU
import Derived.Test.YtmkdbahdhobdjaaDoorPL
import Derived.Lay
import Derived.Deep.RegionWith
import Derived.Deep.RegionHeld3
namespace Go.Proofs.YtmkdbahdhobdjaaDoor
open Go.ChangeShapes Go.WideShapes Go.ChangeAt Go.RowKit Go.Joins Go.Deep
open Go.ChangeMaps (open_string shut_string)

set_option maxRecDepth 100000 in
set_option maxHeartbeats 4000000 in
theorem FnExactNewSquares_walk (w : World) (hT : Tabs w) (n : Int) (p c : ByteArray) (_hn : (Lit.int .i64 n).wf = true) (hp : p.size ≤ maxLen) (hc : c.size ≤ maxLen)
    (r k : Int) (d : Bool) (s : ByteArray) (_hr : (Lit.int .i64 r).wf = true) (_hk : (Lit.int .i64 k).wf = true) (hs : s.size ≤ maxLen) :
    Calls Tryd.prog 8 #[.agg #[.int .i64 n, .string p, .string c], .agg #[.int .i64 r, .int .i64 k, .bool d, .string s]] w fun e w' => e = .returned (.bool true) ∧ Below w.heap.size w w' := by
  have HT := ShO.mk hT
  have hB0 : Below w.heap.size w ((w.alloc (.cells #[.int .i64 n, .string p, .string c] 23)).alloc (.cells #[.int .i64 r, .int .i64 k, .bool d, .string s] 41)) := ((Below.refl _ _).alloc (Nat.le_refl _) _).alloc (by simp) _
  have HB0 := ShO.mk hB0
  clear hT
  by_cases hsz : (1048576 : Int) < ((p.size + c.size : Nat) : Int)
  · go_enter Tryd.func8, Tryd.ntmps8
    go_wp2_with fail
    refine (szBoard_big (left := 1048576) n p c _ hp hc (by omega) (by omega) hsz).mono ?_
    rintro e w1 ⟨rfl, hb1⟩
    go_wp2
    go_ret
    exact ⟨rfl, HB0.out.trans (hb1.mono HB0.out.size)⟩
  obtain ⟨R, hR⟩ : ∃ R : Int, (1048576 : Int) - p.size - c.size = R := ⟨_, rfl⟩
  have hge : ¬ R < 0 := by omega
  have HR := ShO.mk hR
  have HG := ShO.mk ((Blk.made w 23 #[.int .i64 n, .string p, .string c]).alloc (.cells #[.int .i64 r, .int .i64 k, .bool d, .string s] 41))
  have hq1 := Blk.made (w.alloc (.cells #[.int .i64 n, .string p, .string c] 23)) 41 #[.int .i64 r, .int .i64 k, .bool d, .string s]
  simp only [World.size_alloc] at hq1
  have HQ := ShO.mk hq1
  have HF := ShO.mk hsz
  clear hq1 hB0
  by_cases hsp : R < (s.size : Int)
  · have HP := ShO.mk (show 0 ≤ R ∧ R ≤ 1048576 by omega)
    clear hR hsz
    go_enter Tryd.func8, Tryd.ntmps8
    go_wp2_with fail
    refine (szBoard_fits (left := 1048576) n p c _ (by omega) (by omega) (by have := HF.out; omega)).mono ?_
    rw [HR.out]
    rintro e w1 ⟨rfl, hb1⟩
    have B1 := ShO.mk (HB0.out.trans (hb1.mono HB0.out.size))
    have Q1 := ShO.mk (HQ.out.kept hb1 HQ.out.lt)
    have c1 := Q1.out.cells
    clear hb1
    go_wp2_with fail
    refine (szPlay_big (left := R) r k d s _ hs HP.out.2 HP.out.1 hsp).mono ?_
    rintro e w2 ⟨rfl, hb2⟩
    go_wp2
    go_ret
    exact ⟨rfl, B1.out.trans (hb2.mono B1.out.size)⟩
  obtain ⟨Q, hQ⟩ : ∃ Q : Int, R - s.size = Q := ⟨_, rfl⟩
  have hgq : ¬ Q < 0 := by omega
  have HQL := ShO.mk hQ
  have HP := ShO.mk (show 0 ≤ R ∧ R ≤ 1048576 ∧ s.size ≤ 1048576 ∧ ¬ R < (s.size : Int) by omega)
  obtain ⟨o, ho⟩ : ∃ o, newOut n p c r k d s = o := ⟨_, rfl⟩
  have HO := ShO.mk ho
  clear ho
  have HL := ShO.mk (show o.1.length ≤ 1000 by rw [← HO.out]; exact newOut_len _ _ _ _ _ _ _)
  have HS := ShO.mk (show ∀ W, Calls Tryd.prog 31 #[.agg #[.int .i64 n, .string p, .string c], .agg #[.int .i64 r, .int .i64 k, .bool d, .string s]] W (fun e w' => ∃ v, e = .returned (.tuple #[v, .int .i64 o.2]) ∧ OwnQ W.heap.size w' v o.1 ∧ Below W.heap.size W w') from by rw [← HO.out]; exact fun W => specNewSquares_any n p c s r k d W HP.out.2.2.1)
  have HI := ShO.mk (show ∀ W, Tabs W → Calls Tryd.prog 32 #[.agg #[.int .i64 n, .string p, .string c], .agg #[.int .i64 r, .int .i64 k, .bool d, .string s]] W (fun e w' => ∃ v, e = .returned (.tuple #[v, .int .i64 o.2]) ∧ OwnQ W.heap.size w' v o.1 ∧ Below W.heap.size W w') from by rw [← HO.out]; exact fun W hT => implNewSquares_any n p c s r k d W HP.out.2.2.1 hT)
  clear hR hsz hsp hQ
  go_enter Tryd.func8, Tryd.ntmps8
  go_wp2_with fail
  refine (szBoard_fits (left := 1048576) n p c _ (by omega) (by omega) (by have := HF.out; omega)).mono ?_
  rw [HR.out]
  rintro e w1 ⟨rfl, hb1⟩
  have B1 := ShO.mk (HB0.out.trans (hb1.mono HB0.out.size))
  have G1 := ShO.mk (HG.out.kept hb1 HG.out.lt)
  have Q1 := ShO.mk (HQ.out.kept hb1 HQ.out.lt)
  have c1 := G1.out.cells
  have d1 := Q1.out.cells
  clear hb1
  go_wp2_with fail
  refine (szPlay_fits (left := R) r k d s _ HP.out.2.1 HP.out.1 (by have := HP.out.2.2.2; omega)).mono ?_
  rw [HQL.out]
  rintro e w2 ⟨rfl, hb2⟩
  have B2 := ShO.mk (B1.out.trans (hb2.mono B1.out.size))
  have G2 := ShO.mk (G1.out.kept hb2 G1.out.lt)
  have Q2 := ShO.mk (Q1.out.kept hb2 Q1.out.lt)
  clear hb2 c1 d1
  have c2 := G2.out.cells
  have d2 := Q2.out.cells
  go_wp2
  have HK := ShO.mk (fun w' (hb : Below w2.heap.size w2 w') => boPl G2.out Q2.out hb)
  unfold BoPl at HK
  go_region_held3 (fun w' => (w'.cell? ⟨w.heap.size, 0, none⟩ = some (.int .i64 n) ∧ w'.cell? ⟨w.heap.size, 1, none⟩ = some (.string p) ∧ w'.cell? ⟨w.heap.size, 2, none⟩ = some (.string c)) ∧
      (w'.cell? ⟨w.heap.size + 1, 0, none⟩ = some (.int .i64 r) ∧ w'.cell? ⟨w.heap.size + 1, 1, none⟩ = some (.int .i64 k) ∧ w'.cell? ⟨w.heap.size + 1, 2, none⟩ = some (.bool d) ∧ w'.cell? ⟨w.heap.size + 1, 3, none⟩ = some (.string s)))
    (with_reducible exact HK.out _ (by first | assumption | exact (Below.refl _ _).drew))
    (first
      | (go_at_call 15; with_reducible refine (toBoard_on n p c w2 _ (by first | assumption | exact (Below.refl _ _).drew)).mono ?_; rintro e w3 ⟨rfl, hb3⟩)
      | (go_at_call 29; with_reducible refine (toPlay_on r k d s w2 _ (by assumption)).mono ?_; rintro e w4 ⟨rfl, hb4⟩)
      | (go_at_call 31; refine (callsQ (w0 := w2) (by assumption) (HS.out _)).mono ?_; rintro e w5 ⟨v5, rfl, ho5, hb5⟩))
  all_goals
    have B5 := ShO.mk (B2.out.trans (hb5.mono B2.out.size))
    have G5 := ShO.mk (G2.out.kept hb5 G2.out.lt)
    have Q5 := ShO.mk (Q2.out.kept hb5 Q2.out.lt)
    have O5 := ShO.mk ho5
    obtain ⟨a5, k5, rfl, -⟩ := ho5.form
    clear HK c2 d2 hb5 ho5
    have c5 := G5.out.cells
    have d5 := Q5.out.cells
    go_wp2
    have HK := ShO.mk (fun w' (hb : Below w5.heap.size w5 w') => boPl G5.out Q5.out hb)
    unfold BoPl at HK
    go_region_held3 (fun w' => (w'.cell? ⟨w.heap.size, 0, none⟩ = some (.int .i64 n) ∧ w'.cell? ⟨w.heap.size, 1, none⟩ = some (.string p) ∧ w'.cell? ⟨w.heap.size, 2, none⟩ = some (.string c)) ∧
        (w'.cell? ⟨w.heap.size + 1, 0, none⟩ = some (.int .i64 r) ∧ w'.cell? ⟨w.heap.size + 1, 1, none⟩ = some (.int .i64 k) ∧ w'.cell? ⟨w.heap.size + 1, 2, none⟩ = some (.bool d) ∧ w'.cell? ⟨w.heap.size + 1, 3, none⟩ = some (.string s)))
      (with_reducible exact HK.out _ (by first | assumption | exact (Below.refl _ _).drew))
      (first
        | (go_at_call 15; with_reducible refine (toBoard_on n p c w5 _ (by first | assumption | exact (Below.refl _ _).drew)).mono ?_; rintro e w3 ⟨rfl, hb3⟩)
        | (go_at_call 29; with_reducible refine (toPlay_on r k d s w5 _ (by assumption)).mono ?_; rintro e w4 ⟨rfl, hb4⟩)
        | (go_at_call 32; refine (callsQ (w0 := w5) (by assumption) (HI.out _ (HT.out.on (B5.out.trans (by refine Below.mono ?_ B5.out.size; assumption))))).mono ?_; rintro e w8 ⟨v8, rfl, ho8, hb8⟩))
    all_goals
      have B8 := ShO.mk (B5.out.trans (hb8.mono B5.out.size))
      have G8 := ShO.mk (G5.out.kept hb8 G5.out.lt)
      have Q8 := ShO.mk (Q5.out.kept hb8 Q5.out.lt)
      have O8 := ShO.mk (O5.out.kept hb8)
      have N8 := ShO.mk ho8
      have Z5 := ShO.mk hb8.size
      obtain ⟨a8, k8, rfl, -⟩ := ho8.form
      clear HK c5 d5 hb8 ho8
      have hcc : (o.2 != o.2) = false := by simp
      go_wp2_with fail
      refine (eqSquareS_same _ N8.out O8.out HL.out).mono ?_
      rintro e w9 ⟨rfl, hb9⟩
      have B9 := ShO.mk (B8.out.trans (hb9.mono B8.out.size))
      have G9 := ShO.mk (G8.out.kept hb9 G8.out.lt)
      have Q9 := ShO.mk (Q8.out.kept hb9 Q8.out.lt)
      have O9 := ShO.mk (O8.out.kept hb9)
      have N9 := ShO.mk (N8.out.kept hb9)
      have Z9 := ShO.mk (Nat.le_trans Z5.out hb9.size)
      have OL := ShO.mk (fun g hg => (ownQ_lt O5.out g hg).2)
      clear hb9
      obtain ⟨L, hL⟩ : ∃ L, o.1.length = L := ⟨_, rfl⟩
      rw [hL] at HL O9 N9 OL ⊢
      go_wp2_with fail
      refine (markSquareS_any (B := w5.heap.size) _ HL.out (fun h => N9.out.mark h)).mono ?_
      rintro e w10 ⟨rfl, hm, hb10⟩
      have B10 := ShO.mk (B9.out.trans (hb10.mono B5.out.size))
      have G10 := ShO.mk (G9.out.kept hb10 (Nat.lt_of_lt_of_le G5.out.lt (Nat.le_refl _)))
      have Q10 := ShO.mk (Q9.out.kept hb10 (Nat.lt_of_lt_of_le Q5.out.lt (Nat.le_refl _)))
      have O10 := ShO.mk (O9.out.keptN (fun g hg => hb10.block g (OL.out g hg)))
      have M10 := ShO.mk (show 0 < L → ∃ g, a8 = some ⟨g, 0, none⟩ ∧ MarkQ w10 g L L from fun h => by obtain ⟨g, e1, -, -, e2⟩ := hm h; exact ⟨g, e1, e2⟩)
      obtain ⟨M, hM⟩ : ∃ M, ((1 + L * 2 : Nat) : Int) = M := ⟨_, rfl⟩
      have hM0 : ¬ M < 0 := by omega
      have hMM : (M != M) = false := by simp
      have HMM := ShO.mk hM
      rw [hM]
      clear hm hb10 hM
      have HH := ShO.mk (fun w (hm : 0 < L → ∃ g, a8 = some ⟨g, 0, none⟩ ∧ MarkQ w g L L) => HMM.out ▸ heldSquareS_any (cap := k8) w HL.out hm)
      go_wp2_with fail
      refine (HH.out _ M10.out).mono ?_
      rintro e w11 ⟨rfl, rfl⟩
      have c10 := G10.out.cells
      have d10 := Q10.out.cells
      go_wp2
      have HK := ShO.mk (fun w' (hb : Below w10.heap.size w10 w') => boPl G10.out Q10.out hb)
      unfold BoPl at HK
      go_region_held3 (fun w' => (w'.cell? ⟨w.heap.size, 0, none⟩ = some (.int .i64 n) ∧ w'.cell? ⟨w.heap.size, 1, none⟩ = some (.string p) ∧ w'.cell? ⟨w.heap.size, 2, none⟩ = some (.string c)) ∧
          (w'.cell? ⟨w.heap.size + 1, 0, none⟩ = some (.int .i64 r) ∧ w'.cell? ⟨w.heap.size + 1, 1, none⟩ = some (.int .i64 k) ∧ w'.cell? ⟨w.heap.size + 1, 2, none⟩ = some (.bool d) ∧ w'.cell? ⟨w.heap.size + 1, 3, none⟩ = some (.string s)))
        (with_reducible exact HK.out _ (by first | assumption | exact (Below.refl _ _).drew))
        (first
          | (go_at_call 15; with_reducible refine (toBoard_on n p c w10 _ (by first | assumption | exact (Below.refl _ _).drew)).mono ?_; rintro e w3 ⟨rfl, hb3⟩)
          | (go_at_call 29; with_reducible refine (toPlay_on r k d s w10 _ (by assumption)).mono ?_; rintro e w4 ⟨rfl, hb4⟩)
          | (go_at_call 32; refine (callsQ (w0 := w10) (by assumption) (HI.out _ (HT.out.on (B10.out.trans (by refine Below.mono ?_ B10.out.size; assumption))))).mono ?_; rintro e w12 ⟨v12, rfl, ho12, hb12⟩))
      all_goals
        have B12 := ShO.mk (B10.out.trans (hb12.mono B10.out.size))
        have O12 := ShO.mk (O10.out.kept hb12)
        have N12 := ShO.mk ho12
        have M12 := ShO.mk (show 0 < L → ∃ g, a8 = some ⟨g, 0, none⟩ ∧ MarkQ w12 g L L from fun h => by obtain ⟨g, e1, e2⟩ := M10.out h; exact ⟨g, e1, e2.kept hb12⟩)
        obtain ⟨a12, k12, rfl, -⟩ := ho12.form
        clear HK c10 d10 hb12 ho12
        rw [hL] at N12 ⊢
        go_wp2_with fail
        refine (eqSquareS_same _ N12.out O12.out (by rw [hL]; exact HL.out)).mono ?_
        rintro e w13 ⟨rfl, hb13⟩
        have B13 := ShO.mk (B12.out.trans (hb13.mono B12.out.size))
        have M13 := ShO.mk (show 0 < L → ∃ g, a8 = some ⟨g, 0, none⟩ ∧ MarkQ w13 g L L from fun h => by obtain ⟨g, e1, e2⟩ := M12.out h; exact ⟨g, e1, e2.kept hb13⟩)
        clear hb13
        go_wp2_with fail
        refine (HH.out _ M13.out).mono ?_
        rintro e w14 ⟨rfl, rfl⟩
        go_wp2
        go_ret
        exact ⟨rfl, B13.out⟩
theorem FnExactNewSquares_tabU {W : World} (h : laidMetH Tryd.prog Rows.fnExactNewSquaresRow.laid W) : Tabs W := by
  have h' : laidMet Tryd.prog Rows.fnExactNewSquaresRow.laid W := h
  first
    | exact utf8Tabs_of_reads (ρ := Tryd.lays260_ren) Tryd.lays260 ⟨by kernel_rfl, by kernel_rfl, by kernel_rfl, by kernel_rfl, by kernel_rfl, by kernel_rfl, by kernel_rfl⟩ (tw_first ▸ Lib.laidMet.reads h' (.head _)) (tw_accept ▸ Lib.laidMet.reads h' (.tail _ (.head _)))
    | exact utf8Tabs_of_reads (ρ := Tryd.lays260_ren) Tryd.lays260 ⟨by kernel_rfl, by kernel_rfl, by kernel_rfl, by kernel_rfl, by kernel_rfl, by kernel_rfl, by kernel_rfl⟩ (tw_first ▸ Lib.laidMet.reads h' (.head _)) (tw_accept ▸ Lib.laidMet.reads h' (.tail _ (.tail _ (.head _))))
    | exact utf8Tabs_of_reads (ρ := Tryd.lays260_ren) Tryd.lays260 ⟨by kernel_rfl, by kernel_rfl, by kernel_rfl, by kernel_rfl, by kernel_rfl, by kernel_rfl, by kernel_rfl⟩ (tw_first ▸ Lib.laidMet.reads h' (.head _)) (tw_accept ▸ Lib.laidMet.reads h' (.tail _ (.tail _ (.tail _ (.head _)))))
    | exact utf8Tabs_of_reads (ρ := Tryd.lays260_ren) Tryd.lays260 ⟨by kernel_rfl, by kernel_rfl, by kernel_rfl, by kernel_rfl, by kernel_rfl, by kernel_rfl, by kernel_rfl⟩ (tw_first ▸ Lib.laidMet.reads h' (.tail _ (.head _))) (tw_accept ▸ Lib.laidMet.reads h' (.head _))
    | exact utf8Tabs_of_reads (ρ := Tryd.lays260_ren) Tryd.lays260 ⟨by kernel_rfl, by kernel_rfl, by kernel_rfl, by kernel_rfl, by kernel_rfl, by kernel_rfl, by kernel_rfl⟩ (tw_first ▸ Lib.laidMet.reads h' (.tail _ (.head _))) (tw_accept ▸ Lib.laidMet.reads h' (.tail _ (.tail _ (.head _))))
    | exact utf8Tabs_of_reads (ρ := Tryd.lays260_ren) Tryd.lays260 ⟨by kernel_rfl, by kernel_rfl, by kernel_rfl, by kernel_rfl, by kernel_rfl, by kernel_rfl, by kernel_rfl⟩ (tw_first ▸ Lib.laidMet.reads h' (.tail _ (.head _))) (tw_accept ▸ Lib.laidMet.reads h' (.tail _ (.tail _ (.tail _ (.head _)))))
    | exact utf8Tabs_of_reads (ρ := Tryd.lays260_ren) Tryd.lays260 ⟨by kernel_rfl, by kernel_rfl, by kernel_rfl, by kernel_rfl, by kernel_rfl, by kernel_rfl, by kernel_rfl⟩ (tw_first ▸ Lib.laidMet.reads h' (.tail _ (.tail _ (.head _)))) (tw_accept ▸ Lib.laidMet.reads h' (.head _))
    | exact utf8Tabs_of_reads (ρ := Tryd.lays260_ren) Tryd.lays260 ⟨by kernel_rfl, by kernel_rfl, by kernel_rfl, by kernel_rfl, by kernel_rfl, by kernel_rfl, by kernel_rfl⟩ (tw_first ▸ Lib.laidMet.reads h' (.tail _ (.tail _ (.head _)))) (tw_accept ▸ Lib.laidMet.reads h' (.tail _ (.head _)))
    | exact utf8Tabs_of_reads (ρ := Tryd.lays260_ren) Tryd.lays260 ⟨by kernel_rfl, by kernel_rfl, by kernel_rfl, by kernel_rfl, by kernel_rfl, by kernel_rfl, by kernel_rfl⟩ (tw_first ▸ Lib.laidMet.reads h' (.tail _ (.tail _ (.head _)))) (tw_accept ▸ Lib.laidMet.reads h' (.tail _ (.tail _ (.tail _ (.head _)))))
    | exact utf8Tabs_of_reads (ρ := Tryd.lays260_ren) Tryd.lays260 ⟨by kernel_rfl, by kernel_rfl, by kernel_rfl, by kernel_rfl, by kernel_rfl, by kernel_rfl, by kernel_rfl⟩ (tw_first ▸ Lib.laidMet.reads h' (.tail _ (.tail _ (.tail _ (.head _))))) (tw_accept ▸ Lib.laidMet.reads h' (.head _))
    | exact utf8Tabs_of_reads (ρ := Tryd.lays260_ren) Tryd.lays260 ⟨by kernel_rfl, by kernel_rfl, by kernel_rfl, by kernel_rfl, by kernel_rfl, by kernel_rfl, by kernel_rfl⟩ (tw_first ▸ Lib.laidMet.reads h' (.tail _ (.tail _ (.tail _ (.head _))))) (tw_accept ▸ Lib.laidMet.reads h' (.tail _ (.head _)))
    | exact utf8Tabs_of_reads (ρ := Tryd.lays260_ren) Tryd.lays260 ⟨by kernel_rfl, by kernel_rfl, by kernel_rfl, by kernel_rfl, by kernel_rfl, by kernel_rfl, by kernel_rfl⟩ (tw_first ▸ Lib.laidMet.reads h' (.tail _ (.tail _ (.tail _ (.head _))))) (tw_accept ▸ Lib.laidMet.reads h' (.tail _ (.tail _ (.head _))))
set_option maxRecDepth 100000 in
theorem FnExactNewSquares_contract (H : Type) (enc : TypeId × Value → H) (W : World) (base : Nat) (args : Array Value) (ds gs : List (DataW H)) (before : List MemPlace)
    (hval : ∀ (j : Nat) t v, Tryd.f8.params[j]? = some t → args[j]? = some v → Value.okWide Tryd.prog W .any base t v)
    (hW : DataW.Whole enc Tryd.prog Tryd.f8.params.toList Rows.fnExactNewSquaresSpec.vars false W args.toList ds gs before) (hL : laidMetH Tryd.prog Rows.fnExactNewSquaresRow.laid W) :
    Calls Tryd.prog 8 args W fun e W' => ∃ v, e = .returned v ∧ Rows.fnExactNewSquaresSpec.post enc Tryd.prog Tryd.f8 false true false false W args v W' := by
  have hW' := hW
  obtain ⟨p, q, hA0, hV, rfl, hfz, hnd⟩ := hW
  have hA : DataW.TrodAll enc Tryd.prog W 0 (fun _ => true) true Tryd.f8.params.toList args.toList ds p := hA0
  rw [Tryd.params8] at hA hval
  obtain ⟨v0, vs0, d0, ds0, p0, q0, hargs, rfl, rfl, h0, r0⟩ := trodAll_cons hA
  obtain ⟨v1, vs1, d1, ds1, p1, q1, rfl, rfl, rfl, h1, r1⟩ := trodAll_cons r0
  obtain ⟨rfl, rfl, rfl⟩ := trodAll_nil r1
  obtain rfl : args = #[v0, v1] := by cases args; simp_all
  obtain ⟨rfl, rfl⟩ := trodVars_none hV
  have k0 := h0
  have lt0 : ∀ x ∈ p0, x.block < W.heap.size := by obtain ⟨m, hm⟩ := k0; exact DataW.trod_lt m _ _ _ hm
  obtain ⟨c00, c01, c02, y00, y01, y02, n0, rfl, rfl, rfl, f00, f01, f02⟩ := open_agg3 Tryd.underlying23 (by kernel_rfl) (by kernel_rfl) (hval 0 23 v0 rfl rfl) h0
  obtain ⟨b0, rfl, _, wb0⟩ := int_cell Tryd.underlying2 f00
  obtain ⟨P0, rfl, _, wP0⟩ := string_cell Tryd.underlying9 f01
  obtain ⟨L0, rfl, _, wL0⟩ := string_cell Tryd.underlying9 f02
  have k1 := h1
  have lt1 : ∀ x ∈ p1, x.block < W.heap.size := by obtain ⟨m, hm⟩ := k1; exact DataW.trod_lt m _ _ _ hm
  obtain ⟨c10, c11, c12, c13, y10, y11, y12, y13, n1, rfl, rfl, rfl, f10, f11, f12, f13⟩ := open_agg4 Tryd.underlying41 (by kernel_rfl) (by kernel_rfl) (hval 1 41 v1 rfl rfl) h1
  obtain ⟨r1_, rfl, _, wr1_⟩ := int_cell Tryd.underlying2 f10
  obtain ⟨k1_, rfl, _, wk1_⟩ := int_cell Tryd.underlying2 f11
  obtain ⟨d1_, rfl, _⟩ := bool_cell Tryd.underlying4 f12
  obtain ⟨s1_, rfl, _, ws1_⟩ := string_cell Tryd.underlying9 f13
  clear hA0
  refine (FnExactNewSquares_walk W (FnExactNewSquares_tabU hL) b0 P0 L0 wb0 wP0 wL0 r1_ k1_ d1_ s1_ wr1_ wk1_ ws1_).mono fun e W' ⟨he, bel⟩ => ?_
  subst he
  exact ⟨_, rfl, _, _, _, [], _, _, hW', trodAll_mk1 (shut_bool Tryd.underlying4 _), (trodAll_cons_mk (Below.trod prog_laid (by kernel_rfl) (of_decide_eq_true (by kernel_rfl)) k0 bel lt0) (trodAll_cons_mk (Below.trod prog_laid (by kernel_rfl) (of_decide_eq_true (by kernel_rfl)) k1 bel lt1) trodAll_mk0)), Below.trodVars prog_laid bel (by kernel_rfl) hV, bel.frame _, fun h => by cases h⟩
noncomputable def FnExactNewSquares_world (os : Os) : World := World.laidAll Tryd.prog os Rows.fnExactNewSquaresRow.laid
theorem FnExactNewSquares_met (os : Os) : laidMet Tryd.prog Rows.fnExactNewSquaresRow.laid ((FnExactNewSquares_world os).forCall (fun _ _ => 0) ⟨#[], #[(.agg #[.int .i64 0, .string ByteArray.empty, .string ByteArray.empty] : Value), (.agg #[.int .i64 0, .int .i64 0, .bool false, .string ByteArray.empty] : Value)], []⟩).memory :=
  laidMet_laidAll _ (by kernel_rfl) (by kernel_rfl)
theorem FnExactNewSquares_reads (os : Os) {H : Type} (enc : TypeId × Value → H) : ∃ places, DataW.whole enc Tryd.prog ((FnExactNewSquares_world os).forCall (fun _ _ => 0) ⟨#[], #[(.agg #[.int .i64 0, .string ByteArray.empty, .string ByteArray.empty] : Value), (.agg #[.int .i64 0, .int .i64 0, .bool false, .string ByteArray.empty] : Value)], []⟩).memory Tryd.f8.params.toList Rows.fnExactNewSquaresSpec.vars false (#[(.agg #[.int .i64 0, .string ByteArray.empty, .string ByteArray.empty] : Value), (.agg #[.int .i64 0, .int .i64 0, .bool false, .string ByteArray.empty] : Value)]).toList 8 = some ([.agg [.lit (.int .i64 0), .lit (.string []), .lit (.string [])], .agg [.lit (.int .i64 0), .lit (.int .i64 0), .lit (.bool false), .lit (.string [])]], [], places) :=
  ⟨[], by kernel_rfl⟩
set_option maxRecDepth 100000 in
theorem FnExactNewSquares_lifted (os : Os) (started : os.Started) (H : Type) (enc : TypeId × Value → H) (F : Stop.Interp) :
    ReturnsInHanded {} Tryd.checked os 8 .any ((OpenSpec.ofChange Rows.fnExactNewSquaresSpec).preRow enc Tryd.prog Tryd.f8 Rows.fnExactNewSquaresRow.domain false Rows.fnExactNewSquaresRow.laid) (((OpenSpec.ofChange Rows.fnExactNewSquaresSpec).at F).post enc Tryd.prog Tryd.f8 false true false false) := by
  obtain ⟨places, hx⟩ := FnExactNewSquares_reads os enc
  refine returnsInHanded_of_row (C := Tryd.checked) (s := OpenSpec.ofChange Rows.fnExactNewSquaresSpec) prog_own started (by kernel_rfl) Tryd.func8
    (witness_row_at (enc := enc) (C := Tryd.checked) false (FnExactNewSquares_world os) #[(.agg #[.int .i64 0, .string ByteArray.empty, .string ByteArray.empty] : Value), (.agg #[.int .i64 0, .int .i64 0, .bool false, .string ByteArray.empty] : Value)] (World.laidAll_os _ _ _) (by kernel_rfl) (by kernel_rfl) (by kernel_rfl)
      (OpenSpec.preRow_of_cond 8 hx (by kernel_rfl) (fun k hk => by cases hk) (by kernel_rfl) (FnExactNewSquares_met os))) ?_
  intro W base args ds gs before hval hW _ _ _ hL _ _
  exact FnExactNewSquares_contract H enc W base args ds gs before hval hW hL
set_option maxHeartbeats 8000000 in
theorem FnExactNewSquares_facts : joinedFacts Tryd.pinned.checked.prog 8 Tryd.f8 (OpenSpec.ofChange Rows.fnExactNewSquaresSpec).bare Rows.fnExactNewSquaresRow = true := by
  unfold joinedFacts
  rw [prog_enter, prog_lifts, prog_made]
  kernel_rfl
set_option maxHeartbeats 8000000 in
theorem FnExactNewSquares_goes : false = Rows.fnExactNewSquaresRow.goesBy Tryd.pinned.checked.prog := by kernel_rfl
theorem FnExactNewSquares_said : Rows.FnExactNewSquaresSaid :=
  OpenClaim.holds_of_cond 8 Tryd.f8 rfl rfl rfl rfl rfl rfl rfl ⟨rfl, rfl, rfl, rfl, rfl⟩ rfl rfl rfl rfl rfl (by kernel_rfl) Tryd.func8 FnExactNewSquares_facts
    (of_decide_eq_true (by kernel_rfl)) (by unfold Func.isWrapper; rw [if_neg (of_decide_eq_false (by kernel_rfl))]; exact ⟨rfl, rfl⟩)
    (fun os started H enc _ F => by rw [OpenClaim.pre_eq_preRow]; exact FnExactNewSquares_lifted os started H enc F)
theorem FnExactNewSquares_plain (f : FuncId) (fn : Func) (hf : Tryd.pinned.checked.prog.funcNamed "loop.example/g00911/laws.FnExactNewSquares" = some f) (hfn : Tryd.pinned.checked.prog.funcs[f]? = some fn) :
    true = Tryd.pinned.checked.prog.looks [] ∧ ∀ (j : Nat) t, fn.params[j]? = some t → Tryd.pinned.checked.prog.wantsStandIn t = false := by
  obtain rfl : f = 8 := Option.some.inj ((show Tryd.prog.funcNamed "loop.example/g00911/laws.FnExactNewSquares" = some 8 by kernel_rfl).symm.trans hf) |>.symm
  obtain rfl : fn = Tryd.f8 := (Option.some.inj (Tryd.func8.symm.trans hfn)).symm
  refine ⟨by kernel_rfl, fun j t ht => ?_⟩
  rw [Tryd.params8] at ht
  have hm := Array.mem_of_getElem? ht
  simp only [List.mem_toArray, List.mem_cons, List.not_mem_nil, or_false] at hm
  rcases hm with rfl | rfl
  · exact (show Tryd.prog.wantsStandIn 23 = false by kernel_rfl)
  · exact (show Tryd.prog.wantsStandIn 41 = false by kernel_rfl)
theorem FnExactNewSquares_card : Rows.FnExactNewSquaresCardSaid :=
  Claim7.holds_tied_plain_at .later [] _ _ _ _ FnExactNewSquares_said (fun _ h => by cases h) (by kernel_rfl) (fun _ h => by cases h) fnExactNewSquares_row_tie rfl ⟨rfl, rfl⟩ (prog_main.trans (by kernel_rfl)) rfl FnExactNewSquares_plain FnExactNewSquares_goes
end Go.Proofs.YtmkdbahdhobdjaaDoor
