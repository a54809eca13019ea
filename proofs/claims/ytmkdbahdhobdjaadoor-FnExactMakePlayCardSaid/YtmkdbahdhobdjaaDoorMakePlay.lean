/-
  At every board and play the program's MakePlay answers as the model does, and leaves its arguments as they were.
-/
import Derived.Test.YtmkdbahdhobdjaaDoorCU
import Derived.Test.YtmkdbahdhobdjaaDoorK5
import Derived.Test.YtmkdbahdhobdjaaDoorWU
import Derived.Test.YtmkdbahdhobdjaaDoorPL
import Derived.Lay
import Derived.Deep.RegionWith
import Derived.Deep.RegionHeld3
namespace Go.Proofs.YtmkdbahdhobdjaaDoor
open Go.ChangeShapes Go.WideShapes Go.ChangeAt Go.RowKit Go.Joins Go.Deep
open Go.ChangeMaps (open_string shut_string)

set_option maxRecDepth 100000 in
set_option maxHeartbeats 4000000 in
theorem FnExactMakePlay_walk (w : World) (hT : Tabs w) (n : Int) (p c : ByteArray) (_hn : (Lit.int .i64 n).wf = true) (hp : p.size ≤ maxLen) (hc : c.size ≤ maxLen)
    (r k : Int) (d : Bool) (s : ByteArray) (_hr : (Lit.int .i64 r).wf = true) (_hk : (Lit.int .i64 k).wf = true) (hs : s.size ≤ maxLen) :
    Calls Tryd.prog 12 #[.agg #[.int .i64 n, .string p, .string c], .agg #[.int .i64 r, .int .i64 k, .bool d, .string s]] w fun e w' => e = .returned (.bool true) ∧ Below w.heap.size w w' := by
  have HT := ShO.mk hT
  have hB0 : Below w.heap.size w ((w.alloc (.cells #[.int .i64 n, .string p, .string c] 23)).alloc (.cells #[.int .i64 r, .int .i64 k, .bool d, .string s] 41)) := ((Below.refl _ _).alloc (Nat.le_refl _) _).alloc (by simp) _
  have HB0 := ShO.mk hB0
  clear hT
  by_cases hsz : (1048576 : Int) < ((p.size + c.size : Nat) : Int)
  · go_enter Tryd.func12, Tryd.ntmps12
    go_wp2_with fail
    refine (szBoard_big (left := 1048576) n p c _ hp hc (by omega) (by omega) hsz).mono ?_
    rintro e w1 ⟨rfl, hb1⟩
    go_wp2
    go_ret
    exact ⟨rfl, HB0.out.trans (hb1.mono HB0.out.size)⟩
  obtain ⟨R, hR⟩ : ∃ R : Int, (1048576 : Int) - p.size - c.size = R := ⟨_, rfl⟩
  have hge : ¬ R < 0 := by omega
  have HR := ShO.mk hR
  have HG := ShO.mk ((Blk.made w 23 #[.int .i64 n, .string p, .string c]).alloc (.cells #[.int .i64 r, .int .i64 k, .bool d, .string s] 41))
  have hq1 := Blk.made (w.alloc (.cells #[.int .i64 n, .string p, .string c] 23)) 41 #[.int .i64 r, .int .i64 k, .bool d, .string s]
  simp only [World.size_alloc] at hq1
  have HQ := ShO.mk hq1
  have HF := ShO.mk hsz
  clear hq1 hB0
  by_cases hsp : R < (s.size : Int)
  · have HP := ShO.mk (show 0 ≤ R ∧ R ≤ 1048576 by omega)
    clear hR hsz
    go_enter Tryd.func12, Tryd.ntmps12
    go_wp2_with fail
    refine (szBoard_fits (left := 1048576) n p c _ (by omega) (by omega) (by have := HF.out; omega)).mono ?_
    rw [HR.out]
    rintro e w1 ⟨rfl, hb1⟩
    have B1 := ShO.mk (HB0.out.trans (hb1.mono HB0.out.size))
    have Q1 := ShO.mk (HQ.out.kept hb1 HQ.out.lt)
    have c1 := Q1.out.cells
    clear hb1
    go_wp2_with fail
    refine (szPlay_big (left := R) r k d s _ hs HP.out.2 HP.out.1 hsp).mono ?_
    rintro e w2 ⟨rfl, hb2⟩
    go_wp2
    go_ret
    exact ⟨rfl, B1.out.trans (hb2.mono B1.out.size)⟩
  obtain ⟨Q, hQ⟩ : ∃ Q : Int, R - s.size = Q := ⟨_, rfl⟩
  have hgq : ¬ Q < 0 := by omega
  have HQL := ShO.mk hQ
  have HP := ShO.mk (show 0 ≤ R ∧ R ≤ 1048576 ∧ s.size ≤ 1048576 ∧ ¬ R < (s.size : Int) by omega)
  obtain ⟨o, ho⟩ : ∃ o, makeOut n p c r k d s = o := ⟨_, rfl⟩
  have HO := ShO.mk ho
  clear ho
  have HS := ShO.mk (show ∀ W, Calls Tryd.prog 42 #[.agg #[.int .i64 n, .string p, .string c], .agg #[.int .i64 r, .int .i64 k, .bool d, .string s]] W (fun e w' => e = .returned (bdRes o) ∧ Below W.heap.size W w') from by rw [← HO.out]; exact fun W => specMakePlay_any n p c s r k d W HP.out.2.2.1)
  have HI := ShO.mk (show ∀ W, Tabs W → Calls Tryd.prog 43 #[.agg #[.int .i64 n, .string p, .string c], .agg #[.int .i64 r, .int .i64 k, .bool d, .string s]] W (fun e w' => e = .returned (bdRes o) ∧ Below W.heap.size W w') from by rw [← HO.out]; exact fun W hT => implMakePlay_any n p c s r k d W HP.out.2.2.1 hT)
  clear hR hsz hsp hQ
  go_enter Tryd.func12, Tryd.ntmps12
  go_wp2_with fail
  refine (szBoard_fits (left := 1048576) n p c _ (by omega) (by omega) (by have := HF.out; omega)).mono ?_
  rw [HR.out]
  rintro e w1 ⟨rfl, hb1⟩
  have B1 := ShO.mk (HB0.out.trans (hb1.mono HB0.out.size))
  have G1 := ShO.mk (HG.out.kept hb1 HG.out.lt)
  have Q1 := ShO.mk (HQ.out.kept hb1 HQ.out.lt)
  have c1 := G1.out.cells
  have d1 := Q1.out.cells
  clear hb1
  go_wp2_with fail
  refine (szPlay_fits (left := R) r k d s _ HP.out.2.1 HP.out.1 (by have := HP.out.2.2.2; omega)).mono ?_
  rw [HQL.out]
  rintro e w2 ⟨rfl, hb2⟩
  have B2 := ShO.mk (B1.out.trans (hb2.mono B1.out.size))
  have G2 := ShO.mk (G1.out.kept hb2 G1.out.lt)
  have Q2 := ShO.mk (Q1.out.kept hb2 Q1.out.lt)
  clear hb2 c1 d1
  have c2 := G2.out.cells
  have d2 := Q2.out.cells
  go_upto_region 8 with fail
  go_cut [6, 7] (fun sp sc wx => ∃ g, sp = .pointer (some ⟨g, 0, none⟩) ∧ sc = .int .i64 o.2 ∧ ShO (Blk wx g 27 #[.int .i64 o.1.1, .string o.1.2.1, .string o.1.2.2]) ∧ ShO (Below w2.heap.size w2 wx) ∧ w2.heap.size ≤ g)
  case first =>
    have HK := ShO.mk (fun w' (hb : Below w2.heap.size w2 w') => boPl G2.out Q2.out hb)
    unfold BoPl at HK
    go_region_held3 (fun w' => (w'.cell? ⟨w.heap.size, 0, none⟩ = some (.int .i64 n) ∧ w'.cell? ⟨w.heap.size, 1, none⟩ = some (.string p) ∧ w'.cell? ⟨w.heap.size, 2, none⟩ = some (.string c)) ∧
        (w'.cell? ⟨w.heap.size + 1, 0, none⟩ = some (.int .i64 r) ∧ w'.cell? ⟨w.heap.size + 1, 1, none⟩ = some (.int .i64 k) ∧ w'.cell? ⟨w.heap.size + 1, 2, none⟩ = some (.bool d) ∧ w'.cell? ⟨w.heap.size + 1, 3, none⟩ = some (.string s)))
      (with_reducible exact HK.out _ (by first | assumption | exact (Below.refl _ _).drew | exact ((Below.refl _ _).alloc (Nat.le_refl _) _).drew | exact Below.alloc (by assumption) (Below.size (by assumption)) _ | exact below_threeO (by assumption) (by first | exact Nat.le_refl _ | exact Below.size (by assumption)) _ _ _ | exact below_threeO (Below.alloc (by assumption) (Below.size (by assumption)) _) (by first | exact Nat.le_refl _ | exact Below.size (by assumption)) _ _ _))
      (first
        | (go_at_call 15; with_reducible refine (callsB2 (w0 := w2) (by first | assumption | exact (Below.refl _ _).drew | exact ((Below.refl _ _).alloc (Nat.le_refl _) _).drew | exact Below.alloc (by assumption) (Below.size (by assumption)) _) (toBoard_any n p c _)).mono ?_; rintro e ya ⟨rfl, hba, hca⟩; (first | (have Za := made_boardP (.inl rfl) hca; have za := Za.cells; have ma := Za.marks) | (have Za := made_boardP (.inr rfl) hca; have za := Za.cells; have ma := Za.marks) | (have Za := Blk.kept (show Blk _ _ 27 #[.int .i64 0, .string ⟨#[]⟩, .string ⟨#[]⟩] by assumption) hca (Blk.lt (by assumption)); have za := Za.cells; have ma := Za.marks) | skip))
        | (go_at_call 29; with_reducible refine (callsB2 (w0 := w2) (by first | assumption | exact (Below.refl _ _).drew | exact ((Below.refl _ _).alloc (Nat.le_refl _) _).drew | exact Below.alloc (by assumption) (Below.size (by assumption)) _) (toPlay_any r k d s _)).mono ?_; rintro e yb ⟨rfl, hbb, hcb⟩; (first | (have Zb := made_boardP (.inl rfl) hcb; have zb := Zb.cells; have mb := Zb.marks) | (have Zb := made_boardP (.inr rfl) hcb; have zb := Zb.cells; have mb := Zb.marks) | (have Zb := Blk.kept (show Blk _ _ 27 #[.int .i64 0, .string ⟨#[]⟩, .string ⟨#[]⟩] by assumption) hcb (Blk.lt (by assumption)); have zb := Zb.cells; have mb := Zb.marks) | skip))
        | (go_at_call 42; refine (callsB2 (w0 := w2) (by first | assumption | exact (Below.refl _ _).drew | exact ((Below.refl _ _).alloc (Nat.le_refl _) _).drew | exact Below.alloc (by assumption) (Below.size (by assumption)) _) (HS.out _)).mono ?_; rintro e y3 ⟨rfl, hb3, hc3⟩; (first | (have Z3 := made_boardP (.inl rfl) hc3; have z3 := Z3.cells; have m3 := Z3.marks) | (have Z3 := made_boardP (.inr rfl) hc3; have z3 := Z3.cells; have m3 := Z3.marks) | (have Z3 := Blk.kept (show Blk _ _ 27 #[.int .i64 0, .string ⟨#[]⟩, .string ⟨#[]⟩] by assumption) hc3 (Blk.lt (by assumption)); have z3 := Z3.cells; have m3 := Z3.marks) | skip)))
    all_goals
      go_wp2_with fail
      go_meet
      first
        | exact ⟨_, rfl, rfl, ⟨Blk.made _ _ _⟩, ⟨Below.alloc (by assumption) (Below.size (by assumption)) _⟩, Below.size (by assumption)⟩
        | exact ⟨_, rfl, rfl, ⟨Z3.threeP _ _ _⟩, ⟨below_threeO hb3 (by first | exact Nat.le_refl _ | exact Below.size (by assumption)) _ _ _⟩, by first | exact Nat.le_refl _ | exact Below.size (by assumption)⟩
  case rest =>
    obtain ⟨g5, rfl, rfl, blk, bel, hge5⟩ := hcut
    obtain ⟨w5, rfl⟩ : ∃ w5, w5 = wc := ⟨_, rfl⟩
    have B5 := ShO.mk (B2.out.trans (bel.out.mono B2.out.size))
    have G5 := ShO.mk (G2.out.kept bel.out G2.out.lt)
    have Q5 := ShO.mk (Q2.out.kept bel.out Q2.out.lt)
    have R5 := blk
    clear c2 d2 bel blk
    have c5 := G5.out.cells
    have d5 := Q5.out.cells
    go_upto_region 9 with fail
    go_cut [8, 9] (fun sp sc wx => ∃ g, sp = .pointer (some ⟨g, 0, none⟩) ∧ sc = .int .i64 o.2 ∧ ShO (Blk wx g 27 #[.int .i64 o.1.1, .string o.1.2.1, .string o.1.2.2]) ∧ ShO (Below w5.heap.size w5 wx) ∧ w5.heap.size ≤ g)
    case first =>
      have HK := ShO.mk (fun w' (hb : Below w5.heap.size w5 w') => boPl G5.out Q5.out hb)
      unfold BoPl at HK
      go_region_held3 (fun w' => (w'.cell? ⟨w.heap.size, 0, none⟩ = some (.int .i64 n) ∧ w'.cell? ⟨w.heap.size, 1, none⟩ = some (.string p) ∧ w'.cell? ⟨w.heap.size, 2, none⟩ = some (.string c)) ∧
          (w'.cell? ⟨w.heap.size + 1, 0, none⟩ = some (.int .i64 r) ∧ w'.cell? ⟨w.heap.size + 1, 1, none⟩ = some (.int .i64 k) ∧ w'.cell? ⟨w.heap.size + 1, 2, none⟩ = some (.bool d) ∧ w'.cell? ⟨w.heap.size + 1, 3, none⟩ = some (.string s)))
        (with_reducible exact HK.out _ (by first | assumption | exact (Below.refl _ _).drew | exact ((Below.refl _ _).alloc (Nat.le_refl _) _).drew | exact Below.alloc (by assumption) (Below.size (by assumption)) _ | exact below_threeO (by assumption) (by first | exact Nat.le_refl _ | exact Below.size (by assumption)) _ _ _ | exact below_threeO (Below.alloc (by assumption) (Below.size (by assumption)) _) (by first | exact Nat.le_refl _ | exact Below.size (by assumption)) _ _ _))
        (first
          | (go_at_call 15; with_reducible refine (callsB2 (w0 := w5) (by first | assumption | exact (Below.refl _ _).drew | exact ((Below.refl _ _).alloc (Nat.le_refl _) _).drew | exact Below.alloc (by assumption) (Below.size (by assumption)) _) (toBoard_any n p c _)).mono ?_; rintro e ya ⟨rfl, hba, hca⟩; (first | (have Za := made_boardP (.inl rfl) hca; have za := Za.cells; have ma := Za.marks) | (have Za := made_boardP (.inr rfl) hca; have za := Za.cells; have ma := Za.marks) | (have Za := Blk.kept (show Blk _ _ 27 #[.int .i64 0, .string ⟨#[]⟩, .string ⟨#[]⟩] by assumption) hca (Blk.lt (by assumption)); have za := Za.cells; have ma := Za.marks) | skip))
          | (go_at_call 29; with_reducible refine (callsB2 (w0 := w5) (by first | assumption | exact (Below.refl _ _).drew | exact ((Below.refl _ _).alloc (Nat.le_refl _) _).drew | exact Below.alloc (by assumption) (Below.size (by assumption)) _) (toPlay_any r k d s _)).mono ?_; rintro e yb ⟨rfl, hbb, hcb⟩; (first | (have Zb := made_boardP (.inl rfl) hcb; have zb := Zb.cells; have mb := Zb.marks) | (have Zb := made_boardP (.inr rfl) hcb; have zb := Zb.cells; have mb := Zb.marks) | (have Zb := Blk.kept (show Blk _ _ 27 #[.int .i64 0, .string ⟨#[]⟩, .string ⟨#[]⟩] by assumption) hcb (Blk.lt (by assumption)); have zb := Zb.cells; have mb := Zb.marks) | skip))
          | (go_at_call 43; refine (callsB2 (w0 := w5) (by first | assumption | exact (Below.refl _ _).drew | exact ((Below.refl _ _).alloc (Nat.le_refl _) _).drew | exact Below.alloc (by assumption) (Below.size (by assumption)) _) (HI.out _ (HT.out.on (B5.out.trans (Below.mono (by first | assumption | exact (Below.refl _ _).drew | exact ((Below.refl _ _).alloc (Nat.le_refl _) _).drew | exact Below.alloc (by assumption) (Below.size (by assumption)) _) B5.out.size))))).mono ?_; rintro e y3 ⟨rfl, hb3, hc3⟩; (first | (have Z3 := made_boardP (.inl rfl) hc3; have z3 := Z3.cells; have m3 := Z3.marks) | (have Z3 := made_boardP (.inr rfl) hc3; have z3 := Z3.cells; have m3 := Z3.marks) | (have Z3 := Blk.kept (show Blk _ _ 27 #[.int .i64 0, .string ⟨#[]⟩, .string ⟨#[]⟩] by assumption) hc3 (Blk.lt (by assumption)); have z3 := Z3.cells; have m3 := Z3.marks) | skip)))
      all_goals
        go_wp2_with fail
        go_meet
        first
          | exact ⟨_, rfl, rfl, ⟨Blk.made _ _ _⟩, ⟨Below.alloc (by assumption) (Below.size (by assumption)) _⟩, Below.size (by assumption)⟩
          | exact ⟨_, rfl, rfl, ⟨Z3.threeP _ _ _⟩, ⟨below_threeO hb3 (by first | exact Nat.le_refl _ | exact Below.size (by assumption)) _ _ _⟩, by first | exact Nat.le_refl _ | exact Below.size (by assumption)⟩
    case rest =>
      obtain ⟨g8, rfl, rfl, blk, bel, hge8⟩ := hcut
      obtain ⟨w8, rfl⟩ : ∃ w8, w8 = wc := ⟨_, rfl⟩
      have B8 := ShO.mk (B5.out.trans (bel.out.mono B5.out.size))
      have R8 := ShO.mk (R5.out.kept bel.out R5.out.lt)
      have K8 := blk
      clear c5 d5 bel blk
      have c8 := R8.out.cells
      have k8 := K8.out.cells
      go_wp2_with fail
      refine (eqBoard_same o.1.1 o.1.2.1 o.1.2.2 _).mono ?_
      rintro e w9 ⟨rfl, hb9⟩
      go_wp2
      go_ret
      exact ⟨rfl, B8.out.trans (hb9.mono B8.out.size)⟩
theorem FnExactMakePlay_tabU {W : World} (h : laidMetH Tryd.prog Rows.fnExactMakePlayRow.laid W) : Tabs W := by
  have h' : laidMet Tryd.prog Rows.fnExactMakePlayRow.laid W := h
  first
    | exact utf8Tabs_of_reads (ρ := Tryd.lays260_ren) Tryd.lays260 ⟨by kernel_rfl, by kernel_rfl, by kernel_rfl, by kernel_rfl, by kernel_rfl, by kernel_rfl, by kernel_rfl⟩ (tw_first ▸ Lib.laidMet.reads h' (.head _)) (tw_accept ▸ Lib.laidMet.reads h' (.tail _ (.head _)))
    | exact utf8Tabs_of_reads (ρ := Tryd.lays260_ren) Tryd.lays260 ⟨by kernel_rfl, by kernel_rfl, by kernel_rfl, by kernel_rfl, by kernel_rfl, by kernel_rfl, by kernel_rfl⟩ (tw_first ▸ Lib.laidMet.reads h' (.head _)) (tw_accept ▸ Lib.laidMet.reads h' (.tail _ (.tail _ (.head _))))
    | exact utf8Tabs_of_reads (ρ := Tryd.lays260_ren) Tryd.lays260 ⟨by kernel_rfl, by kernel_rfl, by kernel_rfl, by kernel_rfl, by kernel_rfl, by kernel_rfl, by kernel_rfl⟩ (tw_first ▸ Lib.laidMet.reads h' (.head _)) (tw_accept ▸ Lib.laidMet.reads h' (.tail _ (.tail _ (.tail _ (.head _)))))
    | exact utf8Tabs_of_reads (ρ := Tryd.lays260_ren) Tryd.lays260 ⟨by kernel_rfl, by kernel_rfl, by kernel_rfl, by kernel_rfl, by kernel_rfl, by kernel_rfl, by kernel_rfl⟩ (tw_first ▸ Lib.laidMet.reads h' (.tail _ (.head _))) (tw_accept ▸ Lib.laidMet.reads h' (.head _))
    | exact utf8Tabs_of_reads (ρ := Tryd.lays260_ren) Tryd.lays260 ⟨by kernel_rfl, by kernel_rfl, by kernel_rfl, by kernel_rfl, by kernel_rfl, by kernel_rfl, by kernel_rfl⟩ (tw_first ▸ Lib.laidMet.reads h' (.tail _ (.head _))) (tw_accept ▸ Lib.laidMet.reads h' (.tail _ (.tail _ (.head _))))
    | exact utf8Tabs_of_reads (ρ := Tryd.lays260_ren) Tryd.lays260 ⟨by kernel_rfl, by kernel_rfl, by kernel_rfl, by kernel_rfl, by kernel_rfl, by kernel_rfl, by kernel_rfl⟩ (tw_first ▸ Lib.laidMet.reads h' (.tail _ (.head _))) (tw_accept ▸ Lib.laidMet.reads h' (.tail _ (.tail _ (.tail _ (.head _)))))
    | exact utf8Tabs_of_reads (ρ := Tryd.lays260_ren) Tryd.lays260 ⟨by kernel_rfl, by kernel_rfl, by kernel_rfl, by kernel_rfl, by kernel_rfl, by kernel_rfl, by kernel_rfl⟩ (tw_first ▸ Lib.laidMet.reads h' (.tail _ (.tail _ (.head _)))) (tw_accept ▸ Lib.laidMet.reads h' (.head _))
    | exact utf8Tabs_of_reads (ρ := Tryd.lays260_ren) Tryd.lays260 ⟨by kernel_rfl, by kernel_rfl, by kernel_rfl, by kernel_rfl, by kernel_rfl, by kernel_rfl, by kernel_rfl⟩ (tw_first ▸ Lib.laidMet.reads h' (.tail _ (.tail _ (.head _)))) (tw_accept ▸ Lib.laidMet.reads h' (.tail _ (.head _)))
    | exact utf8Tabs_of_reads (ρ := Tryd.lays260_ren) Tryd.lays260 ⟨by kernel_rfl, by kernel_rfl, by kernel_rfl, by kernel_rfl, by kernel_rfl, by kernel_rfl, by kernel_rfl⟩ (tw_first ▸ Lib.laidMet.reads h' (.tail _ (.tail _ (.head _)))) (tw_accept ▸ Lib.laidMet.reads h' (.tail _ (.tail _ (.tail _ (.head _)))))
    | exact utf8Tabs_of_reads (ρ := Tryd.lays260_ren) Tryd.lays260 ⟨by kernel_rfl, by kernel_rfl, by kernel_rfl, by kernel_rfl, by kernel_rfl, by kernel_rfl, by kernel_rfl⟩ (tw_first ▸ Lib.laidMet.reads h' (.tail _ (.tail _ (.tail _ (.head _))))) (tw_accept ▸ Lib.laidMet.reads h' (.head _))
    | exact utf8Tabs_of_reads (ρ := Tryd.lays260_ren) Tryd.lays260 ⟨by kernel_rfl, by kernel_rfl, by kernel_rfl, by kernel_rfl, by kernel_rfl, by kernel_rfl, by kernel_rfl⟩ (tw_first ▸ Lib.laidMet.reads h' (.tail _ (.tail _ (.tail _ (.head _))))) (tw_accept ▸ Lib.laidMet.reads h' (.tail _ (.head _)))
    | exact utf8Tabs_of_reads (ρ := Tryd.lays260_ren) Tryd.lays260 ⟨by kernel_rfl, by kernel_rfl, by kernel_rfl, by kernel_rfl, by kernel_rfl, by kernel_rfl, by kernel_rfl⟩ (tw_first ▸ Lib.laidMet.reads h' (.tail _ (.tail _ (.tail _ (.head _))))) (tw_accept ▸ Lib.laidMet.reads h' (.tail _ (.tail _ (.head _))))
set_option maxRecDepth 100000 in
theorem FnExactMakePlay_contract (H : Type) (enc : TypeId × Value → H) (W : World) (base : Nat) (args : Array Value) (ds gs : List (DataW H)) (before : List MemPlace)
    (hval : ∀ (j : Nat) t v, Tryd.f12.params[j]? = some t → args[j]? = some v → Value.okWide Tryd.prog W .any base t v)
    (hW : DataW.Whole enc Tryd.prog Tryd.f12.params.toList Rows.fnExactMakePlaySpec.vars false W args.toList ds gs before) (hL : laidMetH Tryd.prog Rows.fnExactMakePlayRow.laid W) :
    Calls Tryd.prog 12 args W fun e W' => ∃ v, e = .returned v ∧ Rows.fnExactMakePlaySpec.post enc Tryd.prog Tryd.f12 false true false false W args v W' := by
  have hW' := hW
  obtain ⟨p, q, hA0, hV, rfl, hfz, hnd⟩ := hW
  have hA : DataW.TrodAll enc Tryd.prog W 0 (fun _ => true) true Tryd.f12.params.toList args.toList ds p := hA0
  rw [Tryd.params12] at hA hval
  obtain ⟨v0, vs0, d0, ds0, p0, q0, hargs, rfl, rfl, h0, r0⟩ := trodAll_cons hA
  obtain ⟨v1, vs1, d1, ds1, p1, q1, rfl, rfl, rfl, h1, r1⟩ := trodAll_cons r0
  obtain ⟨rfl, rfl, rfl⟩ := trodAll_nil r1
  obtain rfl : args = #[v0, v1] := by cases args; simp_all
  obtain ⟨rfl, rfl⟩ := trodVars_none hV
  have k0 := h0
  have lt0 : ∀ x ∈ p0, x.block < W.heap.size := by obtain ⟨m, hm⟩ := k0; exact DataW.trod_lt m _ _ _ hm
  obtain ⟨c00, c01, c02, y00, y01, y02, n0, rfl, rfl, rfl, f00, f01, f02⟩ := open_agg3 Tryd.underlying23 (by kernel_rfl) (by kernel_rfl) (hval 0 23 v0 rfl rfl) h0
  obtain ⟨b0, rfl, _, wb0⟩ := int_cell Tryd.underlying2 f00
  obtain ⟨P0, rfl, _, wP0⟩ := string_cell Tryd.underlying9 f01
  obtain ⟨L0, rfl, _, wL0⟩ := string_cell Tryd.underlying9 f02
  have k1 := h1
  have lt1 : ∀ x ∈ p1, x.block < W.heap.size := by obtain ⟨m, hm⟩ := k1; exact DataW.trod_lt m _ _ _ hm
  obtain ⟨c10, c11, c12, c13, y10, y11, y12, y13, n1, rfl, rfl, rfl, f10, f11, f12, f13⟩ := open_agg4 Tryd.underlying41 (by kernel_rfl) (by kernel_rfl) (hval 1 41 v1 rfl rfl) h1
  obtain ⟨r1_, rfl, _, wr1_⟩ := int_cell Tryd.underlying2 f10
  obtain ⟨k1_, rfl, _, wk1_⟩ := int_cell Tryd.underlying2 f11
  obtain ⟨d1_, rfl, _⟩ := bool_cell Tryd.underlying4 f12
  obtain ⟨s1_, rfl, _, ws1_⟩ := string_cell Tryd.underlying9 f13
  clear hA0
  refine (FnExactMakePlay_walk W (FnExactMakePlay_tabU hL) b0 P0 L0 wb0 wP0 wL0 r1_ k1_ d1_ s1_ wr1_ wk1_ ws1_).mono fun e W' ⟨he, bel⟩ => ?_
  subst he
  exact ⟨_, rfl, _, _, _, [], _, _, hW', trodAll_mk1 (shut_bool Tryd.underlying4 _), (trodAll_cons_mk (Below.trod prog_laid (by kernel_rfl) (of_decide_eq_true (by kernel_rfl)) k0 bel lt0) (trodAll_cons_mk (Below.trod prog_laid (by kernel_rfl) (of_decide_eq_true (by kernel_rfl)) k1 bel lt1) trodAll_mk0)), Below.trodVars prog_laid bel (by kernel_rfl) hV, bel.frame _, fun h => by cases h⟩
noncomputable def FnExactMakePlay_world (os : Os) : World := World.laidAll Tryd.prog os Rows.fnExactMakePlayRow.laid
theorem FnExactMakePlay_met (os : Os) : laidMet Tryd.prog Rows.fnExactMakePlayRow.laid ((FnExactMakePlay_world os).forCall (fun _ _ => 0) ⟨#[], #[(.agg #[.int .i64 0, .string ByteArray.empty, .string ByteArray.empty] : Value), (.agg #[.int .i64 0, .int .i64 0, .bool false, .string ByteArray.empty] : Value)], []⟩).memory :=
  laidMet_laidAll _ (by kernel_rfl) (by kernel_rfl)
theorem FnExactMakePlay_reads (os : Os) {H : Type} (enc : TypeId × Value → H) : ∃ places, DataW.whole enc Tryd.prog ((FnExactMakePlay_world os).forCall (fun _ _ => 0) ⟨#[], #[(.agg #[.int .i64 0, .string ByteArray.empty, .string ByteArray.empty] : Value), (.agg #[.int .i64 0, .int .i64 0, .bool false, .string ByteArray.empty] : Value)], []⟩).memory Tryd.f12.params.toList Rows.fnExactMakePlaySpec.vars false (#[(.agg #[.int .i64 0, .string ByteArray.empty, .string ByteArray.empty] : Value), (.agg #[.int .i64 0, .int .i64 0, .bool false, .string ByteArray.empty] : Value)]).toList 8 = some ([.agg [.lit (.int .i64 0), .lit (.string []), .lit (.string [])], .agg [.lit (.int .i64 0), .lit (.int .i64 0), .lit (.bool false), .lit (.string [])]], [], places) :=
  ⟨[], by kernel_rfl⟩
set_option maxRecDepth 100000 in
theorem FnExactMakePlay_lifted (os : Os) (started : os.Started) (H : Type) (enc : TypeId × Value → H) (F : Stop.Interp) :
    ReturnsInHanded {} Tryd.checked os 12 .any ((OpenSpec.ofChange Rows.fnExactMakePlaySpec).preRow enc Tryd.prog Tryd.f12 Rows.fnExactMakePlayRow.domain false Rows.fnExactMakePlayRow.laid) (((OpenSpec.ofChange Rows.fnExactMakePlaySpec).at F).post enc Tryd.prog Tryd.f12 false true false false) := by
  obtain ⟨places, hx⟩ := FnExactMakePlay_reads os enc
  refine returnsInHanded_of_row (C := Tryd.checked) (s := OpenSpec.ofChange Rows.fnExactMakePlaySpec) prog_own started (by kernel_rfl) Tryd.func12
    (witness_row_at (enc := enc) (C := Tryd.checked) false (FnExactMakePlay_world os) #[(.agg #[.int .i64 0, .string ByteArray.empty, .string ByteArray.empty] : Value), (.agg #[.int .i64 0, .int .i64 0, .bool false, .string ByteArray.empty] : Value)] (World.laidAll_os _ _ _) (by kernel_rfl) (by kernel_rfl) (by kernel_rfl)
      (OpenSpec.preRow_of_cond 8 hx (by kernel_rfl) (fun k hk => by cases hk) (by kernel_rfl) (FnExactMakePlay_met os))) ?_
  intro W base args ds gs before hval hW _ _ _ hL _ _
  exact FnExactMakePlay_contract H enc W base args ds gs before hval hW hL
set_option maxHeartbeats 8000000 in
theorem FnExactMakePlay_facts : joinedFacts Tryd.pinned.checked.prog 12 Tryd.f12 (OpenSpec.ofChange Rows.fnExactMakePlaySpec).bare Rows.fnExactMakePlayRow = true := by
  unfold joinedFacts
  rw [prog_enter, prog_lifts, prog_made]
  kernel_rfl
set_option maxHeartbeats 8000000 in
theorem FnExactMakePlay_goes : false = Rows.fnExactMakePlayRow.goesBy Tryd.pinned.checked.prog := by kernel_rfl
theorem FnExactMakePlay_said : Rows.FnExactMakePlaySaid :=
  OpenClaim.holds_of_cond 12 Tryd.f12 rfl rfl rfl rfl rfl rfl rfl ⟨rfl, rfl, rfl, rfl, rfl⟩ rfl rfl rfl rfl rfl (by kernel_rfl) Tryd.func12 FnExactMakePlay_facts
    (of_decide_eq_true (by kernel_rfl)) (by unfold Func.isWrapper; rw [if_neg (of_decide_eq_false (by kernel_rfl))]; exact ⟨rfl, rfl⟩)
    (fun os started H enc _ F => by rw [OpenClaim.pre_eq_preRow]; exact FnExactMakePlay_lifted os started H enc F)
theorem FnExactMakePlay_plain (f : FuncId) (fn : Func) (hf : Tryd.pinned.checked.prog.funcNamed "loop.example/g00911/laws.FnExactMakePlay" = some f) (hfn : Tryd.pinned.checked.prog.funcs[f]? = some fn) :
    true = Tryd.pinned.checked.prog.looks [] ∧ ∀ (j : Nat) t, fn.params[j]? = some t → Tryd.pinned.checked.prog.wantsStandIn t = false := by
  obtain rfl : f = 12 := Option.some.inj ((show Tryd.prog.funcNamed "loop.example/g00911/laws.FnExactMakePlay" = some 12 by kernel_rfl).symm.trans hf) |>.symm
  obtain rfl : fn = Tryd.f12 := (Option.some.inj (Tryd.func12.symm.trans hfn)).symm
  refine ⟨by kernel_rfl, fun j t ht => ?_⟩
  rw [Tryd.params12] at ht
  have hm := Array.mem_of_getElem? ht
  simp only [List.mem_toArray, List.mem_cons, List.not_mem_nil, or_false] at hm
  rcases hm with rfl | rfl
  · exact (show Tryd.prog.wantsStandIn 23 = false by kernel_rfl)
  · exact (show Tryd.prog.wantsStandIn 41 = false by kernel_rfl)
theorem FnExactMakePlay_card : Rows.FnExactMakePlayCardSaid :=
  Claim7.holds_tied_plain_at .later [] _ _ _ _ FnExactMakePlay_said (fun _ h => by cases h) (by kernel_rfl) (fun _ h => by cases h) fnExactMakePlay_row_tie rfl ⟨rfl, rfl⟩ (prog_main.trans (by kernel_rfl)) rfl FnExactMakePlay_plain FnExactMakePlay_goes
end Go.Proofs.YtmkdbahdhobdjaaDoor
