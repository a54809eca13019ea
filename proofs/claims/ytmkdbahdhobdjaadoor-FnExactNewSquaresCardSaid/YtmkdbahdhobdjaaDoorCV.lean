/-
  Placements: the model's l12Word, l11Full, l12Flat, l12Fits, l12Ok; ValidPlay of the model.
-/
import Derived.Test.YtmkdbahdhobdjaaDoorCX
import Derived.Test.YtmkdbahdhobdjaaDoorCP
import Derived.Test.YtmkdbahdhobdjaaDoorD5
import Derived.Test.YtmkdbahdhobdjaaDoorBK
import Derived.Test.YtmkdbahdhobdjaaDoorJ1
import Derived.Test.YtmkdbahdhobdjaaDoorBI
namespace Go.Proofs.YtmkdbahdhobdjaaDoor
open Go.RowKit

theorem l12Word_any (s : ByteArray) (W : World) (hs : s.size ≤ 1048576) : Calls Tryd.prog 117 #[.string s] W fun e w' => e = .returned (.bool (longP s)) ∧ W = w' := by
  by_cases h2 : 2 ≤ s.size
  · have h1 : (1 : Int) < (s.size : Int) := by omega
    have HR := ShO.mk (show longP s = placedL s.data.toList by unfold longP; rw [decide_eq_true h2, Bool.and_true])
    go_enter Tryd.func117, Tryd.ntmps117
    go_wp2_with fail
    refine (l03Placed_any s _ hs).mono ?_
    rintro e w' ⟨rfl, rfl⟩
    go_wp2
    go_ret
    exact ⟨ret_bool HR.out.symm, rfl⟩
  · have h1 : ¬ (1 : Int) < (s.size : Int) := by omega
    have HR := ShO.mk (show longP s = false by unfold longP; rw [decide_eq_false h2, Bool.and_false])
    go_enter Tryd.func117, Tryd.ntmps117
    go_wp2
    go_ret
    exact ⟨ret_bool HR.out.symm, rfl⟩
/-- A square with a letter. -/
theorem l11Full_any {g N : Nat} {p c : ByteArray} {r k : Int} {v : Bool} (W : World) (h5 : 5 ≤ N) (h15 : N ≤ 15) (hc : c.size = N * N) (hg : Blk W g 27 #[.int .i64 (N : Int), .string p, .string c]) (hv : fullB N c r k = v) :
    Calls Tryd.prog 150 #[.pointer (some ⟨g, 0, none⟩), .int .i64 r, .int .i64 k] W fun e w' => e = .returned (.bool v) ∧ ∃ m, w' = W.drewN m := by
  have HG := ShO.mk hg
  have HZ := ShO.mk (show sizB (N : Int) = true from sizB_iff.2 ⟨by omega, by omega⟩)
  have HC := ShO.mk (show (c.size : Int) = (N : Int) * (N : Int) by rw [hc, Int.natCast_mul])
  cases hi : inBd (N : Int) r k
  · have HI := ShO.mk hi
    have HV := ShO.mk (show v = false by rw [← hv]; unfold fullB; rw [hi]; rfl)
    clear hi hv hg hc
    go_enter Tryd.func150, Tryd.ntmps150
    go_wp2_with fail
    refine (insO HI.out HZ.out HG.out).mono ?_
    rintro e w1 ⟨rfl, rfl⟩
    go_wp2
    go_ret
    exact ⟨ret_bool HV.out.symm, 0, rfl⟩
  · have HI := ShO.mk hi
    have HV := ShO.mk (show v = !(atB c (r * N + k).toNat == 46) by rw [← hv]; unfold fullB; rw [hi]; rfl)
    clear hi hv hg hc
    go_enter Tryd.func150, Tryd.ntmps150
    go_wp2_with fail
    refine (insO HI.out HZ.out HG.out).mono ?_
    rintro e w1 ⟨rfl, rfl⟩
    go_wp2_with fail
    refine (l11At_any _ HZ.out HI.out HC.out HG.out).mono ?_
    obtain ⟨y, hy⟩ : ∃ y, atB c (r * N + k).toNat = y := ⟨_, rfl⟩
    rw [hy] at HV ⊢
    rintro e w2 ⟨rfl, m, rfl⟩
    have hd : ((y.toNat : Int) != 46) = !(y == 46) := by rw [← dot_byteU]; rfl
    have HV2 := ShO.mk (HV.out.trans hd.symm)
    clear hd HV
    go_wp2
    go_ret
    exact ⟨ret_bool HV2.out.symm, m, rfl⟩

/-! ### A play as a row -/
theorem flat_cells {W : World} {a b : Nat} {n : Int} {p c : ByteArray} {r k : Int} {d : Bool} {s : ByteArray} (h1 : Blk W a 27 #[.int .i64 n, .string p, .string c]) (h2 : Blk W b 44 #[.int .i64 r, .int .i64 k, .bool d, .string s]) :
    (W.cell? ⟨a, 0, none⟩ = some (.int .i64 n) ∧ W.cell? ⟨a, 1, none⟩ = some (.string p) ∧ W.cell? ⟨a, 2, none⟩ = some (.string c)) ∧ (W.cell? ⟨b, 0, none⟩ = some (.int .i64 r) ∧ W.cell? ⟨b, 1, none⟩ = some (.int .i64 k) ∧ W.cell? ⟨b, 2, none⟩ = some (.bool d) ∧ W.cell? ⟨b, 3, none⟩ = some (.string s)) :=
  ⟨⟨h1.cells 0, h1.cells 1, h1.cells 2⟩, h2.cells 0, h2.cells 1, h2.cells 2, h2.cells 3⟩
theorem pl_cells {W : World} {b : Nat} {r k : Int} {d : Bool} {s : ByteArray} (h2 : Blk W b 44 #[.int .i64 r, .int .i64 k, .bool d, .string s]) :
    W.cell? ⟨b, 0, none⟩ = some (.int .i64 r) ∧ W.cell? ⟨b, 1, none⟩ = some (.int .i64 k) ∧ W.cell? ⟨b, 2, none⟩ = some (.bool d) ∧ W.cell? ⟨b, 3, none⟩ = some (.string s) :=
  ⟨h2.cells 0, h2.cells 1, h2.cells 2, h2.cells 3⟩
set_option maxRecDepth 100000 in
set_option maxHeartbeats 4000000 in
theorem l12Flat_R {g N : Nat} {p c : ByteArray} (r k : Int) (s : ByteArray) (W : World) (hg : Blk W g 27 #[.int .i64 (N : Int), .string p, .string c]) :
    Calls Tryd.prog 72 #[.pointer (some ⟨g, 0, none⟩), .agg #[.int .i64 r, .int .i64 k, .bool false, .string s]] W fun e w' => e = .returned (.tuple #[.agg #[.int .i64 (N : Int), .string p, .string c], .agg #[.int .i64 r, .int .i64 k, .bool false, .string s]]) ∧ Below W.heap.size W w' := by
  have hA : Below W.heap.size W (W.alloc (.cells #[.int .i64 r, .int .i64 k, .bool false, .string s] 44)) := (Below.refl _ _).alloc (Nat.le_refl _) _
  have g1 := ((hg.alloc (.cells #[.int .i64 r, .int .i64 k, .bool false, .string s] 44)).alloc (.cells #[.int .i64 0, .string ⟨#[]⟩, .string ⟨#[]⟩] 27)).alloc (.cells #[.int .i64 0, .int .i64 0, .bool false, .string ⟨#[]⟩] 44)
  have c1 := g1.cells
  have p1 := ((Blk.made (W.alloc (.cells #[.int .i64 r, .int .i64 k, .bool false, .string s] 44)) 27 #[.int .i64 (N : Int), .string p, .string c]).alloc (.cells #[.int .i64 r, .int .i64 k, .bool false, .string s] 44)).drew
  have p2 := (Blk.made ((W.alloc (.cells #[.int .i64 r, .int .i64 k, .bool false, .string s] 44)).alloc (.cells #[.int .i64 (N : Int), .string p, .string c] 27)) 44 #[.int .i64 r, .int .i64 k, .bool false, .string s]).drew
  simp only [World.size_alloc] at p1 p2
  have P1 := ShO.mk p1
  have P2 := ShO.mk p2
  clear p1 p2
  go_enter Tryd.func72, Tryd.ntmps72
  go_wp2
  go_region
  go_wp2
  have d1 := P1.out.cells
  have d2 := P2.out.cells
  refine bodyPost_ret (v := .tuple #[.agg #[.int .i64 (N : Int), .string p, .string c], .agg #[.int .i64 r, .int .i64 k, .bool false, .string s]]) (by simp [results, Tryd.results72, go_sem, d1, d2]) rfl ?_
  exact ⟨rfl, ((hA.alloc (by simp) _).alloc (by simp; omega) _).drew⟩
theorem transpose_on {g N : Nat} {p c P C : ByteArray} (w0 W : World) (hb : Below w0.heap.size w0 W) (h15 : N ≤ 15) (hp : p.size = N * N) (hc : c.size = N * N) (hP : turnS N p = P) (hC : turnS N c = C) (hg : Blk w0 g 27 #[.int .i64 (N : Int), .string p, .string c]) :
    Calls Tryd.prog 52 #[.pointer (some ⟨g, 0, none⟩)] W fun e w' => e = .returned (.agg #[.int .i64 (N : Int), .string P, .string C]) ∧ Below w0.heap.size w0 w' := by
  rw [← hP, ← hC]
  exact (l11Transpose_any W h15 hp hc (hg.kept hb hg.lt)).mono fun _ _ ⟨h1, h2⟩ => ⟨h1, hb.trans (h2.mono hb.size)⟩
theorem turn_play_on (w0 W : World) (r k : Int) (s : ByteArray) (hb : Below w0.heap.size w0 W) :
    Calls Tryd.prog 125 #[.agg #[.int .i64 r, .int .i64 k, .bool true, .string s]] W fun e w' => e = .returned (.agg #[.int .i64 k, .int .i64 r, .bool false, .string s]) ∧ Below w0.heap.size w0 w' :=
  (l12Turn_any r k true s W).mono fun _ _ ⟨h1, h2⟩ => ⟨h1, hb.trans (h2.mono hb.size)⟩
theorem Blk.sevenO {w : World} {g a b : Nat} {t : TypeId} {cs : Array Value} (h : Blk w g t cs) (ha : g ≠ a) (hb : g ≠ b) (x0 x1 x2 y0 y1 y2 y3 : Value) :
    Blk (((((((w.setCell ⟨a, 0, none⟩ x0).setCell ⟨a, 1, none⟩ x1).setCell ⟨a, 2, none⟩ x2).setCell ⟨b, 0, none⟩ y0).setCell ⟨b, 1, none⟩ y1).setCell ⟨b, 2, none⟩ y2).setCell ⟨b, 3, none⟩ y3) g t cs :=
  ((((((h.other (p := ⟨a, 0, none⟩) ha x0).other (p := ⟨a, 1, none⟩) ha x1).other (p := ⟨a, 2, none⟩) ha x2).other (p := ⟨b, 0, none⟩) hb y0).other (p := ⟨b, 1, none⟩) hb y1).other (p := ⟨b, 2, none⟩) hb y2).other (p := ⟨b, 3, none⟩) hb y3
theorem below_sevenO {B a b : Nat} {w0 w : World} (h : Below B w0 w) (ha : B ≤ a) (hb : B ≤ b) (x0 x1 x2 y0 y1 y2 y3 : Value) :
    Below B w0 (((((((w.setCell ⟨a, 0, none⟩ x0).setCell ⟨a, 1, none⟩ x1).setCell ⟨a, 2, none⟩ x2).setCell ⟨b, 0, none⟩ y0).setCell ⟨b, 1, none⟩ y1).setCell ⟨b, 2, none⟩ y2).setCell ⟨b, 3, none⟩ y3) :=
  ((((((h.setCell (p := ⟨a, 0, none⟩) ha x0).setCell (p := ⟨a, 1, none⟩) ha x1).setCell (p := ⟨a, 2, none⟩) ha x2).setCell (p := ⟨b, 0, none⟩) hb y0).setCell (p := ⟨b, 1, none⟩) hb y1).setCell (p := ⟨b, 2, none⟩) hb y2).setCell (p := ⟨b, 3, none⟩) hb y3
set_option maxRecDepth 100000 in
set_option maxHeartbeats 4000000 in
theorem l12Flat_D {g N : Nat} {p c : ByteArray} (r k : Int) (s : ByteArray) (W : World) (h15 : N ≤ 15) (hp : p.size = N * N) (hc : c.size = N * N) (hg : Blk W g 27 #[.int .i64 (N : Int), .string p, .string c]) :
    Calls Tryd.prog 72 #[.pointer (some ⟨g, 0, none⟩), .agg #[.int .i64 r, .int .i64 k, .bool true, .string s]] W fun e w' => e = .returned (.tuple #[.agg #[.int .i64 (N : Int), .string (turnS N p), .string (turnS N c)], .agg #[.int .i64 k, .int .i64 r, .bool false, .string s]]) ∧ Below W.heap.size W w' := by
  have hA : Below W.heap.size W (W.alloc (.cells #[.int .i64 r, .int .i64 k, .bool true, .string s] 44)) := (Below.refl _ _).alloc (Nat.le_refl _) _
  have g1 := ((hg.alloc (.cells #[.int .i64 r, .int .i64 k, .bool true, .string s] 44)).alloc (.cells #[.int .i64 0, .string ⟨#[]⟩, .string ⟨#[]⟩] 27)).alloc (.cells #[.int .i64 0, .int .i64 0, .bool false, .string ⟨#[]⟩] 44)
  have q1 := ((Blk.made W 44 #[.int .i64 r, .int .i64 k, .bool true, .string s]).alloc (.cells #[.int .i64 0, .string ⟨#[]⟩, .string ⟨#[]⟩] 27)).alloc (.cells #[.int .i64 0, .int .i64 0, .bool false, .string ⟨#[]⟩] 44)
  have p1 := ((Blk.made (W.alloc (.cells #[.int .i64 r, .int .i64 k, .bool true, .string s] 44)) 27 #[.int .i64 0, .string ⟨#[]⟩, .string ⟨#[]⟩]).alloc (.cells #[.int .i64 0, .int .i64 0, .bool false, .string ⟨#[]⟩] 44))
  have p2 := (Blk.made ((W.alloc (.cells #[.int .i64 r, .int .i64 k, .bool true, .string s] 44)).alloc (.cells #[.int .i64 0, .string ⟨#[]⟩, .string ⟨#[]⟩] 27)) 44 #[.int .i64 0, .int .i64 0, .bool false, .string ⟨#[]⟩])
  simp only [World.size_alloc] at p1 p2
  have hb0 := (hA.alloc (by simp) (.cells #[.int .i64 0, .string ⟨#[]⟩, .string ⟨#[]⟩] 27)).alloc (by simp; omega) (.cells #[.int .i64 0, .int .i64 0, .bool false, .string ⟨#[]⟩] 44)
  obtain ⟨w0, hw0⟩ : ∃ w0, ((W.alloc (.cells #[.int .i64 r, .int .i64 k, .bool true, .string s] 44)).alloc (.cells #[.int .i64 0, .string ⟨#[]⟩, .string ⟨#[]⟩] 27)).alloc (.cells #[.int .i64 0, .int .i64 0, .bool false, .string ⟨#[]⟩] 44) = w0 := ⟨_, rfl⟩
  rw [hw0] at g1 q1 p1 p2 hb0
  have G1 := ShO.mk g1
  have Q1 := ShO.mk q1
  have P1 := ShO.mk p1
  have P2 := ShO.mk p2
  have B0 := ShO.mk hb0
  obtain ⟨P, hP⟩ : ∃ P, turnS N p = P := ⟨_, rfl⟩
  obtain ⟨C, hC⟩ : ∃ C, turnS N c = C := ⟨_, rfl⟩
  have TP := ShO.mk (fun w' (hb : Below w0.heap.size w0 w') => transpose_on w0 w' hb h15 hp hc hP hC G1.out)
  have HK := ShO.mk (fun w' (hb : Below w0.heap.size w0 w') => pl_cells (Q1.out.kept hb Q1.out.lt))
  have c1 := q1.cells
  rw [hP, hC]
  clear g1 q1 p1 p2 hb0 hA hP hC
  go_enter Tryd.func72, Tryd.ntmps72
  go_wp2
  (try rw [hw0])
  clear hw0 c1
  go_region_held3 (fun w' => w'.cell? ⟨W.heap.size, 0, none⟩ = some (.int .i64 r) ∧ w'.cell? ⟨W.heap.size, 1, none⟩ = some (.int .i64 k) ∧ w'.cell? ⟨W.heap.size, 2, none⟩ = some (.bool true) ∧ w'.cell? ⟨W.heap.size, 3, none⟩ = some (.string s))
    (first | with_reducible exact HK3.out _ _ _ | with_reducible exact HK7.out _ _ _ _ _ _ _ | with_reducible exact HK.out _ (by first | assumption | exact (Below.refl _ _).drew))
    (first
      | (go_at_call 52; with_reducible refine (TP.out _ (by first | assumption | exact (Below.refl _ _).drew)).mono ?_; rintro e w3 ⟨rfl, hb3⟩; have HK3 := ShO.mk (fun x0 x1 x2 => pl_cells <| Blk.threeO (Q1.out.kept hb3 Q1.out.lt) (Nat.ne_of_lt (Nat.lt_succ_self W.heap.size)) x0 x1 x2); have HK7 := ShO.mk (fun x0 x1 x2 y0 y1 y2 y3 => pl_cells <| Blk.sevenO (Q1.out.kept hb3 Q1.out.lt) (Nat.ne_of_lt (Nat.lt_succ_self W.heap.size)) (show W.heap.size ≠ W.heap.size + 1 + 1 by omega) x0 x1 x2 y0 y1 y2 y3); have q := P1.out.kept hb3 P1.out.lt; have q2 := P2.out.kept hb3 P2.out.lt; have c0 := q.cells; have f0 := q.marks; have c2 := q2.cells; have f2 := q2.marks; have HBL := ShO.mk hb3)
      | (go_at_call 125; with_reducible refine (turn_play_on w0 _ r k s (by first | assumption | exact (Below.refl _ _).drew)).mono ?_; rintro e w3 ⟨rfl, hb4⟩; have HK3 := ShO.mk (fun x0 x1 x2 => pl_cells <| Blk.threeO (Q1.out.kept hb4 Q1.out.lt) (Nat.ne_of_lt (Nat.lt_succ_self W.heap.size)) x0 x1 x2); have HK7 := ShO.mk (fun x0 x1 x2 y0 y1 y2 y3 => pl_cells <| Blk.sevenO (Q1.out.kept hb4 Q1.out.lt) (Nat.ne_of_lt (Nat.lt_succ_self W.heap.size)) (show W.heap.size ≠ W.heap.size + 1 + 1 by omega) x0 x1 x2 y0 y1 y2 y3); have q := P1.out.kept hb4 P1.out.lt; have q2 := P2.out.kept hb4 P2.out.lt; have c0 := q.cells; have f0 := q.marks; have c2 := q2.cells; have f2 := q2.marks; have HBL := ShO.mk hb4))
  all_goals
    go_wp2
    refine bodyPost_ret (v := .tuple #[.agg #[.int .i64 (N : Int), .string P, .string C], .agg #[.int .i64 k, .int .i64 r, .bool false, .string s]]) (by simp [results, Tryd.results72, go_sem, c0, c2]) rfl ?_
    exact ⟨rfl, below_sevenO (B0.out.trans (HBL.out.mono B0.out.size)) (Nat.le_succ _) (show W.heap.size ≤ W.heap.size + 1 + 1 by omega) _ _ _ _ _ _ _⟩
theorem l12Flat_any {g N : Nat} {p c : ByteArray} (r k : Int) (d : Bool) (s : ByteArray) (W : World) (h15 : N ≤ 15) (hp : p.size = N * N) (hc : c.size = N * N) (hg : Blk W g 27 #[.int .i64 (N : Int), .string p, .string c]) :
    Calls Tryd.prog 72 #[.pointer (some ⟨g, 0, none⟩), .agg #[.int .i64 r, .int .i64 k, .bool d, .string s]] W fun e w' => e = .returned (.tuple #[.agg #[.int .i64 (N : Int), .string (flS d N p), .string (flS d N c)], .agg #[.int .i64 (flR d r k), .int .i64 (flC d r k), .bool false, .string s]]) ∧ Below W.heap.size W w' := by
  cases d
  · exact l12Flat_R r k s W hg
  · exact l12Flat_D r k s W h15 hp hc hg
end Go.Proofs.YtmkdbahdhobdjaaDoor

namespace Go.Proofs.YtmkdbahdhobdjaaDoor
open Go.RowKit

theorem fullQ {g N : Nat} {p c : ByteArray} {r k : Int} {v : Bool} {w : World} {n : Nat} (h5 : 5 ≤ N) (h15 : N ≤ 15) (hc : c.size = N * N) (hg : Blk (w.drewN n) g 27 #[.int .i64 (N : Int), .string p, .string c]) (hv : fullB N c r k = v) :
    Calls Tryd.prog 150 #[.pointer (some ⟨g, 0, none⟩), .int .i64 r, .int .i64 k] (w.drewN n) fun e w'' => e = .returned (.bool v) ∧ ∃ m, w'' = w.drewN m := Calls.quiet_of (l11Full_any _ h5 h15 hc hg hv)
theorem inQ {g N : Nat} {p c : ByteArray} {r k : Int} {v : Bool} {w : World} {n : Nat} (hz : sizB (N : Int) = true) (hg : Blk (w.drewN n) g 27 #[.int .i64 (N : Int), .string p, .string c]) (hv : inBd (N : Int) r k = v) :
    Calls Tryd.prog 149 #[.pointer (some ⟨g, 0, none⟩), .int .i64 r, .int .i64 k] (w.drewN n) fun e w'' => e = .returned (.bool v) ∧ ∃ m, w'' = w.drewN m := quietO (insO hv hz hg)
set_option maxRecDepth 100000 in
set_option maxHeartbeats 4000000 in
theorem l12Fits_any {g N : Nat} {p c : ByteArray} (r k : Int) (s : ByteArray) (W : World) (h5 : 5 ≤ N) (h15 : N ≤ 15) (hc : c.size = N * N) (hs : s.size ≤ 12) (hg : Blk W g 27 #[.int .i64 (N : Int), .string p, .string c]) :
    Calls Tryd.prog 118 #[.pointer (some ⟨g, 0, none⟩), .agg #[.int .i64 r, .int .i64 k, .bool false, .string s]] W fun e w' => e = .returned (.bool (fitB N c r k s)) ∧ Below W.heap.size W w' := by
  have hA : Below W.heap.size W (W.alloc (.cells #[.int .i64 r, .int .i64 k, .bool false, .string s] 44)) := (Below.refl _ _).alloc (Nat.le_refl _) _
  have g1 := hg.alloc (.cells #[.int .i64 r, .int .i64 k, .bool false, .string s] 44)
  have q1 := Blk.made W 44 #[.int .i64 r, .int .i64 k, .bool false, .string s]
  have HZ := ShO.mk (show sizB (N : Int) = true from sizB_iff.2 ⟨by omega, by omega⟩)
  obtain ⟨w0, hw0⟩ : ∃ w0, W.alloc (.cells #[.int .i64 r, .int .i64 k, .bool false, .string s] 44) = w0 := ⟨_, rfl⟩
  rw [hw0] at hA g1 q1
  have G := ShO.mk g1
  have Q := ShO.mk q1
  have B0 := ShO.mk hA
  have c1 := g1.cells
  have d1 := q1.cells
  have H5 := ShO.mk h5
  have H15 := ShO.mk h15
  have HC := ShO.mk hc
  clear g1 q1 hA hc hg
  cases hi : inBd (N : Int) r k
  · have HI := ShO.mk hi
    have HR := ShO.mk (fit_out (f := c) (s := s) hi)
    clear hi
    go_enter Tryd.func118, Tryd.ntmps118
    go_wp2
    (try rw [hw0])
    clear hw0
    go_quiet (first | (go_at_call 149; exact inQ HZ.out (G.out.drewN _) HI.out))
    go_wp2
    go_ret
    exact ⟨ret_bool HR.out.symm, below_drewO B0.out _⟩
  · have HI := ShO.mk hi
    obtain ⟨A, B, rfl, rfl, hA, hB, -⟩ := fit_nat hi
    have hw1 : IntKind.i64.wrap ((B : Int) + (s.size : Int)) = (B : Int) + (s.size : Int) := IntWalk.i64_in _ (by omega)
    have hw2 : IntKind.i64.wrap ((B : Int) - 1) = (B : Int) - 1 := IntWalk.i64_in _ (by omega)
    by_cases hlen : N < B + s.size
    · have HR := ShO.mk (fit_long (A := A) (f := c) hlen)
      have hgt : decide ((N : Int) < (B : Int) + (s.size : Int)) = true := decide_eq_true (by omega)
      clear hi
      go_enter Tryd.func118, Tryd.ntmps118
      go_wp2
      (try rw [hw0])
      clear hw0
      go_quiet (first | (go_at_call 149; exact inQ HZ.out (G.out.drewN _) HI.out))
      go_wp2
      go_ret
      exact ⟨ret_bool HR.out.symm, below_drewO B0.out _⟩
    · have hgt : decide ((N : Int) < (B : Int) + (s.size : Int)) = false := decide_eq_false (by omega)
      have HN := ShO.mk (show B + s.size ≤ N by omega)
      have HA := ShO.mk hA
      have HB := ShO.mk hB
      cases hf1 : fullB N c (A : Int) ((B : Int) - 1)
      · have HF1 := ShO.mk hf1
        cases hf2 : fullB N c (A : Int) ((B : Int) + (s.size : Int))
        · have HF2 := ShO.mk hf2
          clear hi hf1 hf2 hlen
          go_enter Tryd.func118, Tryd.ntmps118
          go_wp2
          (try rw [hw0])
          clear hw0
          go_quiet (first | (go_at_call 149; exact inQ HZ.out (G.out.drewN _) HI.out) | (go_at_call 150; exact fullQ H5.out H15.out HC.out (G.out.drewN _) HF1.out) | (go_at_call 150; exact fullQ H5.out H15.out HC.out (G.out.drewN _) HF2.out))
          have HFE := ShO.mk (fun h => fit_end (f := c) (s := s) HA.out HB.out HN.out h)
          clear hw1 hw2 hgt
          go_wp2
          go_loopw [6, 7] (fun fr i wr => ∃ (j : Nat), j ≤ s.size ∧ fr = .bool (!(frL c (A * N + B) j).isEmpty) ∧ i = .int .i64 (j : Int) ∧ ShO (seeTo c s (A * N + B) j = true) ∧ ∃ q, wr = w0.drewN q) (fun _ i _ => s.size - (intOf i).toNat)
          case atStart => exact ⟨0, Nat.zero_le _, rfl, rfl, ⟨rfl⟩, _, rfl⟩
          case round =>
            obtain ⟨j, hj, rfl, rfl, hse, q, rfl⟩ := hrel
            have d2 := (Q.out.drewN q).cells
            by_cases hlt : j < s.size
            · have hBN := HN.out
              have HI2 := ShO.mk (show inBd (N : Int) (A : Int) ((B : Int) + (j : Int)) = true from inBd_iff.2 ⟨⟨by omega, by have := HA.out; omega⟩, by omega, by omega⟩)
              have hw3 : IntKind.i64.wrap ((B : Int) + (j : Int)) = (B : Int) + (j : Int) := IntWalk.i64_in _ (by omega)
              have hat := atB_get hlt
              have HEQ := ShO.mk (show ((A : Int) * (N : Int) + ((B : Int) + (j : Int))).toNat = A * N + B + j by rw [← Int.natCast_add, nat_at]; omega)
              have HCS := ShO.mk (show (c.size : Int) = (N : Int) * (N : Int) by rw [HC.out, Int.natCast_mul])
              have HLT := ShO.mk hlt
              have hlt1 : (j : Int) < (s.size : Int) := by omega
              have hj0 : (0 : Int) ≤ (j : Int) := by omega
              obtain ⟨x, hx⟩ : ∃ x, s[j] = x := ⟨_, rfl⟩
              rw [hx] at hat
              have HX := ShO.mk hat
              clear hat hBN
              go_wp2_with fail
              refine (l11At_any _ HZ.out HI2.out HCS.out (G.out.drewN q)).mono ?_
              rw [HEQ.out]
              obtain ⟨u, hu⟩ : ∃ u, atB c (A * N + B + j) = u := ⟨_, rfl⟩
              have HU := ShO.mk hu
              rw [hu]
              rintro e w3 ⟨rfl, m, rfl⟩
              have d3 := ((Q.out.drewN q).drewN m).cells
              clear d2 hu
              cases h46 : (u == 46)
              · cases heq : (u == x)
                · have HR := ShO.mk (fit_see (N := N) (A := A) (B := B) (f := c) HLT.out (by unfold seeB; rw [HU.out, HX.out, h46, heq]; rfl))
                  have hz1 : ((u.toNat : Int) == 46) = false := by rw [dot_byteU]; exact h46
                  have hz2 : ((u.toNat : Int) != (x.toNat : Int)) = true := by
                    have : ((u.toNat : Int) == (x.toNat : Int)) = false := by
                      rw [beq_eq_false_iff_ne] at heq ⊢
                      intro e; exact heq (UInt8.toNat_inj.1 (by omega))
                    unfold bne; rw [this]; rfl
                  clear h46 heq
                  go_wp2
                  go_ret
                  exact ⟨ret_bool HR.out.symm, below_drewO B0.out _⟩
                · have hz1 : ((u.toNat : Int) == 46) = false := by rw [dot_byteU]; exact h46
                  have HFR := ShO.mk (frL_no (f := c) (b := A * N + B) (m := j) (by rw [HU.out]; exact h46))
                  have HSE := ShO.mk (show seeTo c s (A * N + B) (j + 1) = true by rw [seeTo_succ, hse.out]; unfold seeB; rw [HU.out, HX.out, heq, Bool.or_true]; rfl)
                  obtain rfl : u = x := beq_iff_eq.1 heq
                  clear h46 heq
                  go_wp2
                  go_roundw
                  case rel => exact ⟨j + 1, by have := HLT.out; omega, by rw [HFR.out], by go_num, HSE, q + m, by first | rfl | (rw [World.drewN_drewN])⟩
                  case measure => simp [intOf]; have := HLT.out; omega
              · have HFR := ShO.mk (frL_yes (f := c) (b := A * N + B) (m := j) (by rw [HU.out]; exact h46))
                have HSE := ShO.mk (show seeTo c s (A * N + B) (j + 1) = true by rw [seeTo_succ, hse.out]; unfold seeB; rw [HU.out, h46]; rfl)
                have hz1 : ((u.toNat : Int) == 46) = true := by rw [dot_byteU]; exact h46
                clear h46
                go_wp2
                go_roundw
                case rel => exact ⟨j + 1, by have := HLT.out; omega, by rw [HFR.out]; simp, by go_num, HSE, q + m, by first | rfl | (rw [World.drewN_drewN])⟩
                case measure => simp [intOf]; have := HLT.out; omega
            · obtain rfl : j = s.size := by omega
              have HR := ShO.mk (HFE.out hse.out)
              go_wp2
              go_ret
              exact ⟨ret_bool (by rw [HR.out, HF1.out, HF2.out]; rfl), below_drewO B0.out _⟩
        · have HF2 := ShO.mk hf2
          have HR := ShO.mk (show fitB N c (A : Int) (B : Int) s = false by
            unfold fitB
            rw [HF2.out, Bool.not_true, Bool.false_and, Bool.and_false, Bool.and_false, Bool.and_false])
          clear hi hf1 hf2 hlen
          go_enter Tryd.func118, Tryd.ntmps118
          go_wp2
          (try rw [hw0])
          clear hw0
          go_quiet (first | (go_at_call 149; exact inQ HZ.out (G.out.drewN _) HI.out) | (go_at_call 150; exact fullQ H5.out H15.out HC.out (G.out.drewN _) HF1.out) | (go_at_call 150; exact fullQ H5.out H15.out HC.out (G.out.drewN _) HF2.out))
          go_wp2
          go_ret
          exact ⟨ret_bool HR.out.symm, below_drewO B0.out _⟩
      · have HF1 := ShO.mk hf1
        have HR := ShO.mk (show fitB N c (A : Int) (B : Int) s = false by
          unfold fitB
          rw [HF1.out, Bool.not_true, Bool.false_and, Bool.and_false, Bool.and_false])
        clear hi hf1 hlen
        go_enter Tryd.func118, Tryd.ntmps118
        go_wp2
        (try rw [hw0])
        clear hw0
        go_quiet (first | (go_at_call 149; exact inQ HZ.out (G.out.drewN _) HI.out) | (go_at_call 150; exact fullQ H5.out H15.out HC.out (G.out.drewN _) HF1.out))
        go_wp2
        go_ret
        exact ⟨ret_bool HR.out.symm, below_drewO B0.out _⟩

/-! ### l12Ok, ValidPlay -/
set_option maxRecDepth 100000 in
set_option maxHeartbeats 4000000 in
theorem l12Ok_any {g : Nat} {n : Int} {p c : ByteArray} (r k : Int) (d : Bool) (s : ByteArray) (W : World) (hs : s.size ≤ 1048576) (hg : Blk W g 27 #[.int .i64 n, .string p, .string c]) :
    Calls Tryd.prog 70 #[.pointer (some ⟨g, 0, none⟩), .agg #[.int .i64 r, .int .i64 k, .bool d, .string s]] W fun e w' => e = .returned (.bool (okPl n p c r k d s)) ∧ Below W.heap.size W w' := by
  have hA : Below W.heap.size W (W.alloc (.cells #[.int .i64 r, .int .i64 k, .bool d, .string s] 44)) := (Below.refl _ _).alloc (Nat.le_refl _) _
  have g1 := hg.alloc (.cells #[.int .i64 r, .int .i64 k, .bool d, .string s] 44)
  have q1 := Blk.made W 44 #[.int .i64 r, .int .i64 k, .bool d, .string s]
  obtain ⟨w0, hw0⟩ : ∃ w0, W.alloc (.cells #[.int .i64 r, .int .i64 k, .bool d, .string s] 44) = w0 := ⟨_, rfl⟩
  rw [hw0] at hA g1 q1
  have G := ShO.mk g1
  have Q := ShO.mk q1
  have B0 := ShO.mk hA
  clear g1 q1 hA hg
  cases hok : okBd n p c
  · have HK := ShO.mk hok
    have HR := ShO.mk (okPl_bad (s := s) (r := r) (k := k) (d := d) hok)
    clear hok
    go_enter Tryd.func70, Tryd.ntmps70
    go_wp2_with fail
    (try rw [hw0])
    clear hw0
    refine (l11OkO HK.out G.out).mono ?_
    rintro e w1 ⟨rfl, m, rfl⟩
    go_wp2
    go_ret
    exact ⟨ret_bool HR.out.symm, below_drewO B0.out _⟩
  · obtain ⟨N, rfl, h5, h15, hp, hc⟩ := okBd_nat hok
    have HK := ShO.mk hok
    have H5 := ShO.mk h5
    have H15 := ShO.mk h15
    have HP := ShO.mk hp
    have HC := ShO.mk hc
    cases hw : longP s
    · have HW := ShO.mk hw
      have HR := ShO.mk (okPl_word (n := (N : Int)) (p := p) (c := c) (r := r) (k := k) (d := d) hw)
      clear hok hw hp hc
      go_enter Tryd.func70, Tryd.ntmps70
      go_wp2_with fail
      (try rw [hw0])
      clear hw0
      refine (l11OkO HK.out G.out).mono ?_
      rintro e w1 ⟨rfl, m, rfl⟩
      have d2 := (Q.out.drewN m).cells
      go_wp2_with fail
      have HL := l12Word_any s (w0.drewN m) hs
      rw [HW.out] at HL
      refine HL.mono ?_
      rintro e w2 ⟨rfl, rfl⟩
      go_wp2
      go_ret
      exact ⟨ret_bool HR.out.symm, below_drewO B0.out _⟩
    · have HW := ShO.mk hw
      have HR := ShO.mk (okPl_fit (r := r) (k := k) (d := d) hok hw)
      clear hok hw hp hc
      go_enter Tryd.func70, Tryd.ntmps70
      go_wp2_with fail
      (try rw [hw0])
      clear hw0
      refine (l11OkO HK.out G.out).mono ?_
      rintro e w1 ⟨rfl, m, rfl⟩
      have d2 := (Q.out.drewN m).cells
      go_wp2_with fail
      have HL := l12Word_any s (w0.drewN m) hs
      rw [HW.out] at HL
      refine HL.mono ?_
      rintro e w2 ⟨rfl, rfl⟩
      have hz := (long_size HW.out).2.1
      have HZ := ShO.mk hz
      clear hz
      have G1 := ShO.mk (G.out.drewN m)
      have B1 := ShO.mk (below_drewO B0.out m)
      obtain ⟨w1, hw1⟩ : ∃ w1, w0.drewN m = w1 := ⟨_, rfl⟩
      rw [hw1] at G1 B1 d2
      (try rw [hw1])
      go_wp2_with fail
      (try rw [hw1])
      refine (l12Flat_any r k d s _ H15.out HP.out HC.out G1.out).mono ?_
      rintro e w3 ⟨rfl, hb3⟩
      have B3 := ShO.mk (B1.out.trans (hb3.mono B1.out.size))
      clear hb3 d2 HL
      obtain ⟨P', hP'⟩ : ∃ P', flS d N p = P' := ⟨_, rfl⟩
      have hC' := flS_size (d := d) HC.out
      obtain ⟨C', hC''⟩ : ∃ C', flS d N c = C' := ⟨_, rfl⟩
      rw [hP', hC'']
      rw [hC''] at hC' HR
      obtain ⟨R', hR'⟩ : ∃ R', flR d r k = R' := ⟨_, rfl⟩
      obtain ⟨K', hK'⟩ : ∃ K', flC d r k = K' := ⟨_, rfl⟩
      rw [hR', hK'] at HR ⊢
      have HC' := ShO.mk hC'
      have B4 := ShO.mk ((B3.out.alloc B3.out.size (.cells #[.int .i64 (N : Int), .string P', .string C'] 27)).alloc (by have := B3.out.size; simp; omega) (.cells #[.int .i64 R', .int .i64 K', .bool false, .string s] 44))
      have G4 := ShO.mk ((Blk.made w3 27 #[.int .i64 (N : Int), .string P', .string C']).alloc (.cells #[.int .i64 R', .int .i64 K', .bool false, .string s] 44))
      clear hC' hP' hC'' hR' hK' hw1
      go_wp2_with fail
      refine (l12Fits_any R' K' s _ H5.out H15.out HC'.out HZ.out G4.out).mono ?_
      rintro e w5 ⟨rfl, hb5⟩
      have B5 := ShO.mk (B4.out.trans (hb5.mono B4.out.size))
      clear hb5
      go_wp2
      go_ret
      exact ⟨ret_bool HR.out.symm, B5.out⟩
set_option maxHeartbeats 1000000 in
theorem specValidPlay_any (n : Int) (p c s : ByteArray) (r k : Int) (d : Bool) (W : World) (hs : s.size ≤ 1048576) :
    Calls Tryd.prog 28 #[.agg #[.int .i64 n, .string p, .string c], .agg #[.int .i64 r, .int .i64 k, .bool d, .string s]] W fun e w' => e = .returned (.bool (okPl n p c r k d s)) ∧ Below W.heap.size W w' := by
  have B0 := ShO.mk (below_two (W := W) (.cells #[.int .i64 n, .string p, .string c] 27) (.cells #[.int .i64 r, .int .i64 k, .bool d, .string s] 44))
  have G := ShO.mk ((Blk.made W 27 #[.int .i64 n, .string p, .string c]).alloc (.cells #[.int .i64 r, .int .i64 k, .bool d, .string s] 44))
  go_enter Tryd.func28, Tryd.ntmps28
  go_wp2_with fail
  refine (l12Ok_any r k d s _ hs G.out).mono ?_
  rintro e w1 ⟨rfl, hb1⟩
  go_wp2
  go_ret
  exact ⟨rfl, B0.out.trans (hb1.mono B0.out.size)⟩
end Go.Proofs.YtmkdbahdhobdjaaDoor
