/-
  Placements: the board behind a play: the model's l12Make, MakePlay of the model.
-/
import Derived.Test.YtmkdbahdhobdjaaDoorCM
import Derived.Test.YtmkdbahdhobdjaaDoorCV
namespace Go.Proofs.YtmkdbahdhobdjaaDoor
open Go.RowKit Go.Joins Go.Deep

set_option maxRecDepth 100000 in
set_option maxHeartbeats 4000000 in
theorem l12Make_any {g N A B : Nat} {p c s f : ByteArray} {r k : Int} {d : Bool} (W : World) (hz : Fits N p c r k d s A B f) (h15 : N ≤ 15) (hp : p.size = N * N) (hc : c.size = N * N) (hg : Blk W g 27 #[.int .i64 (N : Int), .string p, .string c]) :
    Calls Tryd.prog 81 #[.pointer (some ⟨g, 0, none⟩), .agg #[.int .i64 r, .int .i64 k, .bool d, .string s]] W fun e w' => e = .returned (.agg #[.int .i64 (N : Int), .string p, .string (madeS d N f s (A * N + B))]) ∧ Below W.heap.size W w' := by
  have e1 : flR d r k = (A : Int) := by rw [hz.r_is, hz.k_is, flR_flR]
  have e2 : flC d r k = (B : Int) := by rw [hz.r_is, hz.k_is, flC_flC]
  obtain ⟨lo1, lo2⟩ := lay_ok hz hc rfl
  have HLO := ShO.mk lo1
  have HFS := ShO.mk lo2
  have HPP := ShO.mk (flS_flS (d := d) hp)
  have HPS := ShO.mk (flS_size (d := d) hp)
  have HLS := ShO.mk ((layS_size lo1).trans lo2)
  have H15 := ShO.mk h15
  have HS := ShO.mk (long_size hz.word).2.1
  have HA := ShO.mk hz.hA
  have HN := ShO.mk hz.hn
  have hfi := hz.f_is
  have hA0 : Below W.heap.size W ((W.alloc (.cells #[.int .i64 r, .int .i64 k, .bool d, .string s] 44)).alloc (.cells #[.int .i64 0, .string ⟨#[]⟩, .string ⟨#[]⟩] 27)) := ((Below.refl _ _).alloc (Nat.le_refl _) _).alloc (by simp) _
  have g0 := (hg.alloc (.cells #[.int .i64 r, .int .i64 k, .bool d, .string s] 44)).alloc (.cells #[.int .i64 0, .string ⟨#[]⟩, .string ⟨#[]⟩] 27)
  have q0 := (Blk.made W 44 #[.int .i64 r, .int .i64 k, .bool d, .string s]).alloc (.cells #[.int .i64 0, .string ⟨#[]⟩, .string ⟨#[]⟩] 27)
  have r0 := Blk.made (W.alloc (.cells #[.int .i64 r, .int .i64 k, .bool d, .string s] 44)) 27 #[.int .i64 0, .string ⟨#[]⟩, .string ⟨#[]⟩]
  rw [World.size_alloc] at r0
  obtain ⟨w0, hw0⟩ : ∃ w0, (W.alloc (.cells #[.int .i64 r, .int .i64 k, .bool d, .string s] 44)).alloc (.cells #[.int .i64 0, .string ⟨#[]⟩, .string ⟨#[]⟩] 27) = w0 := ⟨_, rfl⟩
  rw [hw0] at hA0 g0 q0 r0
  have B0 := ShO.mk hA0
  have G0 := ShO.mk g0
  have Q0 := ShO.mk q0
  have R0 := ShO.mk r0
  have c0 := q0.cells
  have HFL := ShO.mk (fun w hg => l12Flat_any (g := g) r k d s w h15 hp hc hg)
  have HCS := ShO.mk hc
  rw [e1, e2, ← hfi] at HFL
  obtain ⟨P', hP'⟩ : ∃ P', flS d N p = P' := ⟨_, rfl⟩
  rw [hP'] at HFL HPP HPS
  obtain ⟨b, hb⟩ : ∃ b, A * N + B = b := ⟨_, rfl⟩
  have HB := ShO.mk hb
  rw [hb] at HLO HLS ⊢
  clear hA0 g0 q0 r0 hg hfi e1 e2 lo1 lo2 hP' hb hz h15 hp hc
  go_enter Tryd.func81, Tryd.ntmps81
  go_wp2_with fail
  (try rw [hw0])
  clear hw0
  refine (HFL.out _ G0.out).mono ?_
  rintro e w1 ⟨rfl, hb1⟩
  have b1 := B0.out.trans (hb1.mono B0.out.size)
  have q1 := Q0.out.kept hb1 Q0.out.lt
  have r1 := R0.out.kept hb1 R0.out.lt
  have b2 := (b1.alloc b1.size (.cells #[.int .i64 (N : Int), .string P', .string f] 27)).alloc (by simp; have := b1.size; omega) (.cells #[.int .i64 (A : Int), .int .i64 (B : Int), .bool false, .string s] 44)
  have q2 := (q1.alloc (.cells #[.int .i64 (N : Int), .string P', .string f] 27)).alloc (.cells #[.int .i64 (A : Int), .int .i64 (B : Int), .bool false, .string s] 44)
  have r2 := (r1.alloc (.cells #[.int .i64 (N : Int), .string P', .string f] 27)).alloc (.cells #[.int .i64 (A : Int), .int .i64 (B : Int), .bool false, .string s] 44)
  have v2 := (Blk.made w1 27 #[.int .i64 (N : Int), .string P', .string f]).alloc (.cells #[.int .i64 (A : Int), .int .i64 (B : Int), .bool false, .string s] 44)
  have y2 := Blk.made (w1.alloc (.cells #[.int .i64 (N : Int), .string P', .string f] 27)) 44 #[.int .i64 (A : Int), .int .i64 (B : Int), .bool false, .string s]
  rw [World.size_alloc] at y2
  have s2 : ((w1.alloc (.cells #[.int .i64 (N : Int), .string P', .string f] 27)).alloc (.cells #[.int .i64 (A : Int), .int .i64 (B : Int), .bool false, .string s] 44)).heap.size = w1.heap.size + 1 + 1 := by simp
  obtain ⟨w2, hw2⟩ : ∃ w2, (w1.alloc (.cells #[.int .i64 (N : Int), .string P', .string f] 27)).alloc (.cells #[.int .i64 (A : Int), .int .i64 (B : Int), .bool false, .string s] 44) = w2 := ⟨_, rfl⟩
  rw [hw2] at b2 q2 r2 v2 y2 s2
  have hcv := run_bytes_of_string (P := Tryd.prog) w2 9 79 5 f Tryd.underlying9 Tryd.underlying79 Tryd.underlying5
  have hfb := fro_made w2 f (grownCap w2 f.size 0 5)
  have hB := ((Below.refl w2.heap.size w2).drew).alloc (Nat.le_refl _) (.cells (bytesRow f (grownCap w2 f.size 0 5)) 5 ((bytesRow f (grownCap w2 f.size 0 5)).size, (bytesRow f (grownCap w2 f.size 0 5)).size + 1))
  obtain ⟨w3, hw3⟩ : ∃ w3, w2.drew.alloc (.cells (bytesRow f (grownCap w2 f.size 0 5)) 5 ((bytesRow f (grownCap w2 f.size 0 5)).size, (bytesRow f (grownCap w2 f.size 0 5)).size + 1)) = w3 := ⟨_, rfl⟩
  rw [hw3] at hcv hfb hB
  obtain ⟨cap, hcap⟩ : ∃ cap, grownCap w2 f.size 0 5 = cap := ⟨_, rfl⟩
  rw [hcap, s2] at hcv
  rw [s2] at hfb
  have B3 := ShO.mk (b2.trans (hB.mono b2.size))
  have Q3 := ShO.mk (q2.kept hB q2.lt)
  have R3 := ShO.mk (r2.kept hB r2.lt)
  have V3 := ShO.mk (v2.kept hB v2.lt)
  have Y3 := ShO.mk (y2.kept hB y2.lt)
  have F3 := ShO.mk hfb
  have HSZ := ShO.mk b1.size
  have d2 := v2.cells
  have HR1 := ShO.mk r1.lt
  clear hw3 hfb hB hcap b1 q1 r1 b2 q2 r2 v2 y2 c0 hb1
  go_wp2
  go_loopw [8] (fun i wr => ∃ (j : Nat), j ≤ s.size ∧ i = .int .i64 (j : Int) ∧ ShO (Below W.heap.size W wr) ∧ ShO (Blk wr W.heap.size 44 #[.int .i64 r, .int .i64 k, .bool d, .string s]) ∧
      ShO (Blk wr (W.heap.size + 1) 27 #[.int .i64 0, .string ⟨#[]⟩, .string ⟨#[]⟩]) ∧ ShO (Blk wr w1.heap.size 27 #[.int .i64 (N : Int), .string P', .string f]) ∧
      ShO (Blk wr (w1.heap.size + 1) 44 #[.int .i64 (A : Int), .int .i64 (B : Int), .bool false, .string s]) ∧ ShO (FrO wr (w1.heap.size + 1 + 1) f.size (layL f s b j)))
    (fun i _ => s.size - (intOf i).toNat)
  case atStart => exact ⟨0, Nat.zero_le _, rfl, B3, Q3, R3, V3, Y3, ⟨by rw [layL_zero]; exact F3.out⟩⟩
  case round =>
    obtain ⟨j, hj, rfl, hbw, hq, hr, hv, hy, hf⟩ := hrel
    have cy := hy.out.cells
    by_cases hlt : j < s.size
    · have hNN : N * N ≤ 15 * 15 := Nat.mul_le_mul H15.out H15.out
      have hbN : b + s.size ≤ N * N := by rw [← HFS.out]; exact HLO.out
      have hbq : A * N + B = b := HB.out
      have hsz : s.size ≤ 12 := HS.out
      obtain ⟨Q, hQ⟩ : ∃ Q, A * N = Q := ⟨_, rfl⟩
      have hQi : (A : Int) * (N : Int) = (Q : Int) := by rw [← hQ, Int.natCast_mul]
      rw [hQ] at hbq
      have hw1 : IntKind.i64.wrap ((A : Int) * (N : Int)) = (Q : Int) := by rw [hQi]; exact IntWalk.i64_in _ (by omega)
      have hw2 : IntKind.i64.wrap ((Q : Int) + (B : Int)) = (b : Int) := by rw [show (Q : Int) + (B : Int) = (b : Int) by omega]; exact IntWalk.i64_in _ (by omega)
      have hw3 : IntKind.i64.wrap ((b : Int) + (j : Int)) = ((b + j : Nat) : Int) := by rw [show (b : Int) + (j : Int) = ((b + j : Nat) : Int) by omega]; exact IntWalk.i64_in _ (by omega)
      have hJf : b + j < f.size := by have := HLO.out; omega
      have hat := atB_get hlt
      obtain ⟨x, hx⟩ : ∃ x, s[j] = x := ⟨_, rfl⟩
      have HST := ShO.mk (layL_set (f := f) (s := s) (b := b) hlt HLO.out)
      rw [hat, hx] at HST
      have cyd : ∀ i, wr.drew.cell? ⟨w1.heap.size + 1, i, none⟩ = (#[Value.int .i64 (A : Int), Value.int .i64 (B : Int), Value.bool false, Value.string s] : Array Value)[i]? := cy
      have cvd : ∀ i, wr.drew.cell? ⟨w1.heap.size, i, none⟩ = (#[Value.int .i64 (N : Int), Value.string P', Value.string f] : Array Value)[i]? := hv.out.cells
      obtain ⟨o, ho⟩ : ∃ o, (layL f s b j)[b + j]? = some o := ⟨_, List.getElem?_eq_getElem (by rw [hf.out.len]; exact hJf)⟩
      have x0 : wr.drew.cell? ⟨w1.heap.size + 1 + 1, b + j, none⟩ = some (.int .u8 (o.toNat : Int)) := hf.out.cell ho
      have m0 : wr.drew.frozen? ⟨w1.heap.size + 1 + 1, b + j, none⟩ = false := hf.out.mark hJf
      obtain ⟨J, hJ⟩ : ∃ J, b + j = J := ⟨_, rfl⟩
      rw [hJ] at hw3 hJf x0 m0 HST
      have hJ0 : (0 : Int) ≤ (J : Int) := by omega
      have hJ1 : (J : Int) < (f.size : Int) := by omega
      have hj0 : (0 : Int) ≤ (j : Int) := by omega
      have hj1 : (j : Int) < (s.size : Int) := by omega
      have HSZ1 := HSZ.out
      have HLT := ShO.mk hlt
      have HR1' := HR1.out
      have Q5 := ShO.mk (Blk.other (w := wr.drew) (p := ⟨w1.heap.size + 1 + 1, J, none⟩) hq.out (by show W.heap.size ≠ w1.heap.size + 1 + 1; omega) (.int .u8 (x.toNat : Int)))
      have R5 := ShO.mk (Blk.other (w := wr.drew) (p := ⟨w1.heap.size + 1 + 1, J, none⟩) hr.out (by show W.heap.size + 1 ≠ w1.heap.size + 1 + 1; omega) (.int .u8 (x.toNat : Int)))
      have V5 := ShO.mk (Blk.other (w := wr.drew) (p := ⟨w1.heap.size + 1 + 1, J, none⟩) hv.out (by show w1.heap.size ≠ w1.heap.size + 1 + 1; omega) (.int .u8 (x.toNat : Int)))
      have Y5 := ShO.mk (Blk.other (w := wr.drew) (p := ⟨w1.heap.size + 1 + 1, J, none⟩) hy.out (by show w1.heap.size + 1 ≠ w1.heap.size + 1 + 1; omega) (.int .u8 (x.toNat : Int)))
      have F5 := ShO.mk (FrO.store (w := wr.drew) hf.out hJf x)
      have B5 := ShO.mk (hbw.out.drew.setCell (p := ⟨w1.heap.size + 1 + 1, J, none⟩) (by show W.heap.size ≤ w1.heap.size + 1 + 1; omega) (.int .u8 (x.toNat : Int)))
      rw [HST.out] at F5
      clear ho hbq hbN hNN hJ hat hQ hQi HSZ1 HR1' d2 hcv hJf
      go_wp2
      go_region
      go_wp2
      go_roundw
      case rel => exact ⟨j + 1, HLT.out, by go_num, B5, Q5, R5, V5, Y5, F5⟩
      case measure => simp [intOf]; have := HLT.out; omega
    · obtain rfl : j = s.size := by omega
      have hcf : (convert 79 9 (.slice (some ⟨w1.heap.size + 1 + 1, 0, none⟩) f.size cap)).run Tryd.prog wr = .ok (.string (layS f s b)) wr := conv_frO (cap := cap) hf.out
      have cv := hv.out.cells
      obtain ⟨S, hS⟩ : ∃ S, layS f s b = S := ⟨_, rfl⟩
      have HSE := ShO.mk hS
      rw [hS] at hcf HLS
      have q5 := hq.out.alloc (.cells #[.int .i64 (N : Int), .string P', .string S] 27)
      have r5 := hr.out.alloc (.cells #[.int .i64 (N : Int), .string P', .string S] 27)
      have v5 := Blk.made wr 27 #[.int .i64 (N : Int), .string P', .string S]
      have b5 := hbw.out.alloc hbw.out.size (.cells #[.int .i64 (N : Int), .string P', .string S] 27)
      obtain ⟨w5, hw5⟩ : ∃ w5, wr.alloc (.cells #[.int .i64 (N : Int), .string P', .string S] 27) = w5 := ⟨_, rfl⟩
      rw [hw5] at q5 r5 v5 b5
      have R5 := ShO.mk r5
      have V5 := ShO.mk v5
      have B5 := ShO.mk b5
      have c5 := q5.cells
      have k5 := v5.cells
      have rc := r5.cells
      have rf := r5.marks
      clear q5 r5 v5 b5 hbw hq hr hv hy hf d2 hcv hS
      cases d
      · go_wp2
        refine bodyPost_ret (v := .agg #[.int .i64 (N : Int), .string P', .string S]) (by simp [results, Tryd.results81, go_sem, rc]) rfl ?_
        refine ⟨?_, below_threeO B5.out (Nat.le_succ _) _ _ _⟩
        have h1 : P' = p := HPP.out
        have h2 : madeS false N f s b = S := HSE.out
        rw [h1, h2]
      · clear rc rf k5
        go_wp2_with fail
        refine (l11Transpose_any _ H15.out HPS.out HLS.out V5.out).mono ?_
        rintro e w6 ⟨rfl, hb6⟩
        have B6 := ShO.mk (B5.out.trans (hb6.mono B5.out.size))
        have r6 := R5.out.kept hb6 R5.out.lt
        have rc := r6.cells
        have rf := r6.marks
        have h1 : turnS N P' = p := HPP.out
        obtain ⟨T, hT⟩ : ∃ T, turnS N S = T := ⟨_, rfl⟩
        have H2 := ShO.mk (show madeS true N f s b = T by rw [← hT, ← HSE.out]; rfl)
        rw [h1, hT]
        clear r6 hb6 c5 h1 hT
        go_wp2
        refine bodyPost_ret (v := .agg #[.int .i64 (N : Int), .string p, .string T]) (by simp [results, Tryd.results81, go_sem, rc]) rfl ?_
        exact ⟨by rw [H2.out], below_threeO B6.out (Nat.le_succ _) _ _ _⟩

theorem specMakePlay_any (n : Int) (p c s : ByteArray) (r k : Int) (d : Bool) (W : World) (hs : s.size ≤ 1048576) :
    Calls Tryd.prog 42 #[.agg #[.int .i64 n, .string p, .string c], .agg #[.int .i64 r, .int .i64 k, .bool d, .string s]] W fun e w' => e = .returned (bdRes (makeOut n p c r k d s)) ∧ Below W.heap.size W w' := by
  have b0 := (below_two (W := W) (.cells #[.int .i64 n, .string p, .string c] 27) (.cells #[.int .i64 r, .int .i64 k, .bool d, .string s] 44)).alloc (by simp; omega) (.cells #[.int .i64 0, .string ⟨#[]⟩, .string ⟨#[]⟩] 27)
  have g0 := ((Blk.made W 27 #[.int .i64 n, .string p, .string c]).alloc (.cells #[.int .i64 r, .int .i64 k, .bool d, .string s] 44)).alloc (.cells #[.int .i64 0, .string ⟨#[]⟩, .string ⟨#[]⟩] 27)
  have q0 := (Blk.made (W.alloc (.cells #[.int .i64 n, .string p, .string c] 27)) 44 #[.int .i64 r, .int .i64 k, .bool d, .string s]).alloc (.cells #[.int .i64 0, .string ⟨#[]⟩, .string ⟨#[]⟩] 27)
  have r0 := Blk.made ((W.alloc (.cells #[.int .i64 n, .string p, .string c] 27)).alloc (.cells #[.int .i64 r, .int .i64 k, .bool d, .string s] 44)) 27 #[.int .i64 0, .string ⟨#[]⟩, .string ⟨#[]⟩]
  simp only [World.size_alloc] at q0 r0
  have B0 := ShO.mk b0
  have G0 := ShO.mk g0
  have Q0 := ShO.mk q0
  have R0 := ShO.mk r0
  clear b0 g0 q0 r0
  go_enter Tryd.func42, Tryd.ntmps42
  go_wp2_with fail
  refine (l12Ok_any r k d s _ hs G0.out).mono ?_
  rintro e w1 ⟨rfl, hb1⟩
  have B1 := ShO.mk (B0.out.trans (hb1.mono B0.out.size))
  have g1 := G0.out.kept hb1 G0.out.lt
  have q1 := Q0.out.kept hb1 Q0.out.lt
  have r1 := R0.out.kept hb1 R0.out.lt
  have c1 := q1.cells
  clear hb1
  cases hok : okPl n p c r k d s
  · have HR := ShO.mk (makeOut_no hok)
    have rc := r1.cells
    have rf := r1.marks
    clear hok g1 q1 r1
    go_wp2
    refine bodyPost_ret (v := .tuple #[.agg #[.int .i64 0, .string ⟨#[]⟩, .string ⟨#[]⟩], .int .i64 1]) (by simp [results, Tryd.results42, go_sem, rc]) rfl ?_
    rw [HR.out]
    exact ⟨rfl, below_threeO B1.out (by show W.heap.size ≤ W.heap.size + 1 + 1; omega) _ _ _⟩
  · obtain ⟨N, A, B, f, rfl, h5, h15, hp, hc, hz⟩ := okPl_fits hok
    have HR := ShO.mk (makeOut_yes hz)
    have HM := ShO.mk (fun w hg => l12Make_any (g := W.heap.size) w hz h15 hp hc hg)
    have G1 := ShO.mk g1
    have R1 := ShO.mk r1
    obtain ⟨S, hS⟩ : ∃ S, madeS d N f s (A * N + B) = S := ⟨_, rfl⟩
    rw [hS] at HR HM
    clear hok hz h5 h15 hp hc hS g1 q1 r1
    go_wp2_with fail
    refine (HM.out _ G1.out).mono ?_
    rintro e w2 ⟨rfl, hb2⟩
    have B2 := ShO.mk (B1.out.trans (hb2.mono B1.out.size))
    have r2 := R1.out.kept hb2 R1.out.lt
    have rc := r2.cells
    have rf := r2.marks
    clear hb2 r2 c1
    go_wp2
    refine bodyPost_ret (v := .tuple #[.agg #[.int .i64 (N : Int), .string p, .string S], .int .i64 0]) (by simp [results, Tryd.results42, go_sem, rc]) rfl ?_
    rw [HR.out]
    exact ⟨rfl, below_threeO B2.out (by show W.heap.size ≤ W.heap.size + 1 + 1; omega) _ _ _⟩
end Go.Proofs.YtmkdbahdhobdjaaDoor
