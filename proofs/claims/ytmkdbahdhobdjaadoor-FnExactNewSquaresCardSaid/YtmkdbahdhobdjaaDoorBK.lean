/-
  Rows and columns: the model's TransposeBoard and LineOf.
-/
import Derived.Test.YtmkdbahdhobdjaaDoorBE
import Derived.Deep.RegionHeld3
namespace Go.Proofs.YtmkdbahdhobdjaaDoor
open Go.RowKit

theorem gridT_small (s : ByteArray) {N r c : Nat} (h15 : N ≤ 15) (hr : r < N) (hc : c ≤ N) : (gridL (fun c r => atB s (r * N + c)) N (r * N + c)).length ≤ 225 := by
  rw [gridL_len]
  have h1 : (r + 1) * N ≤ 15 * 15 := Nat.mul_le_mul (by omega) h15
  rw [Nat.succ_mul] at h1
  omega
theorem idx_facts {N r c : Nat} (h15 : N ≤ 15) (hr : r < N) (hc : c < N) : IntKind.i64.wrap ((r : Int) * (N : Int)) = ((r * N : Nat) : Int) ∧ IntKind.i64.wrap (((r * N : Nat) : Int) + (c : Int)) = ((r * N + c : Nat) : Int) ∧ r * N + c < N * N ∧ N * N ≤ 225 := by
  have h1 := row_lt hr hc
  have h2 : N * N ≤ 15 * 15 := Nat.mul_le_mul h15 h15
  refine ⟨?_, ?_, h1, by omega⟩
  · rw [← Int.natCast_mul]; exact IntWalk.i64_in _ (by omega)
  · exact (IntWalk.i64_in _ (by omega)).trans (by omega)
set_option maxRecDepth 100000 in
set_option maxHeartbeats 4000000 in
theorem l11Turn_any (N : Nat) (s : ByteArray) (W : World) (h15 : N ≤ 15) (hs : s.size = N * N) :
    Calls Tryd.prog 101 #[.int .i64 (N : Int), .string s] W fun e w' => e = .returned (.string (turnS N s)) ∧ Below W.heap.size W w' := by
  have HSZ := ShO.mk hs
  clear hs
  go_enter Tryd.func101, Tryd.ntmps101
  go_wp2
  go_loopw [5, 6, 7] (fun v i _ wr => ∃ c : Nat, c ≤ N ∧ i = .int .i64 c ∧ ShO (OwnB W.heap.size wr v (gridL (fun c r => atB s (r * N + c)) N (c * N))) ∧ ShO (Below W.heap.size W wr)) (fun _ i _ _ => N - (intOf i).toNat)
  case atStart => exact ⟨0, Nat.zero_le _, rfl, ⟨by rw [Nat.zero_mul]; exact World.ownsRow_lit W _ 0 (Nat.le_refl _) (by unfold maxLen; omega) rfl⟩, ⟨(Below.refl _ _).alloc (Nat.le_refl _) _⟩⟩
  case round =>
    obtain ⟨c, hc, rfl, ho, hB⟩ := hrel
    by_cases hlt : c < N
    · go_wp2
      obtain ⟨w1, hw1⟩ : ∃ w1, w1 = wr := ⟨_, rfl⟩
      subst hw1
      go_loopw [5, 7] (fun v i wr => ∃ r : Nat, r ≤ N ∧ i = .int .i64 r ∧ ShO (OwnB W.heap.size wr v (gridL (fun c r => atB s (r * N + c)) N (c * N + r))) ∧ ShO (Below W.heap.size W wr)) (fun _ i _ => N - (intOf i).toNat)
      case atStart => exact ⟨0, Nat.zero_le _, rfl, ho, hB⟩
      case round =>
        obtain ⟨r, hr, rfl, ho2, hB2⟩ := hrel
        by_cases hlt2 : r < N
        · have HS := ShO.mk (gridL_step (fun c r => atB s (r * N + c)) (n := N) (r := c) hlt2)
          have HL := ShO.mk (gridT_small s (N := N) h15 hlt (Nat.le_of_lt hlt2))
          obtain ⟨h1, h2, h3, h4⟩ := idx_facts h15 hlt2 hlt
          have hI : r * N + c < s.size := by have := HSZ.out; omega
          have hat := atB_get hI
          obtain ⟨I, hIe⟩ : ∃ I, r * N + c = I := ⟨_, rfl⟩
          obtain ⟨Q, hQe⟩ : ∃ Q, r * N = Q := ⟨_, rfl⟩
          simp only [hIe] at hat hI h2 HS
          rw [hQe] at h1 h2
          obtain ⟨y, hy⟩ : ∃ y, s[I] = y := ⟨_, rfl⟩
          rw [hy] at hat
          rw [hat] at HS
          clear h3 h4 hIe hQe hat
          go_wp2_with (refine append_byteO rfl _ _ rfl _ _ y rfl rfl ho2.out (by have := HL.out; omega) hB2.out.size ?_; intro v' w2 ho1 hb1)
          have HO1 := ShO.mk ho1
          have HB1 := ShO.mk (hb1 _ hB2.out)
          clear ho1 hb1
          go_wp2
          go_roundw
          case rel => exact ⟨r + 1, by omega, by go_num, ⟨by rw [HS.out]; exact HO1.out⟩, HB1⟩
          case measure => simp [intOf]; omega
        · obtain rfl : r = N := by omega
          have HS := ShO.mk (gridL_row (fun c k => atB s (k * r + c)) r c)
          go_wp2
          go_roundw
          case rel => exact ⟨c + 1, by omega, by go_num, ⟨by rw [← HS.out]; exact ho2.out⟩, hB2⟩
          case measure => simp [intOf]; omega
    · obtain rfl : c = N := by omega
      have hcv := conv_rowQ ho.out
      go_wp2
      go_ret
      exact ⟨rfl, hB.out⟩
theorem turn_on {N : Nat} {s : ByteArray} (w0 W : World) (hb : Below w0.heap.size w0 W) (h15 : N ≤ 15) (hs : s.size = N * N) :
    Calls Tryd.prog 101 #[.int .i64 (N : Int), .string s] W fun e w' => e = .returned (.string (turnS N s)) ∧ Below w0.heap.size w0 w' :=
  (l11Turn_any N s W h15 hs).mono fun _ _ ⟨h1, h2⟩ => ⟨h1, hb.trans (h2.mono hb.size)⟩

def OneB (b : Nat) (n : Int) (p c : ByteArray) (w : World) : Prop := w.cell? ⟨b, 0, none⟩ = some (.int .i64 n) ∧ w.cell? ⟨b, 1, none⟩ = some (.string p) ∧ w.cell? ⟨b, 2, none⟩ = some (.string c)
theorem oneB {b : Nat} {t : TypeId} {n : Int} {p c : ByteArray} {w : World} (h : Blk w b t #[.int .i64 n, .string p, .string c]) : OneB b n p c w := ⟨h.cells 0, h.cells 1, h.cells 2⟩
theorem Blk.threeO {w : World} {g b : Nat} {t : TypeId} {cs : Array Value} (h : Blk w g t cs) (hb : g ≠ b) (x0 x1 x2 : Value) : Blk (((w.setCell ⟨b, 0, none⟩ x0).setCell ⟨b, 1, none⟩ x1).setCell ⟨b, 2, none⟩ x2) g t cs :=
  ((h.other (p := ⟨b, 0, none⟩) hb x0).other (p := ⟨b, 1, none⟩) hb x1).other (p := ⟨b, 2, none⟩) hb x2
set_option maxRecDepth 100000 in
set_option maxHeartbeats 4000000 in
theorem l11Transpose_any {g N : Nat} {p c : ByteArray} (W : World) (h15 : N ≤ 15) (hp : p.size = N * N) (hc : c.size = N * N) (hg : Blk W g 27 #[.int .i64 N, .string p, .string c]) :
    Calls Tryd.prog 52 #[.pointer (some ⟨g, 0, none⟩)] W fun e w' => e = .returned (.agg #[.int .i64 N, .string (turnS N p), .string (turnS N c)]) ∧ Below W.heap.size W w' := by
  have hgl := hg.lt
  have g0 : Blk (W.alloc (.cells #[.int .i64 0, .string ⟨#[]⟩, .string ⟨#[]⟩] 27)) g 27 #[.int .i64 N, .string p, .string c] := hg.alloc _
  have r0 := Blk.made W 27 #[.int .i64 0, .string ⟨#[]⟩, .string ⟨#[]⟩]
  have hb0 : Below W.heap.size W (W.alloc (.cells #[.int .i64 0, .string ⟨#[]⟩, .string ⟨#[]⟩] 27)) := (Below.refl _ _).alloc (Nat.le_refl _) _
  have hs0 : (W.alloc (.cells #[.int .i64 0, .string ⟨#[]⟩, .string ⟨#[]⟩] 27)).heap.size = W.heap.size + 1 := World.size_alloc _ _
  obtain ⟨w0, hw⟩ : ∃ w0, W.alloc (.cells #[.int .i64 0, .string ⟨#[]⟩, .string ⟨#[]⟩] 27) = w0 := ⟨_, rfl⟩
  rw [hw] at g0 r0 hb0 hs0
  have G0 := ShO.mk g0
  have R0 := ShO.mk r0
  have HB0 := ShO.mk hb0
  have HS0 := ShO.mk hs0
  have HP := ShO.mk hp
  have HC := ShO.mk hc
  have hne : g ≠ W.heap.size := by omega
  have HNE := ShO.mk hne
  obtain ⟨P, hP⟩ : ∃ P, turnS N p = P := ⟨_, rfl⟩
  obtain ⟨C, hC⟩ : ∃ C, turnS N c = C := ⟨_, rfl⟩
  have TP := ShO.mk (fun W hb => hP ▸ turn_on (N := N) (s := p) w0 W hb h15 hp)
  have TC := ShO.mk (fun W hb => hC ▸ turn_on (N := N) (s := c) w0 W hb h15 hc)
  rw [hP, hC]
  have HK := ShO.mk (fun w' (hb : Below w0.heap.size w0 w') => oneB (G0.out.kept hb G0.out.lt))
  unfold OneB at HK
  clear g0 r0 hb0 hs0 hp hc hP hC hgl hg
  go_enter Tryd.func52, Tryd.ntmps52
  go_wp2
  go_region_held3 (fun w' => w'.cell? ⟨g, 0, none⟩ = some (.int .i64 N) ∧ w'.cell? ⟨g, 1, none⟩ = some (.string p) ∧ w'.cell? ⟨g, 2, none⟩ = some (.string c))
    (first | exact HK3.out _ _ _ | exact HK.out _ (by first | assumption | exact (Below.refl _ _).drew))
    (first
      | (go_at_call 101; with_reducible refine (TP.out _ (by first | assumption | exact (Below.refl _ _).drew)).mono ?_; rintro e w3 ⟨rfl, hb3⟩; have HK3 := ShO.mk (fun x0 x1 x2 => oneB (Blk.threeO (G0.out.kept hb3 G0.out.lt) HNE.out x0 x1 x2)); have q := R0.out.kept hb3 R0.out.lt; have c0 := q.cells; have f0 := q.marks; have HBL := ShO.mk hb3; unfold OneB at HK3)
      | (go_at_call 101; with_reducible refine (TC.out _ (by first | assumption | exact (Below.refl _ _).drew)).mono ?_; rintro e w3 ⟨rfl, hb3⟩; have HK3 := ShO.mk (fun x0 x1 x2 => oneB (Blk.threeO (G0.out.kept hb3 G0.out.lt) HNE.out x0 x1 x2)); have q := R0.out.kept hb3 R0.out.lt; have c0 := q.cells; have f0 := q.marks; have HBL := ShO.mk hb3; unfold OneB at HK3))
  all_goals
    go_wp2
    refine bodyPost_ret (v := .agg #[.int .i64 N, .string P, .string C]) (by simp [results, Tryd.results52, go_sem, c0]) rfl ?_
    exact ⟨rfl, below_threeO (HB0.out.trans (HBL.out.mono HB0.out.size)) (Nat.le_refl _) _ _ _⟩
end Go.Proofs.YtmkdbahdhobdjaaDoor
