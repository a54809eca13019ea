/-
  EmptyBoard: both sides.
-/
import Derived.Test.YtpeobloofofnlaaBF
import Derived.Test.YtpeobloofofnlaaQ4
namespace Go.Proofs.Ytpeobloofofnlaa
open Go.RowKit

theorem below_threeO {B b : Nat} {a w : World} (h : Below B a w) (hB : B ≤ b) (x0 x1 x2 : Value) :
    Below B a (((w.setCell ⟨b, 0, none⟩ x0).setCell ⟨b, 1, none⟩ x1).setCell ⟨b, 2, none⟩ x2) :=
  ((h.setCell (p := ⟨b, 0, none⟩) hB x0).setCell (p := ⟨b, 1, none⟩) hB x1).setCell (p := ⟨b, 2, none⟩) hB x2
theorem rep_succ (n : Nat) (x : UInt8) : List.replicate n x ++ [x] = List.replicate (n + 1) x := by rw [List.replicate_succ']
set_option maxRecDepth 100000 in
set_option maxHeartbeats 2000000 in
theorem l02Repeat_any (M : Nat) (W : World) (hM : M ≤ 225) :
    Calls Try.prog 95 #[.int .u8 46, .int .i64 (M : Int)] W fun e w' => e = .returned (.string (dotsS M)) ∧ Below W.heap.size W w' := by
  go_enter Try.func95, Try.ntmps95
  go_wp2
  go_loopw [1, 5] (fun i v wr => ∃ k : Nat, k ≤ M ∧ i = .int .i64 ((M - k : Nat) : Int) ∧ ShO (OwnB W.heap.size wr v (List.replicate k 46)) ∧ ShO (Below W.heap.size W wr)) (fun i _ _ => (intOf i).toNat)
  case atStart => exact ⟨0, Nat.zero_le _, rfl, ⟨World.ownsRow_lit W _ 0 (Nat.le_refl _) (by unfold maxLen; omega) rfl⟩, ⟨(Below.refl _ _).alloc (Nat.le_refl _) _⟩⟩
  case round =>
    obtain ⟨k, hk, rfl, ho, hB⟩ := hrel
    by_cases hlt : k < M
    · have hgt : (0 : Int) < ((M - k : Nat) : Int) := by omega
      have hw : IntKind.i64.wrap (((M - k : Nat) : Int) - 1) = ((M - (k + 1) : Nat) : Int) := (IntWalk.i64_in _ (by omega)).trans (by omega)
      obtain ⟨D, hD⟩ : ∃ D, ((M - k : Nat) : Int) = D := ⟨_, rfl⟩
      obtain ⟨E, hE⟩ : ∃ E, ((M - (k + 1) : Nat) : Int) = E := ⟨_, rfl⟩
      have HE := ShO.mk hE
      have HDE := ShO.mk (show E < D ∧ 0 ≤ E by omega)
      rw [hD] at hgt hw
      rw [hE] at hw
      clear hE
      go_wp2_with (refine append_byteO rfl _ _ rfl _ (List.replicate k 46) 46 rfl rfl ho.out (by rw [List.length_replicate]; omega) hB.out.size ?_; intro v' w1 ho1 hb1)
      have HO1 := ShO.mk ho1
      have HB1 := ShO.mk (hb1 _ hB.out)
      clear ho1 hb1
      go_wp2
      go_roundw
      case rel => exact ⟨k + 1, by omega, by rw [HE.out], ⟨by rw [← rep_succ]; exact HO1.out⟩, HB1⟩
      case measure => have := HDE.out; simp [intOf]; omega
    · obtain rfl : k = M := by omega
      have hz : ((k - k : Nat) : Int) = 0 := by omega
      have hcv := conv_rowQ ho.out
      rw [hz]
      go_wp2
      go_ret
      exact ⟨rfl, hB.out⟩
theorem repeatDot_any (M : Nat) (W : World) (hM : M ≤ 225) :
    Calls Try.prog 97 #[.string ⟨#[46]⟩, .int .i64 (M : Int)] W fun e w' => e = .returned (.string (dotsS M)) ∧ Below W.heap.size W w' := by
  refine (Try.strings_Repeat ⟨#[46]⟩ M W (by omega) (by show 1 * M ≤ _; omega)).mono ?_
  rintro e w' ⟨rfl, hb⟩
  refine ⟨?_, hb⟩
  rw [show (⟨#[46]⟩ : ByteArray).data.toList = [46] from rfl, repeat_one]
  rfl

theorem nat_of_siz {n : Int} (h : sizB n = true) : ∃ N : Nat, n = (N : Int) ∧ 5 ≤ N ∧ N ≤ 15 := by
  have := sizB_iff.1 h
  exact ⟨n.toNat, by omega, by omega, by omega⟩
theorem sq_facts {N : Nat} (h : N ≤ 15) : N * N ≤ 225 ∧ IntKind.i64.wrap ((N : Int) * (N : Int)) = ((N * N : Nat) : Int) := by
  have h1 : N * N ≤ 15 * 15 := Nat.mul_le_mul h h
  refine ⟨by omega, ?_⟩
  rw [← Int.natCast_mul]
  exact IntWalk.i64_in _ (by omega)
theorem emptyOut_no {n : Int} (h : sizB n = false) : emptyOut n = (noBd, 2) := by unfold emptyOut; rw [if_neg]; rw [h]; intro e; cases e
theorem emptyOut_yes {N : Nat} (h : sizB (N : Int) = true) : emptyOut (N : Int) = (((N : Int), dotsS (N * N), dotsS (N * N)), 0) := by unfold emptyOut; rw [if_pos h]; rfl
/-- What a function answers that gives a board and a code. -/
abbrev bdRes (o : Bd × Int) : Value := .tuple #[.agg #[.int .i64 o.1.1, .string o.1.2.1, .string o.1.2.2], .int .i64 o.2]
set_option maxRecDepth 100000 in
set_option maxHeartbeats 2000000 in
theorem specEmptyBoard_any (n : Int) (W : World) :
    Calls Try.prog 31 #[.int .i64 n] W fun e w' => e = .returned (bdRes (emptyOut n)) ∧ Below W.heap.size W w' := by
  have hB0 : Below W.heap.size W (W.alloc (.cells #[.int .i64 0, .string ⟨#[]⟩, .string ⟨#[]⟩] 25)) := (Below.refl _ _).alloc (Nat.le_refl _) _
  cases hz : sizB n
  · have HZ := ShO.mk hz
    have HR := ShO.mk (emptyOut_no hz)
    clear hz
    go_enter Try.func31, Try.ntmps31
    go_wp2_with fail
    refine (sizeO HZ.out _).mono ?_
    rintro e w1 ⟨rfl, rfl⟩
    go_wp2
    have c0 := (Blk.made W 25 #[.int .i64 0, .string ⟨#[]⟩, .string ⟨#[]⟩]).cells
    refine bodyPost_ret (v := .tuple #[.agg #[.int .i64 0, .string ⟨#[]⟩, .string ⟨#[]⟩], .int .i64 2]) (by simp [results, Try.results31, go_sem, c0]) rfl ?_
    rw [HR.out]
    exact ⟨rfl, hB0⟩
  · obtain ⟨N, rfl, h5, h15⟩ := nat_of_siz hz
    have HZ := ShO.mk hz
    have HR := ShO.mk (emptyOut_yes hz)
    obtain ⟨hm, hw⟩ := sq_facts h15
    obtain ⟨M, hM⟩ : ∃ M, N * N = M := ⟨_, rfl⟩
    rw [hM] at hm hw HR
    have HG := ShO.mk (Blk.made W 25 #[.int .i64 0, .string ⟨#[]⟩, .string ⟨#[]⟩])
    clear hz hM
    go_enter Try.func31, Try.ntmps31
    go_wp2_with fail
    refine (sizeO HZ.out _).mono ?_
    rintro e w1 ⟨rfl, rfl⟩
    go_wp2_with fail
    refine (l02Repeat_any M _ hm).mono ?_
    rintro e w1 ⟨rfl, hb1⟩
    have HB1 := ShO.mk (hB0.trans (hb1.mono hB0.size))
    have HG1 := ShO.mk (HG.out.kept hb1 HG.out.lt)
    clear hb1
    go_wp2_with fail
    refine (l02Repeat_any M _ hm).mono ?_
    rintro e w2 ⟨rfl, hb2⟩
    have HB2 := ShO.mk (HB1.out.trans (hb2.mono HB1.out.size))
    have HG2 := ShO.mk (HG1.out.kept hb2 HG1.out.lt)
    clear hb2
    have c0 := HG2.out.cells
    have f0 := HG2.out.marks
    go_wp2
    refine bodyPost_ret (v := .tuple #[.agg #[.int .i64 N, .string (dotsS M), .string (dotsS M)], .int .i64 0]) (by simp [results, Try.results31, go_sem, c0]) rfl ?_
    rw [HR.out]
    exact ⟨rfl, below_threeO HB2.out (Nat.le_refl _) _ _ _⟩
set_option maxRecDepth 100000 in
set_option maxHeartbeats 2000000 in
theorem implEmptyBoard_any (n : Int) (W : World) :
    Calls Try.prog 30 #[.int .i64 n] W fun e w' => e = .returned (bdRes (emptyOut n)) ∧ Below W.heap.size W w' := by
  have hB0 : Below W.heap.size W (W.alloc (.cells #[.int .i64 0, .string ⟨#[]⟩, .string ⟨#[]⟩] 25)) := (Below.refl _ _).alloc (Nat.le_refl _) _
  cases hz : sizB n
  · have HZ := ShO.mk hz
    have HR := ShO.mk (emptyOut_no hz)
    clear hz
    go_enter Try.func30, Try.ntmps30
    go_wp2_with fail
    refine (isSize_any _ _).mono ?_
    rw [HZ.out]
    rintro e w1 ⟨rfl, rfl⟩
    go_wp2
    have c0 := (Blk.made W 25 #[.int .i64 0, .string ⟨#[]⟩, .string ⟨#[]⟩]).cells
    refine bodyPost_ret (v := .tuple #[.agg #[.int .i64 0, .string ⟨#[]⟩, .string ⟨#[]⟩], .int .i64 2]) (by simp [results, Try.results30, go_sem, c0]) rfl ?_
    rw [HR.out]
    exact ⟨rfl, hB0⟩
  · obtain ⟨N, rfl, h5, h15⟩ := nat_of_siz hz
    have HZ := ShO.mk hz
    have HR := ShO.mk (emptyOut_yes hz)
    obtain ⟨hm, hw⟩ := sq_facts h15
    obtain ⟨M, hM⟩ : ∃ M, N * N = M := ⟨_, rfl⟩
    rw [hM] at hm hw HR
    have HG := ShO.mk (Blk.made W 25 #[.int .i64 0, .string ⟨#[]⟩, .string ⟨#[]⟩])
    clear hz hM
    go_enter Try.func30, Try.ntmps30
    go_wp2_with fail
    refine (isSize_any _ _).mono ?_
    rw [HZ.out]
    rintro e w1 ⟨rfl, rfl⟩
    go_wp2_with fail
    refine (repeatDot_any M _ hm).mono ?_
    rintro e w1 ⟨rfl, hb1⟩
    have HB1 := ShO.mk (hB0.trans (hb1.mono hB0.size))
    have HG1 := ShO.mk (HG.out.kept hb1 HG.out.lt)
    clear hb1
    go_wp2_with fail
    refine (repeatDot_any M _ hm).mono ?_
    rintro e w2 ⟨rfl, hb2⟩
    have HB2 := ShO.mk (HB1.out.trans (hb2.mono HB1.out.size))
    have HG2 := ShO.mk (HG1.out.kept hb2 HG1.out.lt)
    clear hb2
    have c0 := HG2.out.cells
    have f0 := HG2.out.marks
    go_wp2
    refine bodyPost_ret (v := .tuple #[.agg #[.int .i64 N, .string (dotsS M), .string (dotsS M)], .int .i64 0]) (by simp [results, Try.results30, go_sem, c0]) rfl ?_
    rw [HR.out]
    exact ⟨rfl, below_threeO HB2.out (Nat.le_refl _) _ _ _⟩
end Go.Proofs.Ytpeobloofofnlaa
