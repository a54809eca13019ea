/-
  EmptyBoard: both sides.
-/
import Derived.Test.YtmkdbahdhobdjaaDoorBF
import Derived.Test.YtmkdbahdhobdjaaDoorQ4
namespace Go.Proofs.YtmkdbahdhobdjaaDoor
open Go.RowKit

theorem below_threeO {B b : Nat} {a w : World} (h : Below B a w) (hB : B ≤ b) (x0 x1 x2 : Value) :
    Below B a (((w.setCell ⟨b, 0, none⟩ x0).setCell ⟨b, 1, none⟩ x1).setCell ⟨b, 2, none⟩ x2) :=
  ((h.setCell (p := ⟨b, 0, none⟩) hB x0).setCell (p := ⟨b, 1, none⟩) hB x1).setCell (p := ⟨b, 2, none⟩) hB x2
theorem rep_succ (n : Nat) (x : UInt8) : List.replicate n x ++ [x] = List.replicate (n + 1) x := by rw [List.replicate_succ']
theorem repeatDot_any (M : Nat) (W : World) (hM : M ≤ 225) :
    Calls Tryd.prog 139 #[.string ⟨#[46]⟩, .int .i64 (M : Int)] W fun e w' => e = .returned (.string (dotsS M)) ∧ Below W.heap.size W w' := by
  refine (Tryd.strings_Repeat ⟨#[46]⟩ M W (by omega) (by show 1 * M ≤ _; omega)).mono ?_
  rintro e w' ⟨rfl, hb⟩
  refine ⟨?_, hb⟩
  rw [show (⟨#[46]⟩ : ByteArray).data.toList = [46] from rfl, repeat_one]
  rfl

theorem nat_of_siz {n : Int} (h : sizB n = true) : ∃ N : Nat, n = (N : Int) ∧ 5 ≤ N ∧ N ≤ 15 := by
  have := sizB_iff.1 h
  exact ⟨n.toNat, by omega, by omega, by omega⟩
theorem sq_facts {N : Nat} (h : N ≤ 15) : N * N ≤ 225 ∧ IntKind.i64.wrap ((N : Int) * (N : Int)) = ((N * N : Nat) : Int) := by
  have h1 : N * N ≤ 15 * 15 := Nat.mul_le_mul h h
  refine ⟨by omega, ?_⟩
  rw [← Int.natCast_mul]
  exact IntWalk.i64_in _ (by omega)
theorem emptyOut_no {n : Int} (h : sizB n = false) : emptyOut n = (noBd, 2) := by unfold emptyOut; rw [if_neg]; rw [h]; intro e; cases e
theorem emptyOut_yes {N : Nat} (h : sizB (N : Int) = true) : emptyOut (N : Int) = (((N : Int), dotsS (N * N), dotsS (N * N)), 0) := by unfold emptyOut; rw [if_pos h]; rfl
/-- What a function answers that gives a board and a code. -/
abbrev bdRes (o : Bd × Int) : Value := .tuple #[.agg #[.int .i64 o.1.1, .string o.1.2.1, .string o.1.2.2], .int .i64 o.2]
end Go.Proofs.YtmkdbahdhobdjaaDoor
