/-
  SameTiles: the program's answer, where letters, blanks and values are the same.
-/
import Derived.Test.YtaipfampkgpnpaaX1
import Derived.Test.YtaipfampkgpnpaaN2
import Derived.Deep.RegionHeld3
namespace Go.Proofs.Ytaipfampkgpnpaa
open Go.ChangeShapes Go.WideShapes Go.ChangeAt Go.RowKit Go.Joins

/-- What the eight cells of two tile sets hold. -/
def TwoSets (B : Nat) (L1 L2 : ByteArray) (x1 x2 y1 y2 : Value) (b1 b2 : Int) (w : World) : Prop :=
  (w.cell? ⟨B, 0, none⟩ = some (.string L1) ∧ w.cell? ⟨B, 1, none⟩ = some x1 ∧ w.cell? ⟨B, 2, none⟩ = some y1 ∧ w.cell? ⟨B, 3, none⟩ = some (.int .i64 b1)) ∧
  (w.cell? ⟨B + 1, 0, none⟩ = some (.string L2) ∧ w.cell? ⟨B + 1, 1, none⟩ = some x2 ∧ w.cell? ⟨B + 1, 2, none⟩ = some y2 ∧ w.cell? ⟨B + 1, 3, none⟩ = some (.int .i64 b2))
theorem twoSets {B : Nat} {L1 L2 : ByteArray} {x1 x2 y1 y2 : Value} {b1 b2 : Int} {w w' : World} (p1 : Blk w B 27 #[.string L1, x1, y1, .int .i64 b1]) (p2 : Blk w (B + 1) 27 #[.string L2, x2, y2, .int .i64 b2])
    (hb : Below w.heap.size w w') : TwoSets B L1 L2 x1 x2 y1 y2 b1 b2 w' := by
  have q1 := (p1.kept hb p1.lt).cells
  have q2 := (p2.kept hb p2.lt).cells
  exact ⟨⟨q1 0, q1 1, q1 2, q1 3⟩, ⟨q2 0, q2 1, q2 2, q2 3⟩⟩

set_option maxRecDepth 100000 in
set_option maxHeartbeats 8000000 in
theorem implSame_counts {dC : Bool} (L1 L2 : ByteArray) {x1 x2 y1 y2 : Value} {v1 v2 c1 c2 : List Int} (b1 b2 : Int) (w : World) (hb0 : (b1 == b2) = true) (hV : decide (v1 = v2) = true) (hC : decide (c1 = c2) = dC) (hL : (L1.toList == L2.toList) = true)
    (h1 : Ints .i64 w x1 v1) (h2 : Ints .i64 w x2 v2) (h3 : Ints .i64 w y1 c1) (h4 : Ints .i64 w y2 c2) :
    Calls Try.prog 8 #[.agg #[.string L1, x1, y1, .int .i64 b1], .agg #[.string L2, x2, y2, .int .i64 b2]] w fun e w' => e = .returned (.bool dC) ∧ Below w.heap.size w w' := by
  have p1 : Blk ((w.alloc (.cells #[.string L1, x1, y1, .int .i64 b1] 27)).alloc (.cells #[.string L2, x2, y2, .int .i64 b2] 27)) w.heap.size 27 #[.string L1, x1, y1, .int .i64 b1] := (Blk.made _ _ _).alloc _
  have p2 : Blk ((w.alloc (.cells #[.string L1, x1, y1, .int .i64 b1] 27)).alloc (.cells #[.string L2, x2, y2, .int .i64 b2] 27)) (w.heap.size + 1) 27 #[.string L2, x2, y2, .int .i64 b2] := by
    exact made2 _ _ _ _ _
  have hW : Below w.heap.size w ((w.alloc (.cells #[.string L1, x1, y1, .int .i64 b1] 27)).alloc (.cells #[.string L2, x2, y2, .int .i64 b2] 27)) := ((Below.refl _ _).alloc (Nat.le_refl _) _).alloc (by simp) _
  have HV := Shh.mk hV
  have HC := Shh.mk hC
  clear hV hC
  go_enter Try.func8, Try.ntmps8
  go_wp2_with fail
  generalize (w.alloc (.cells #[.string L1, x1, y1, .int .i64 b1] 27)).alloc (.cells #[.string L2, x2, y2, .int .i64 b2] 27) = w0 at *
  have HH := Shh.mk (And.intro (And.intro (h1.below hW) (h2.below hW)) (And.intro (h3.below hW) (h4.below hW)))
  have HK := Shh.mk (fun w' (hb : Below w0.heap.size w0 w') => twoSets p1 p2 hb)
  unfold TwoSets at HK
  have HW := Shh.mk hW
  clear p1 p2 h1 h2 h3 h4 hW
  go_region_held3 (fun w' => (w'.cell? ⟨w.heap.size, 0, none⟩ = some (.string L1) ∧ w'.cell? ⟨w.heap.size, 1, none⟩ = some x1 ∧ w'.cell? ⟨w.heap.size, 2, none⟩ = some y1 ∧ w'.cell? ⟨w.heap.size, 3, none⟩ = some (.int .i64 b1)) ∧
      (w'.cell? ⟨w.heap.size + 1, 0, none⟩ = some (.string L2) ∧ w'.cell? ⟨w.heap.size + 1, 1, none⟩ = some x2 ∧ w'.cell? ⟨w.heap.size + 1, 2, none⟩ = some y2 ∧ w'.cell? ⟨w.heap.size + 1, 3, none⟩ = some (.int .i64 b2)))
    (exact HK.out _ (by first | assumption | exact (Below.refl _ _).drew))
    (first
      | (go_at_call 15; refine (plainOf_on w0 _ _ _ _ _ (by first | assumption | exact (Below.refl _ _).drew)).mono ?_; rintro e w1 ⟨rfl, hb1⟩)
      | (go_at_call 16; with_reducible refine (slicesEqual_on w0 _ (by assumption) HH.out.1.1 HH.out.1.2 HV.out).mono ?_; rintro e w2 ⟨rfl, hb2⟩)
      | (go_at_call 16; with_reducible refine (slicesEqual_on w0 _ (by assumption) HH.out.2.1 HH.out.2.2 HC.out).mono ?_; rintro e w3 ⟨rfl, hb3⟩))
  all_goals
    go_wp2
    go_ret
    exact ⟨rfl, HW.out.trans (Below.mono (by assumption) HW.out.size)⟩

end Go.Proofs.Ytaipfampkgpnpaa
