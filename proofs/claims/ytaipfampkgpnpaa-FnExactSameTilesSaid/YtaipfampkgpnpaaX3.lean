/-
  SameTiles: the program's answer, where the letters are the same and the blanks differ.
-/
import Derived.Test.YtaipfampkgpnpaaX1
namespace Go.Proofs.Ytaipfampkgpnpaa
open Go.ChangeShapes Go.WideShapes Go.ChangeAt Go.RowKit Go.Joins

set_option maxRecDepth 100000 in
set_option maxHeartbeats 8000000 in
theorem implSame_blanks {dV dC : Bool} (L1 L2 : ByteArray) {x1 x2 y1 y2 : Value} {v1 v2 c1 c2 : List Int} (b1 b2 : Int) (w : World) (hV : decide (v1 = v2) = dV) (hC : decide (c1 = c2) = dC) (hL : (L1.toList == L2.toList) = true) (hb : (b1 == b2) = false)
    (h1 : Ints .i64 w x1 v1) (h2 : Ints .i64 w x2 v2) (h3 : Ints .i64 w y1 c1) (h4 : Ints .i64 w y2 c2) :
    Calls Try.prog 8 #[.agg #[.string L1, x1, y1, .int .i64 b1], .agg #[.string L2, x2, y2, .int .i64 b2]] w fun e w' => e = .returned (.bool false) ∧ Below w.heap.size w w' := by
  have p1 : Blk ((w.alloc (.cells #[.string L1, x1, y1, .int .i64 b1] 27)).alloc (.cells #[.string L2, x2, y2, .int .i64 b2] 27)) w.heap.size 27 #[.string L1, x1, y1, .int .i64 b1] := (Blk.made _ _ _).alloc _
  have p2 : Blk ((w.alloc (.cells #[.string L1, x1, y1, .int .i64 b1] 27)).alloc (.cells #[.string L2, x2, y2, .int .i64 b2] 27)) (w.heap.size + 1) 27 #[.string L2, x2, y2, .int .i64 b2] := by
    exact made2 _ _ _ _ _
  have hW : Below w.heap.size w ((w.alloc (.cells #[.string L1, x1, y1, .int .i64 b1] 27)).alloc (.cells #[.string L2, x2, y2, .int .i64 b2] 27)) := ((Below.refl _ _).alloc (Nat.le_refl _) _).alloc (by simp) _
  have HV := hid hV
  have HC := hid hC
  clear hV hC
  go_enter Try.func8, Try.ntmps8
  go_wp2_with fail
  generalize (w.alloc (.cells #[.string L1, x1, y1, .int .i64 b1] 27)).alloc (.cells #[.string L2, x2, y2, .int .i64 b2] 27) = w0 at *
  have h1 := h1.below hW
  have h2 := h2.below hW
  have h3 := h3.below hW
  have h4 := h4.below hW
  have q1 := p1.cells
  have q2 := p2.cells
  have HK := hid (fun w' (hb : Below w0.heap.size w0 w') => And.intro (p1.kept hb p1.lt).cells (p2.kept hb p2.lt).cells)
  clear p1 p2
  first | go_region_with (first
      | (go_at_call 15; refine (plainOf_on w0 _ _ _ _ _ (by first | assumption | exact (Below.refl _ _).drew)).mono ?_; rintro e w1 ⟨rfl, hb1⟩; obtain ⟨k1, k2⟩ := HK.out _ hb1)
      | (go_at_call 16; refine (slicesEqual_on w0 _ (by assumption) h1 h2 HV.out).mono ?_; rintro e w2 ⟨rfl, hb2⟩; obtain ⟨k3, k4⟩ := HK.out _ hb2)
      | (go_at_call 16; refine (slicesEqual_on w0 _ (by assumption) h3 h4 HC.out).mono ?_; rintro e w3 ⟨rfl, hb3⟩; obtain ⟨k5, k6⟩ := HK.out _ hb3)) | fail
  all_goals
    go_wp2
    go_ret
    first | exact ⟨rfl, hW.trans (hb3.mono hW.size)⟩ | exact ⟨rfl, hW.trans (hb2.mono hW.size)⟩ | exact ⟨rfl, hW.trans (hb1.mono hW.size)⟩

end Go.Proofs.Ytaipfampkgpnpaa
