/-
  A board and a play held in a law's frame; contracts told from an earlier world.
-/
import Derived.Test.YtmkdbahdhobdjaaDoorBI
import Derived.Test.YtmkdbahdhobdjaaDoorCP
namespace Go.Proofs.YtmkdbahdhobdjaaDoor
open Go.RowKit

theorem callsB {P : Program} {f : FuncId} {args : Array Value} {e0 : Ending} {w0 W : World} (hb : Below w0.heap.size w0 W)
    (h : Calls P f args W fun e w' => e = e0 ∧ Below W.heap.size W w') : Calls P f args W fun e w' => e = e0 ∧ Below w0.heap.size w0 w' :=
  h.mono fun _ _ ⟨h1, h2⟩ => ⟨h1, hb.trans (h2.mono hb.size)⟩
theorem toPlay_on (r k : Int) (d : Bool) (s : ByteArray) (w0 W : World) (hb : Below w0.heap.size w0 W) :
    Calls Tryd.prog 29 #[.agg #[.int .i64 r, .int .i64 k, .bool d, .string s]] W fun e w' => e = .returned (.agg #[.int .i64 r, .int .i64 k, .bool d, .string s]) ∧ Below w0.heap.size w0 w' :=
  (toPlay_any r k d s W).mono fun _ _ ⟨h1, h2⟩ => ⟨h1, hb.trans (h2.mono hb.size)⟩
/-- What the cells of a board and a play hold. -/
def BoPl (b1 b2 : Nat) (n : Int) (p c : ByteArray) (r k : Int) (d : Bool) (s : ByteArray) (w : World) : Prop :=
  (w.cell? ⟨b1, 0, none⟩ = some (.int .i64 n) ∧ w.cell? ⟨b1, 1, none⟩ = some (.string p) ∧ w.cell? ⟨b1, 2, none⟩ = some (.string c)) ∧ (w.cell? ⟨b2, 0, none⟩ = some (.int .i64 r) ∧ w.cell? ⟨b2, 1, none⟩ = some (.int .i64 k) ∧ w.cell? ⟨b2, 2, none⟩ = some (.bool d) ∧ w.cell? ⟨b2, 3, none⟩ = some (.string s))
theorem boPl {b1 b2 : Nat} {t1 t2 : TypeId} {n : Int} {p c : ByteArray} {r k : Int} {d : Bool} {s : ByteArray} {w w' : World} (p1 : Blk w b1 t1 #[.int .i64 n, .string p, .string c]) (p2 : Blk w b2 t2 #[.int .i64 r, .int .i64 k, .bool d, .string s]) (hb : Below w.heap.size w w') : BoPl b1 b2 n p c r k d s w' := by
  have q1 := (p1.kept hb p1.lt).cells
  have q2 := (p2.kept hb p2.lt).cells
  exact ⟨⟨q1 0, q1 1, q1 2⟩, ⟨q2 0, q2 1, q2 2, q2 3⟩⟩
theorem callsB2 {P : Program} {f : FuncId} {args : Array Value} {e0 : Ending} {w0 W : World} (hb : Below w0.heap.size w0 W)
    (h : Calls P f args W fun e w' => e = e0 ∧ Below W.heap.size W w') : Calls P f args W fun e w' => e = e0 ∧ Below w0.heap.size w0 w' ∧ Below W.heap.size W w' :=
  h.mono fun _ _ ⟨h1, h2⟩ => ⟨h1, hb.trans (h2.mono hb.size), h2⟩
/-- A board's variable made ahead of a call. -/
theorem made_boardP {w X y : World} (hX : (w.alloc (.cells #[.int .i64 0, .string ⟨#[]⟩, .string ⟨#[]⟩] 27)) = X ∨ (w.alloc (.cells #[.int .i64 0, .string ⟨#[]⟩, .string ⟨#[]⟩] 27)).drew = X) (hb : Below X.heap.size X y) :
    Blk y w.heap.size 27 #[.int .i64 0, .string ⟨#[]⟩, .string ⟨#[]⟩] := by
  rcases hX with rfl | rfl
  · exact (Blk.made w _ _).kept hb (by simp)
  · exact (Blk.drew (Blk.made w _ _)).kept hb (Blk.drew (Blk.made w _ _)).lt
theorem Blk.threeP {w : World} {g : Nat} {t : TypeId} {y0 y1 y2 : Value} (h : Blk w g t #[y0, y1, y2]) (x0 x1 x2 : Value) : Blk (((w.setCell ⟨g, 0, none⟩ x0).setCell ⟨g, 1, none⟩ x1).setCell ⟨g, 2, none⟩ x2) g t #[x0, x1, x2] :=
  ((h.stored 0 x0).stored 1 x1).stored 2 x2
end Go.Proofs.YtmkdbahdhobdjaaDoor
