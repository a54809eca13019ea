/-
  Equal boards: SameBoard of both sides.
-/
import Derived.Test.YtmkdbahdhobdjaaDoorBC
namespace Go.Proofs.YtmkdbahdhobdjaaDoor
open Go.RowKit

def sameBd (n : Int) (p c : ByteArray) (m : Int) (q d : ByteArray) : Bool := (n == m) && ((p.toList == q.toList) && (c.toList == d.toList))
theorem below_two {W : World} (o1 o2 : Obj) : Below W.heap.size W ((W.alloc o1).alloc o2) := ((Below.refl _ _).alloc (Nat.le_refl _) _).alloc (by simp) _
theorem toBoard_on (n : Int) (p c : ByteArray) (w0 W : World) (hb : Below w0.heap.size w0 W) :
    Calls Tryd.prog 15 #[.agg #[.int .i64 n, .string p, .string c]] W fun e w' => e = .returned (.agg #[.int .i64 n, .string p, .string c]) ∧ Below w0.heap.size w0 w' :=
  (toBoard_any n p c W).mono fun _ _ ⟨h1, h2⟩ => ⟨h1, hb.trans (h2.mono hb.size)⟩
/-- What the six cells of two boards hold. -/
def TwoB (b1 b2 : Nat) (n : Int) (p c : ByteArray) (m : Int) (q d : ByteArray) (w : World) : Prop :=
  (w.cell? ⟨b1, 0, none⟩ = some (.int .i64 n) ∧ w.cell? ⟨b1, 1, none⟩ = some (.string p) ∧ w.cell? ⟨b1, 2, none⟩ = some (.string c)) ∧ (w.cell? ⟨b2, 0, none⟩ = some (.int .i64 m) ∧ w.cell? ⟨b2, 1, none⟩ = some (.string q) ∧ w.cell? ⟨b2, 2, none⟩ = some (.string d))
theorem twoB {b1 b2 : Nat} {t1 t2 : TypeId} {n : Int} {p c : ByteArray} {m : Int} {q d : ByteArray} {w w' : World} (p1 : Blk w b1 t1 #[.int .i64 n, .string p, .string c]) (p2 : Blk w b2 t2 #[.int .i64 m, .string q, .string d]) (hb : Below w.heap.size w w') : TwoB b1 b2 n p c m q d w' := by
  have q1 := (p1.kept hb p1.lt).cells
  have q2 := (p2.kept hb p2.lt).cells
  exact ⟨⟨q1 0, q1 1, q1 2⟩, ⟨q2 0, q2 1, q2 2⟩⟩
end Go.Proofs.YtmkdbahdhobdjaaDoor
