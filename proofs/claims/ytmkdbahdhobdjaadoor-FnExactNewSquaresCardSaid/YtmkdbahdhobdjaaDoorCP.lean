/-
  The laws' helpers on plays; TransposePlay of both sides.
-/
import Derived.Test.YtmkdbahdhobdjaaDoorBC
namespace Go.Proofs.YtmkdbahdhobdjaaDoor
open Go.RowKit

abbrev Pl := Int × Int × Bool × ByteArray
def plV (r k : Int) (d : Bool) (s : ByteArray) : Value := .agg #[.int .i64 r, .int .i64 k, .bool d, .string s]
theorem szPlay_big {left : Int} (r k : Int) (d : Bool) (s : ByteArray) (W : World) (hs : s.size ≤ maxLen) (h1 : left ≤ 1048576) (h2 : 0 ≤ left) (h : left < (s.size : Int)) :
    Calls Tryd.prog 27 #[.agg #[.int .i64 r, .int .i64 k, .bool d, .string s], .int .i64 left] W fun e w' => e = .returned (.int .i64 (-1)) ∧ Below W.heap.size W w' := by
  unfold maxLen at hs
  have hA : left - (s.size : Int) < 0 := by omega
  clear h
  go_enter Tryd.func27, Tryd.ntmps27
  go_wp2
  go_ret
  exact ⟨rfl, (Below.refl _ _).alloc (Nat.le_refl _) _⟩
theorem szPlay_fits {left : Int} (r k : Int) (d : Bool) (s : ByteArray) (W : World) (h1 : left ≤ 1048576) (h2 : 0 ≤ left) (h : ¬ left < (s.size : Int)) :
    Calls Tryd.prog 27 #[.agg #[.int .i64 r, .int .i64 k, .bool d, .string s], .int .i64 left] W fun e w' => e = .returned (.int .i64 (left - s.size)) ∧ Below W.heap.size W w' := by
  have hA : ¬ left - (s.size : Int) < 0 := by omega
  have hs : (s.size : Int) ≤ 1048576 := by omega
  clear h
  go_enter Tryd.func27, Tryd.ntmps27
  go_wp2
  go_ret
  exact ⟨rfl, (Below.refl _ _).alloc (Nat.le_refl _) _⟩
set_option maxHeartbeats 1000000 in
theorem toPlay_any (r k : Int) (d : Bool) (s : ByteArray) (W : World) :
    Calls Tryd.prog 29 #[.agg #[.int .i64 r, .int .i64 k, .bool d, .string s]] W fun e w' => e = .returned (.agg #[.int .i64 r, .int .i64 k, .bool d, .string s]) ∧ Below W.heap.size W w' := by
  go_enter Tryd.func29, Tryd.ntmps29
  go_wp2
  have p1 := (Blk.made (W.alloc (.cells #[.int .i64 r, .int .i64 k, .bool d, .string s] 41)) 44 #[.int .i64 r, .int .i64 k, .bool d, .string s]).alloc (.cells #[.int .i64 r, .int .i64 k, .bool d, .string s] 44)
  simp only [World.size_alloc] at p1
  have c1 := p1.cells
  refine bodyPost_ret (v := .agg #[.int .i64 r, .int .i64 k, .bool d, .string s]) (by simp [results, Tryd.results29, go_sem, c1]) rfl ?_
  exact ⟨rfl, (((Below.refl _ _).alloc (Nat.le_refl _) _).alloc (by simp) _).alloc (by simp; omega) _⟩
set_option maxHeartbeats 1000000 in
theorem l12Turn_any (r k : Int) (d : Bool) (s : ByteArray) (W : World) :
    Calls Tryd.prog 125 #[.agg #[.int .i64 r, .int .i64 k, .bool d, .string s]] W fun e w' => e = .returned (.agg #[.int .i64 k, .int .i64 r, .bool (!d), .string s]) ∧ Below W.heap.size W w' := by
  have hnot : ∀ (x : Bool) (w : World), (Op.unary .not (.bool x)).run Tryd.prog w = .ok (.bool (!x)) w := fun _ _ => rfl
  go_enter Tryd.func125, Tryd.ntmps125
  go_wp2
  have p1 := Blk.made (W.alloc (.cells #[.int .i64 r, .int .i64 k, .bool d, .string s] 44)) 44 #[.int .i64 k, .int .i64 r, .bool (!d), .string s]
  simp only [World.size_alloc] at p1
  have c1 := p1.cells
  refine bodyPost_ret (v := .agg #[.int .i64 k, .int .i64 r, .bool (!d), .string s]) (by simp [results, Tryd.results125, go_sem, c1]) rfl ?_
  exact ⟨rfl, ((Below.refl _ _).alloc (Nat.le_refl _) _).alloc (by simp) _⟩
end Go.Proofs.YtmkdbahdhobdjaaDoor
