/-
  The laws' helpers on plays; TransposePlay of both sides.
-/
import Derived.Test.YtmkdbahdhobdjaaBC
namespace Go.Proofs.Ytmkdbahdhobdjaa
open Go.RowKit

abbrev Pl := Int × Int × Bool × ByteArray
def plV (r k : Int) (d : Bool) (s : ByteArray) : Value := .agg #[.int .i64 r, .int .i64 k, .bool d, .string s]
theorem szPlay_big {left : Int} (r k : Int) (d : Bool) (s : ByteArray) (W : World) (hs : s.size ≤ maxLen) (h1 : left ≤ 1048576) (h2 : 0 ≤ left) (h : left < (s.size : Int)) :
    Calls Try.prog 44 #[.agg #[.int .i64 r, .int .i64 k, .bool d, .string s], .int .i64 left] W fun e w' => e = .returned (.int .i64 (-1)) ∧ Below W.heap.size W w' := by
  unfold maxLen at hs
  have hA : left - (s.size : Int) < 0 := by omega
  clear h
  go_enter Try.func44, Try.ntmps44
  go_wp2
  go_ret
  exact ⟨rfl, (Below.refl _ _).alloc (Nat.le_refl _) _⟩
theorem szPlay_fits {left : Int} (r k : Int) (d : Bool) (s : ByteArray) (W : World) (h1 : left ≤ 1048576) (h2 : 0 ≤ left) (h : ¬ left < (s.size : Int)) :
    Calls Try.prog 44 #[.agg #[.int .i64 r, .int .i64 k, .bool d, .string s], .int .i64 left] W fun e w' => e = .returned (.int .i64 (left - s.size)) ∧ Below W.heap.size W w' := by
  have hA : ¬ left - (s.size : Int) < 0 := by omega
  have hs : (s.size : Int) ≤ 1048576 := by omega
  clear h
  go_enter Try.func44, Try.ntmps44
  go_wp2
  go_ret
  exact ⟨rfl, (Below.refl _ _).alloc (Nat.le_refl _) _⟩
set_option maxHeartbeats 1000000 in
theorem toPlay_any (r k : Int) (d : Bool) (s : ByteArray) (W : World) :
    Calls Try.prog 46 #[.agg #[.int .i64 r, .int .i64 k, .bool d, .string s]] W fun e w' => e = .returned (.agg #[.int .i64 r, .int .i64 k, .bool d, .string s]) ∧ Below W.heap.size W w' := by
  go_enter Try.func46, Try.ntmps46
  go_wp2
  have p1 := (Blk.made (W.alloc (.cells #[.int .i64 r, .int .i64 k, .bool d, .string s] 54)) 56 #[.int .i64 r, .int .i64 k, .bool d, .string s]).alloc (.cells #[.int .i64 r, .int .i64 k, .bool d, .string s] 56)
  simp only [World.size_alloc] at p1
  have c1 := p1.cells
  refine bodyPost_ret (v := .agg #[.int .i64 r, .int .i64 k, .bool d, .string s]) (by simp [results, Try.results46, go_sem, c1]) rfl ?_
  exact ⟨rfl, (((Below.refl _ _).alloc (Nat.le_refl _) _).alloc (by simp) _).alloc (by simp; omega) _⟩
set_option maxHeartbeats 1000000 in
theorem eqPlay_same (r k : Int) (d : Bool) (s : ByteArray) (W : World) :
    Calls Try.prog 48 #[.agg #[.int .i64 r, .int .i64 k, .bool d, .string s], .agg #[.int .i64 r, .int .i64 k, .bool d, .string s]] W fun e w' => e = .returned (.bool true) ∧ Below W.heap.size W w' := by
  have hdd : (d != d) = false := by cases d <;> rfl
  have hss : (s.toList != s.toList) = false := by simp
  go_enter Try.func48, Try.ntmps48
  go_wp2
  go_ret
  exact ⟨rfl, ((Below.refl _ _).alloc (Nat.le_refl _) _).alloc (by simp) _⟩
set_option maxHeartbeats 1000000 in
theorem l12Turn_any (r k : Int) (d : Bool) (s : ByteArray) (W : World) :
    Calls Try.prog 102 #[.agg #[.int .i64 r, .int .i64 k, .bool d, .string s]] W fun e w' => e = .returned (.agg #[.int .i64 k, .int .i64 r, .bool (!d), .string s]) ∧ Below W.heap.size W w' := by
  have hnot : ∀ (x : Bool) (w : World), (Op.unary .not (.bool x)).run Try.prog w = .ok (.bool (!x)) w := fun _ _ => rfl
  go_enter Try.func102, Try.ntmps102
  go_wp2
  have p1 := Blk.made (W.alloc (.cells #[.int .i64 r, .int .i64 k, .bool d, .string s] 56)) 56 #[.int .i64 k, .int .i64 r, .bool (!d), .string s]
  simp only [World.size_alloc] at p1
  have c1 := p1.cells
  refine bodyPost_ret (v := .agg #[.int .i64 k, .int .i64 r, .bool (!d), .string s]) (by simp [results, Try.results102, go_sem, c1]) rfl ?_
  exact ⟨rfl, ((Below.refl _ _).alloc (Nat.le_refl _) _).alloc (by simp) _⟩
set_option maxHeartbeats 1000000 in
theorem specTransposePlay_any (r k : Int) (d : Bool) (s : ByteArray) (W : World) :
    Calls Try.prog 45 #[.agg #[.int .i64 r, .int .i64 k, .bool d, .string s]] W fun e w' => e = .returned (.agg #[.int .i64 k, .int .i64 r, .bool (!d), .string s]) ∧ Below W.heap.size W w' := by
  have hA : Below W.heap.size W (W.alloc (.cells #[.int .i64 r, .int .i64 k, .bool d, .string s] 56)) := (Below.refl _ _).alloc (Nat.le_refl _) _
  have HB := ShO.mk (hA.alloc (by simp) (.cells #[.int .i64 0, .int .i64 0, .bool false, .string ⟨#[]⟩] 56))
  have hr0 := Blk.made (W.alloc (.cells #[.int .i64 r, .int .i64 k, .bool d, .string s] 56)) 56 #[.int .i64 0, .int .i64 0, .bool false, .string ⟨#[]⟩]
  rw [World.size_alloc] at hr0
  have HR := ShO.mk hr0
  clear hA hr0
  go_enter Try.func45, Try.ntmps45
  go_wp2_with fail
  refine (l12Turn_any r k d s _).mono ?_
  rintro e w1 ⟨rfl, hb1⟩
  have HB1 := ShO.mk (HB.out.trans (hb1.mono HB.out.size))
  have HR1 := HR.out.kept hb1 HR.out.lt
  have c0 := HR1.cells
  have f0 := HR1.marks
  clear hb1
  go_wp2
  refine bodyPost_ret (v := .agg #[.int .i64 k, .int .i64 r, .bool (!d), .string s]) (by simp [results, Try.results45, go_sem, c0]) rfl ?_
  exact ⟨rfl, (((HB1.out.setCell (p := ⟨W.heap.size + 1, 0, none⟩) (Nat.le_succ _) _).setCell (p := ⟨W.heap.size + 1, 1, none⟩) (Nat.le_succ _) _).setCell (p := ⟨W.heap.size + 1, 2, none⟩) (Nat.le_succ _) _).setCell (p := ⟨W.heap.size + 1, 3, none⟩) (Nat.le_succ _) _⟩
set_option maxHeartbeats 1000000 in
theorem implTransposePlay_any (r k : Int) (d : Bool) (s : ByteArray) (W : World) :
    Calls Try.prog 47 #[.agg #[.int .i64 r, .int .i64 k, .bool d, .string s]] W fun e w' => e = .returned (.agg #[.int .i64 k, .int .i64 r, .bool (!d), .string s]) ∧ Below W.heap.size W w' := by
  have hnot : ∀ (x : Bool) (w : World), (Op.unary .not (.bool x)).run Try.prog w = .ok (.bool (!x)) w := fun _ _ => rfl
  go_enter Try.func47, Try.ntmps47
  go_wp2
  have p1 := Blk.made (W.alloc (.cells #[.int .i64 r, .int .i64 k, .bool d, .string s] 56)) 56 #[.int .i64 k, .int .i64 r, .bool (!d), .string s]
  simp only [World.size_alloc] at p1
  have c1 := p1.cells
  refine bodyPost_ret (v := .agg #[.int .i64 k, .int .i64 r, .bool (!d), .string s]) (by simp [results, Try.results47, go_sem, c1]) rfl ?_
  exact ⟨rfl, ((Below.refl _ _).alloc (Nat.le_refl _) _).alloc (by simp) _⟩
end Go.Proofs.Ytmkdbahdhobdjaa
