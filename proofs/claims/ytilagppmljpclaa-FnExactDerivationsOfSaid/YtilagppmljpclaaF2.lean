/-
  The laws' helpers on affixes: sizes and copies.
-/
import Derived.Test.YtilagppmljpclaaC1
import Derived.Test.YtilagppmljpclaaK5
import Derived.Test.YtilagppmljpclaaT0
import Derived.Test.YtilagppmljpclaaF1
import Derived.Deep.QuietTactic
import Derived.BigQuiet
namespace Go.Proofs.Ytilagppmljpclaa
open Go.RowKit

set_option maxHeartbeats 1000000 in
theorem szAffix_any (f : Bool) (n w s a : ByteArray) (left : Int) (W : World) (hn : n.size ≤ maxLen) (hw : w.size ≤ maxLen) (hs : s.size ≤ maxLen) (ha : a.size ≤ maxLen) (h0 : 0 ≤ left) (h1 : left ≤ 1048576) :
    Calls Try.prog 120 #[.agg #[.string n, .bool f, .string w, .string s, .string a], .int .i64 left] W fun e w' => e = .returned (.int .i64 (szN left (n.size + w.size + s.size + a.size))) ∧ Below W.heap.size W w' := by
  unfold maxLen at hn hw hs ha
  by_cases hA : left - (n.size : Int) < 0
  · have HR := hid (szN_no (left := left) (n := n.size + w.size + s.size + a.size) (by omega))
    go_enter Try.func120, Try.ntmps120
    go_wp2
    go_ret
    exact ⟨ret_i64 HR.out.symm, (Below.refl _ _).alloc (Nat.le_refl _) _⟩
  · by_cases hB : left - (n.size : Int) - w.size < 0
    · have HR := hid (szN_no (left := left) (n := n.size + w.size + s.size + a.size) (by omega))
      go_enter Try.func120, Try.ntmps120
      go_wp2
      go_ret
      exact ⟨ret_i64 HR.out.symm, (Below.refl _ _).alloc (Nat.le_refl _) _⟩
    · by_cases hC : left - (n.size : Int) - w.size - s.size < 0
      · have HR := hid (szN_no (left := left) (n := n.size + w.size + s.size + a.size) (by omega))
        go_enter Try.func120, Try.ntmps120
        go_wp2
        go_ret
        exact ⟨ret_i64 HR.out.symm, (Below.refl _ _).alloc (Nat.le_refl _) _⟩
      · by_cases hD : left - (n.size : Int) - w.size - s.size - a.size < 0
        · have HR := hid (szN_no (left := left) (n := n.size + w.size + s.size + a.size) (by omega))
          go_enter Try.func120, Try.ntmps120
          go_wp2
          go_ret
          exact ⟨ret_i64 HR.out.symm, (Below.refl _ _).alloc (Nat.le_refl _) _⟩
        · have HR := hid ((szN_yes (left := left) (n := n.size + w.size + s.size + a.size) (by omega)).trans (show _ = left - (n.size : Int) - w.size - s.size - a.size by omega))
          go_enter Try.func120, Try.ntmps120
          go_wp2
          go_ret
          exact ⟨ret_i64 HR.out.symm, (Below.refl _ _).alloc (Nat.le_refl _) _⟩

set_option maxHeartbeats 1000000 in
theorem toAffix_any (f : Bool) (n w s a : ByteArray) (W : World) :
    Calls Try.prog 126 #[.agg #[.string n, .bool f, .string w, .string s, .string a]] W fun e w' => e = .returned (.agg #[.string n, .bool f, .string w, .string s, .string a]) ∧ Below W.heap.size W w' := by
  go_enter Try.func126, Try.ntmps126
  go_wp2
  have p1 := (Blk.made (W.alloc (.cells #[.string n, .bool f, .string w, .string s, .string a] 166)) 171 #[.string n, .bool f, .string w, .string s, .string a]).alloc (.cells #[.string n, .bool f, .string w, .string s, .string a] 171)
  simp only [World.size_alloc] at p1
  have c1 := p1.cells
  refine bodyPost_ret (v := .agg #[.string n, .bool f, .string w, .string s, .string a]) (by simp [results, Try.results126, go_sem, c1]) rfl ?_
  exact ⟨rfl, (((Below.refl _ _).alloc (Nat.le_refl _) _).alloc (by simp) _).alloc (by simp; omega) _⟩
end Go.Proofs.Ytilagppmljpclaa
