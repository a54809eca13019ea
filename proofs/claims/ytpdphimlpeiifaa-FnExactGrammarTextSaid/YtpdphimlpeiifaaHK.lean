/-
  The text of a grammar: the program's lines.
-/
import Derived.Test.YtpdphimlpeiifaaHI
import Derived.Test.YtpdphimlpeiifaaShelfI
namespace Go.Proofs.Ytpdphimlpeiifaa
open Go.RowKit

set_option maxHeartbeats 400000 in
theorem partText_any (s : ByteArray) (w : World) : Calls Try.prog 99 #[.string s] w fun e w' => e = .returned (.string (txt (partL s))) ∧ w = w' := by
  rcases Nat.eq_zero_or_pos s.size with h0 | h0
  · have hE := empty_yes h0
    have HR := Shh.mk (show partL s = [45] from if_pos h0)
    clear h0
    go_enter Try.func99, Try.ntmps99
    go_wp2
    go_ret
    exact ⟨by rw [HR.out]; rfl, rfl⟩
  · have hE := empty_no h0
    have HR := Shh.mk (show txt (partL s) = s by rw [show partL s = s.data.toList from if_neg (by omega)]; exact txt_of s)
    clear h0
    rw [HR.out]
    go_enter Try.func99, Try.ntmps99
    go_wp2
    go_ret
    exact ⟨rfl, rfl⟩
theorem ptext_is {s P : ByteArray} (h : txt (partL s) = P) (w : World) : Calls Try.prog 99 #[.string s] w fun e w' => e = .returned (.string P) ∧ w = w' := by rw [← h]; exact partText_any s w

/-- A join is at least as long as it has parts, but for one. -/
theorem join_long : ∀ (l : List (List UInt8)), l.length ≤ (Lib.join l [32]).length + 1
  | [] => by simp
  | [x] => by simp
  | x :: y :: r => by
    have ih := join_long (y :: r)
    have e : Lib.join (x :: y :: r) [32] = x ++ [32] ++ Lib.join (y :: r) [32] := by first | rfl | simp [Lib.join]
    rw [e]
    simp only [List.length_append, List.length_cons, List.length_nil] at ih ⊢
    omega
theorem join_strs {v : Value} {xs : List ByteArray} {T : List UInt8} (W : World) (h : Strs W v xs) (h0 : 0 < xs.length) (hT : Lib.join (xs.map (·.data.toList)) [32] = T) (hlen : T.length ≤ 1000000000) :
    Calls Try.prog 132 #[v, .string ⟨#[32]⟩] W fun e w' => e = .returned (.string (txt T)) ∧ Below W.heap.size W w' := by
  subst hT
  obtain ⟨a, cap, rfl, h1, h2, h3⟩ := h
  obtain ⟨b, off, rfl, h4, h5⟩ := h3 h0
  by_cases hn : xs.length ≤ 140737488355328
  · exact Try.strings_Join b off cap xs ⟨#[32]⟩ W (fun j x hj => by
      have hjl : j < xs.length := by
        rcases Nat.lt_or_ge j xs.length with h | h
        · exact h
        · rw [List.getElem?_eq_none h] at hj; cases hj
      rw [h5 j hjl]
      unfold strAt
      rw [List.getD_eq_getElem?_getD, hj]
      rfl) h4 hn h1 (Nat.le_trans hlen (by decide))
  · exfalso
    have := join_long (xs.map (·.data.toList))
    simp only [List.length_map] at this
    omega
set_option maxHeartbeats 1000000 in
theorem lineOf_any {v : Value} {xs : List ByteArray} {T : List UInt8} (W : World) (h : Strs W v xs) (h0 : 0 < xs.length) (hT : Lib.join (xs.map (·.data.toList)) [32] = T) (hlen : T.length ≤ 1000000000) :
    Calls Try.prog 98 #[v] W fun e w' => e = .returned (.string (txt (T ++ [10]))) ∧ Below W.heap.size W w' := by
  have HJ := Shh.mk (join_strs W h h0 hT hlen)
  have hz : (txt T).size ≤ 1000000000 := by rw [txt_size]; exact hlen
  have hcat : txt T ++ (⟨#[10]⟩ : ByteArray) = txt (T ++ [10]) := by
    apply Go.WideShapes.bytes_inj
    simp [txt]
  obtain ⟨a, cap, rfl, -⟩ := h
  obtain ⟨TT, hTT⟩ : ∃ TT, txt T = TT := ⟨_, rfl⟩
  rw [hTT] at HJ hz hcat
  have HCAT := Shh.mk hcat
  clear hTT hcat
  go_enter Try.func98, Try.ntmps98
  go_wp2_with fail
  refine HJ.out.mono ?_
  rintro e w1 ⟨rfl, hb1⟩
  go_wp2
  go_ret
  exact ⟨congrArg (fun x => Ending.returned (.string x)) HCAT.out, hb1⟩
end Go.Proofs.Ytpdphimlpeiifaa
