/-
  The text of a grammar: the model's function; the lines as joined lists.
-/
import Derived.Test.YtpdphimlpeiifaaHJ
import Derived.Test.YtpdphimlpeiifaaHL
import Derived.Lib.Join
namespace Go.Proofs.Ytpdphimlpeiifaa
open Go.RowKit

/-- The text that the document gives a grammar: none, where the grammar is not valid. -/
def gText (xs : List Aff) (ss : List Stm) : List UInt8 := if okG xs ss = true then gramL xs ss else []
theorem gText_yes {xs : List Aff} {ss : List Stm} (h : okG xs ss = true) : gText xs ss = gramL xs ss := if_pos h
theorem gText_no {xs : List Aff} {ss : List Stm} (h : okG xs ss = false) : gText xs ss = [] := if_neg (by rw [h]; decide)
theorem gText_len {xs : List Aff} {ss : List Stm} (h : gramW xs ss ≤ 1048576) : (gText xs ss).length ≤ 200000000 := by
  unfold gText gramL
  split
  · have h1 := affText_bound h (Nat.le_refl xs.length)
    have h2 := stmText_bound h (Nat.le_refl ss.length)
    rw [List.length_append]
    omega
  · simp

set_option maxHeartbeats 1000000 in
theorem specGrammarText_any {va vs : Value} {xs : List Aff} {ss : List Stm} (W : World) (hg : Gram W va vs xs ss) (hx : ∀ x ∈ xs, AffFine x) (hs : ∀ x ∈ ss, StmFine x) (hsz : gramW xs ss ≤ 1048576) :
    Calls Try.prog 44 #[.agg #[va, vs]] W fun e w' => e = .returned (.string (txt (gText xs ss))) ∧ Below W.heap.size W w' := by
  have HG := Shh.mk (show GramAt (W.alloc (.cells #[va, vs] 46)) W.heap.size va vs xs ss from ⟨Blk.made W _ _, hg.alloc _⟩)
  obtain ⟨⟨aa, ac, rfl, -⟩, ⟨sa, sc, rfl, -⟩⟩ := hg
  obtain ⟨t, htt⟩ : ∃ t, okG xs ss = t := ⟨_, rfl⟩
  have HT := Shh.mk htt
  cases t
  · have HE := Shh.mk (gText_no htt)
    clear htt
    go_enter Try.func44, Try.ntmps44
    go_wp2_with fail
    refine (l04Ok_any _ HG.out hx hs).mono ?_
    rw [HT.out]
    rintro e w1 ⟨rfl, k, rfl⟩
    go_wp2
    go_ret
    exact ⟨by rw [HE.out]; rfl, below_drewN ((Below.refl _ _).alloc (Nat.le_refl _) _) _⟩
  · have HE := Shh.mk (gText_yes htt)
    clear htt
    go_enter Try.func44, Try.ntmps44
    go_wp2_with fail
    refine (l04Ok_any _ HG.out hx hs).mono ?_
    rw [HT.out]
    rintro e w1 ⟨rfl, k, rfl⟩
    go_wp2_with fail
    refine (l04Text_any _ (HG.out.drewN k) hsz).mono ?_
    rintro e w2 ⟨rfl, m, rfl⟩
    go_wp2
    go_ret
    exact ⟨by rw [HE.out]; rfl, below_drewN ((Below.refl _ _).alloc (Nat.le_refl _) _) _⟩

/-! ### The lines as joins -/
theorem aff_join {n s1 P1 P2 P3 : ByteArray} {x : Aff} (hn : x.n = n) (h0 : txt (sideL x.f) = s1) (h1 : txt (partL x.w) = P1) (h2 : txt (partL x.s) = P2) (h3 : txt (partL x.a) = P3) :
    ∃ T, Lib.join (([⟨#[97, 102, 102, 105, 120]⟩, n, s1, P1, P2, P3] : List ByteArray).map (·.data.toList)) [32] = T ∧ T ++ [10] = affLine x ∧ T.length ≤ affW x + 30 := by
  subst hn h0 h1 h2 h3
  refine ⟨_, rfl, ?_, ?_⟩
  · simp [Lib.join_cons, Lib.joinTail, affLine, txt_list]
  · have h := affLine_len x
    refine Nat.le_trans ?_ h
    simp [Lib.join_cons, Lib.joinTail, affLine, txt_list]
    try omega
theorem uses_tail (us : List ByteArray) : ∀ k, k ≤ us.length → Lib.joinTail [32] ((us.map (·.data.toList)).take k) = usesL us k
  | 0, _ => by simp [Lib.joinTail, usesL]
  | k + 1, h => by
    have ih := uses_tail us k (by omega)
    have hk : (us.map (·.data.toList))[k]? = some (strAt us k).data.toList := by
      unfold strAt
      simp [List.getD_eq_getElem?_getD, List.getElem?_eq_getElem (show k < us.length by omega)]
    rw [Lib.joinTail_take_succ [32] _ k _ hk, ih]
    rw [List.append_assoc]
    rfl
theorem stm_join (x : Stm) : ∃ T, Lib.join (([⟨#[115, 116, 101, 109]⟩, x.word] ++ x.uses : List ByteArray).map (·.data.toList)) [32] = T ∧ T ++ [10] = stmLine x ∧ T.length ≤ stmW x + 6 := by
  have ht := uses_tail x.uses x.uses.length (Nat.le_refl _)
  rw [List.take_of_length_le (by simp)] at ht
  have he : Lib.join (([⟨#[115, 116, 101, 109]⟩, x.word] ++ x.uses : List ByteArray).map (·.data.toList)) [32] = [115, 116, 101, 109, 32] ++ x.word.data.toList ++ usesL x.uses x.uses.length := by
    rw [← ht]
    simp [Lib.join_cons, Lib.joinTail]
  refine ⟨_, he, rfl, ?_⟩
  have h := stmLine_len x
  unfold stmLine at h
  simp only [List.length_append, List.length_cons, List.length_nil] at h ⊢
  omega
end Go.Proofs.Ytpdphimlpeiifaa
