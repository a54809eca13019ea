/-
  What a valid board is: the model's and the program's functions; the laws' helpers on boards.
-/
import Derived.Test.YtmkdbahdhobdjaaDoorBA
import Derived.Test.YtmkdbahdhobdjaaDoorC1
import Derived.Test.YtmkdbahdhobdjaaDoorK
namespace Go.Proofs.YtmkdbahdhobdjaaDoor
open Go.RowKit

set_option maxHeartbeats 400000 in
theorem capitalO_any (c : Int) (w : World) : Calls Tryd.prog 100 #[.int .i32 c] w fun e w' => e = .returned (.bool (bigB c)) ∧ w = w' := by
  by_cases h1 : 65 ≤ c
  · by_cases h2 : c ≤ 90
    · rw [bigB_iff.2 ⟨h1, h2⟩]
      go_enter Tryd.func100, Tryd.ntmps100
      go_wp2
      go_ret
      exact ⟨rfl, rfl⟩
    · rw [bigB_no (fun h => h2 h.2)]
      go_enter Tryd.func100, Tryd.ntmps100
      go_wp2
      go_ret
      exact ⟨rfl, rfl⟩
  · rw [bigB_no (fun h => h1 h.1)]
    go_enter Tryd.func100, Tryd.ntmps100
    go_wp2
    go_ret
    exact ⟨rfl, rfl⟩
set_option maxHeartbeats 400000 in
theorem l03CapitalO_any (c : Int) (w : World) : Calls Tryd.prog 85 #[.int .u8 c] w fun e w' => e = .returned (.bool (bigB c)) ∧ w = w' := by
  by_cases h1 : 65 ≤ c
  · by_cases h2 : c ≤ 90
    · rw [bigB_iff.2 ⟨h1, h2⟩]
      go_enter Tryd.func85, Tryd.ntmps85
      go_wp2
      go_ret
      exact ⟨rfl, rfl⟩
    · rw [bigB_no (fun h => h2 h.2)]
      go_enter Tryd.func85, Tryd.ntmps85
      go_wp2
      go_ret
      exact ⟨rfl, rfl⟩
  · rw [bigB_no (fun h => h1 h.1)]
    go_enter Tryd.func85, Tryd.ntmps85
    go_wp2
    go_ret
    exact ⟨rfl, rfl⟩
theorem isLetter_any (c : Int) (w : World) : Calls Tryd.prog 135 #[.int .i32 c] w fun e w' => e = .returned (.bool (ltrI c)) ∧ w = w' := by
  cases hb : smallB c
  · have HB := ShO.mk hb
    have HR := ShO.mk (show ltrI c = bigB c by unfold ltrI; rw [hb]; rfl)
    clear hb
    go_enter Tryd.func135, Tryd.ntmps135
    go_wp2_with (first
      | (go_at_call 157; refine (isSmall_any _ _).mono ?_; rw [HB.out]; rintro e w' ⟨rfl, rfl⟩)
      | (go_at_call 100; refine (capitalO_any _ _).mono ?_; rintro e w' ⟨rfl, rfl⟩))
    go_ret
    exact ⟨ret_bool HR.out.symm, rfl⟩
  · have HB := ShO.mk hb
    have HR := ShO.mk (show ltrI c = true by unfold ltrI; rw [hb]; rfl)
    clear hb
    go_enter Tryd.func135, Tryd.ntmps135
    go_wp2_with (first
      | (go_at_call 157; refine (isSmall_any _ _).mono ?_; rw [HB.out]; rintro e w' ⟨rfl, rfl⟩))
    go_ret
    exact ⟨ret_bool HR.out.symm, rfl⟩
theorem isFree_any (c : Int) (w : World) : Calls Tryd.prog 106 #[.int .i32 c] w fun e w' => e = .returned (.bool (c == 46)) ∧ w = w' := by
  go_enter Tryd.func106, Tryd.ntmps106
  go_wp2
  go_ret
  exact ⟨rfl, rfl⟩
theorem isCell_any (c : Int) (w : World) : Calls Tryd.prog 90 #[.int .i32 c] w fun e w' => e = .returned (.bool (cellI c)) ∧ w = w' := by
  by_cases h : c = 46
  · have HB := ShO.mk (show (c == 46) = true from beq_iff_eq.2 h)
    have HR := ShO.mk (show cellI c = true by unfold cellI; rw [decide_eq_true h]; rfl)
    clear h
    go_enter Tryd.func90, Tryd.ntmps90
    go_wp2_with (first
      | (go_at_call 106; refine (isFree_any _ _).mono ?_; rw [HB.out]; rintro e w' ⟨rfl, rfl⟩))
    go_ret
    exact ⟨ret_bool HR.out.symm, rfl⟩
  · have HB := ShO.mk (show (c == 46) = false from beq_eq_false_iff_ne.2 h)
    have HR := ShO.mk (show cellI c = ltrI c by unfold cellI; rw [decide_eq_false h]; rfl)
    clear h
    go_enter Tryd.func90, Tryd.ntmps90
    go_wp2_with (first
      | (go_at_call 106; refine (isFree_any _ _).mono ?_; rw [HB.out]; rintro e w' ⟨rfl, rfl⟩)
      | (go_at_call 135; refine (isLetter_any _ _).mono ?_; rintro e w' ⟨rfl, rfl⟩))
    go_ret
    exact ⟨ret_bool HR.out.symm, rfl⟩
theorem l11Cell_any (c : Int) (w : World) : Calls Tryd.prog 83 #[.int .u8 c] w fun e w' => e = .returned (.bool (cellI c)) ∧ w = w' := by
  by_cases h : c = 46
  · have e1 : (c == 46) = true := beq_iff_eq.2 h
    have HR := ShO.mk (show cellI c = true by unfold cellI; rw [decide_eq_true h]; rfl)
    clear h
    go_enter Tryd.func83, Tryd.ntmps83
    go_wp2
    go_ret
    exact ⟨ret_bool HR.out.symm, rfl⟩
  · have e1 : (c == 46) = false := beq_eq_false_iff_ne.2 h
    have HR := ShO.mk (show cellI c = ltrI c by unfold cellI; rw [decide_eq_false h]; rfl)
    clear h
    cases hb : smallB c
    · have HB := ShO.mk hb
      have HL := ShO.mk (show ltrI c = bigB c by unfold ltrI; rw [hb]; rfl)
      clear hb
      go_enter Tryd.func83, Tryd.ntmps83
      go_wp2_with (first
        | (go_at_call 133; refine (l01Small_any _ _).mono ?_; rw [HB.out]; rintro e w' ⟨rfl, rfl⟩)
        | (go_at_call 85; refine (l03CapitalO_any _ _).mono ?_; rintro e w' ⟨rfl, rfl⟩))
      go_ret
      exact ⟨ret_bool (HR.out.trans HL.out).symm, rfl⟩
    · have HB := ShO.mk hb
      have HL := ShO.mk (show ltrI c = true by unfold ltrI; rw [hb]; rfl)
      clear hb
      go_enter Tryd.func83, Tryd.ntmps83
      go_wp2_with (first
        | (go_at_call 133; refine (l01Small_any _ _).mono ?_; rw [HB.out]; rintro e w' ⟨rfl, rfl⟩))
      go_ret
      exact ⟨ret_bool (HR.out.trans HL.out).symm, rfl⟩
set_option maxHeartbeats 400000 in
theorem isPremium_any (c : Int) (w : World) : Calls Tryd.prog 89 #[.int .i32 c] w fun e w' => e = .returned (.bool (premI c)) ∧ w = w' := by
  by_cases h : c = 46 ∨ c = 50 ∨ c = 51 ∨ c = 100 ∨ c = 116
  · rw [premI_iff.2 h]
    rcases h with rfl | rfl | rfl | rfl | rfl
    all_goals
      go_enter Tryd.func89, Tryd.ntmps89
      go_wp2
      go_ret
      exact ⟨rfl, rfl⟩
  · have HR := ShO.mk (show premI c = false by rw [Bool.eq_false_iff]; exact fun e => h (premI_iff.1 e))
    have e1 : (c == 46) = false := beq_eq_false_iff_ne.2 fun e => h (Or.inl e)
    have e2 : (c == 50) = false := beq_eq_false_iff_ne.2 fun e => h (Or.inr (Or.inl e))
    have e3 : (c == 51) = false := beq_eq_false_iff_ne.2 fun e => h (Or.inr (Or.inr (Or.inl e)))
    have e4 : (c == 100) = false := beq_eq_false_iff_ne.2 fun e => h (Or.inr (Or.inr (Or.inr (Or.inl e))))
    have e5 : (c == 116) = false := beq_eq_false_iff_ne.2 fun e => h (Or.inr (Or.inr (Or.inr (Or.inr e))))
    clear h
    go_enter Tryd.func89, Tryd.ntmps89
    go_wp2
    go_ret
    exact ⟨ret_bool HR.out.symm, rfl⟩
set_option maxHeartbeats 400000 in
theorem l11Premium_any (c : Int) (w : World) : Calls Tryd.prog 84 #[.int .u8 c] w fun e w' => e = .returned (.bool (premI c)) ∧ w = w' := by
  by_cases h : c = 46 ∨ c = 50 ∨ c = 51 ∨ c = 100 ∨ c = 116
  · rw [premI_iff.2 h]
    rcases h with rfl | rfl | rfl | rfl | rfl
    all_goals
      go_enter Tryd.func84, Tryd.ntmps84
      go_wp2
      go_ret
      exact ⟨rfl, rfl⟩
  · have HR := ShO.mk (show premI c = false by rw [Bool.eq_false_iff]; exact fun e => h (premI_iff.1 e))
    have e1 : (c == 46) = false := beq_eq_false_iff_ne.2 fun e => h (Or.inl e)
    have e2 : (c == 50) = false := beq_eq_false_iff_ne.2 fun e => h (Or.inr (Or.inl e))
    have e3 : (c == 51) = false := beq_eq_false_iff_ne.2 fun e => h (Or.inr (Or.inr (Or.inl e)))
    have e4 : (c == 100) = false := beq_eq_false_iff_ne.2 fun e => h (Or.inr (Or.inr (Or.inr (Or.inl e))))
    have e5 : (c == 116) = false := beq_eq_false_iff_ne.2 fun e => h (Or.inr (Or.inr (Or.inr (Or.inr e))))
    clear h
    go_enter Tryd.func84, Tryd.ntmps84
    go_wp2
    go_ret
    exact ⟨ret_bool HR.out.symm, rfl⟩
theorem isSize_any (n : Int) (w : World) : Calls Tryd.prog 87 #[.int .i64 n] w fun e w' => e = .returned (.bool (sizB n)) ∧ w = w' := by
  by_cases h : 5 ≤ n ∧ n ≤ 15
  · rw [sizB_iff.2 h]
    obtain ⟨h1, h2⟩ := h
    go_enter Tryd.func87, Tryd.ntmps87
    go_wp2
    go_ret
    exact ⟨rfl, rfl⟩
  · rw [sizB_no h]
    by_cases h1 : 5 ≤ n
    · have h2 : ¬ n ≤ 15 := fun h2 => h ⟨h1, h2⟩
      go_enter Tryd.func87, Tryd.ntmps87
      go_wp2
      go_ret
      exact ⟨rfl, rfl⟩
    · go_enter Tryd.func87, Tryd.ntmps87
      go_wp2
      go_ret
      exact ⟨rfl, rfl⟩
theorem l11Size_any (n : Int) (w : World) : Calls Tryd.prog 68 #[.int .i64 n] w fun e w' => e = .returned (.bool (sizB n)) ∧ w = w' := by
  go_enter Tryd.func68, Tryd.ntmps68
  go_wp2_with (go_at_call 113; refine (l00In_any _ _ _ _).mono ?_; rintro e w' ⟨rfl, rfl⟩)
  go_ret
  exact ⟨rfl, rfl⟩

theorem isPremium_enters : ∀ args w, (callFunc 89 args).run Tryd.prog w = .ok (.enter 89 args) w := enters_of Tryd.func89 (by kernel_rfl) rfl
theorem isCell_enters : ∀ args w, (callFunc 90 args).run Tryd.prog w = .ok (.enter 90 args) w := enters_of Tryd.func90 (by kernel_rfl) rfl

def areB (q : Int → Bool) (s : ByteArray) (n : Int) : Bool := decide ((s.size : Int) = n * n) && allC q s.data.toList
set_option maxHeartbeats 400000 in
theorem areSquares_any {K : FuncId} {q : Int → Bool} (s : ByteArray) (n : Int) (w : World) (hn : sizB n = true) (hK : ∀ args w, (callFunc K args).run Tryd.prog w = .ok (.enter K args) w) (ht : TellsC K q)
    (hq : ∀ c : Int, 128 ≤ c → q c = false) :
    Calls Tryd.prog 88 #[.string s, .int .i64 n, .func (.func K) #[] #[]] w fun e w' => e = .returned (.bool (areB q s n)) ∧ Below w.heap.size w w' := by
  have HC := ShO.mk (consistsOf_any (K := K) (q := q) s w hK ht hq)
  clear hK ht hq
  obtain ⟨h5, h15⟩ := sizB_iff.1 hn
  have hm : IntKind.i64.wrap (n * n) = n * n := by
    have h1 : n * n ≤ 15 * 15 := Int.mul_le_mul h15 h15 (by omega) (by omega)
    have h2 : 0 ≤ n * n := Int.mul_nonneg (by omega) (by omega)
    exact IntWalk.i64_in _ (by omega)
  obtain ⟨M, hM⟩ : ∃ M, n * n = M := ⟨_, rfl⟩
  rw [hM] at hm
  clear hn h5 h15
  by_cases h : (s.size : Int) = M
  · have e1 : ((s.size : Int) == M) = true := beq_iff_eq.2 h
    have HR := ShO.mk (show areB q s n = allC q s.data.toList by unfold areB; rw [hM, decide_eq_true h]; rfl)
    clear h
    go_enter Tryd.func88, Tryd.ntmps88
    go_wp2_with fail
    refine (HC.out).mono ?_
    rintro e w1 ⟨rfl, hb⟩
    go_wp2
    go_ret
    exact ⟨ret_bool HR.out.symm, hb⟩
  · have e1 : ((s.size : Int) == M) = false := beq_eq_false_iff_ne.2 h
    have HR := ShO.mk (show areB q s n = false by unfold areB; rw [hM, decide_eq_false h]; rfl)
    clear h HC
    go_enter Tryd.func88, Tryd.ntmps88
    go_wp2
    go_ret
    exact ⟨ret_bool HR.out.symm, Below.refl _ _⟩
end Go.Proofs.YtmkdbahdhobdjaaDoor
