/-
  Letters on boards: IsBlank of both sides; where a function value first wants a byte of a text; a byte written to a builder.
-/
import Derived.Test.YtmkdbahdhobdjaaDoorBD
import Derived.Test.YtmkdbahdhobdjaaDoorO1
import Derived.Test.YtmkdbahdhobdjaaDoorQ3
namespace Go.Proofs.YtmkdbahdhobdjaaDoor
open Go.RowKit

theorem ret_iO {a b : Int} (h : a = b) : Ending.returned (.int .i64 a) = .returned (.int .i64 b) := by rw [h]
/-- The place of the first byte that a test wants, or -1. -/
def fstC (q : Int → Bool) (s : ByteArray) : Int := if s.data.toList.findIdx (fun c => q (c.toNat : Int)) < s.size then ((s.data.toList.findIdx (fun c => q (c.toNat : Int)) : Nat) : Int) else -1
theorem fstC_hit {q : Int → Bool} {s : ByteArray} {k : Nat} (h : k < s.size) (hq : q (s[k].toNat : Int) = true) (hb : ∀ j (hj : j < s.size), j < k → q (s[j].toNat : Int) = false) : fstC q s = (k : Int) := by
  have h1 : s.data.toList.findIdx (fun c => q (c.toNat : Int)) = k := by
    have hl : k < s.data.toList.length := by rw [Array.length_toList]; exact h
    rw [List.findIdx_eq hl]
    exact ⟨hq, fun j hj => hb j (by omega) hj⟩
  unfold fstC
  rw [h1, if_pos h]
theorem fstC_none {q : Int → Bool} {s : ByteArray} (hb : ∀ j (hj : j < s.size), q (s[j].toNat : Int) = false) : fstC q s = -1 := by
  have h1 : s.data.toList.findIdx (fun c => q (c.toNat : Int)) = s.data.toList.length := by
    rw [List.findIdx_eq_length]
    intro x hx
    obtain ⟨j, hj, rfl⟩ := List.mem_iff_getElem.1 hx
    exact hb j (by rw [Array.length_toList] at hj; exact hj)
  unfold fstC
  rw [h1, if_neg]
  rw [Array.length_toList]
  exact Nat.lt_irrefl _
theorem fstC_any (q : Int → Bool) (s : ByteArray) : decide (0 ≤ fstC q s) = s.data.toList.any fun c => q (c.toNat : Int) := by
  unfold fstC
  have hl : s.data.toList.length = s.size := by rw [Array.length_toList]; rfl
  by_cases h : s.data.toList.findIdx (fun c => q (c.toNat : Int)) < s.size
  · rw [if_pos h, decide_eq_true (by omega)]
    symm
    rw [List.any_eq_true]
    exact List.findIdx_lt_length.1 (by omega)
  · rw [if_neg h, decide_eq_false (by omega)]
    symm
    rw [Bool.eq_false_iff]
    intro e
    exact h (by rw [← hl]; exact List.findIdx_lt_length.2 (List.any_eq_true.1 e))
/-- Every byte is below 128. -/
def AscS (s : ByteArray) : Prop := ∀ j (hj : j < s.size), (s[j]'hj).toNat < 128
theorem ascS_of {q : Int → Bool} {s : ByteArray} (hq : ∀ c : Int, 128 ≤ c → q c = false) (h : allC q s.data.toList = true) : AscS s := by
  intro j hj
  refine Classical.byContradiction fun hn => ?_
  have := allC_not q s j hj (hq _ (by omega))
  rw [h] at this
  cases this
set_option maxHeartbeats 1000000 in
theorem indexFuncS_any {K : FuncId} {q : Int → Bool} (s : ByteArray) (w : World) (hs : AscS s) (hK : ∀ args w, (callFunc K args).run Tryd.prog w = .ok (.enter K args) w) (ht : TellsC K q) :
    Calls Tryd.prog 194 #[.string s, .func (.func K) #[] #[], .bool true] w fun e w' => e = .returned (.int .i64 (fstC q s)) ∧ Below w.heap.size w w' := by
  have HNO := ShO.mk (fstC_none (q := q) (s := s))
  have HS := ShO.mk hs
  clear hs
  go_enter Tryd.func194, Tryd.ntmps194
  go_wp2
  go_loopw [7, 8] (fun _ _ w' => ∃ k : Nat, k ≤ s.size ∧ w' = w.iter s k ∧ ShO (∀ j (hj : j < s.size), j < k → q (s[j].toNat : Int) = false)) (fun _ _ w' => s.size - w'.iterPos w.heap.size)
  case atStart => exact ⟨0, Nat.zero_le _, rfl, ⟨fun j hj h => absurd h (Nat.not_lt_zero _)⟩⟩
  case round =>
    obtain ⟨k, hk, rfl, ha⟩ := hrel
    by_cases hp : k < s.size
    · have hyes := fun hb => fstC_hit (q := q) hp hb fun j hj hjk => ha.out j hj hjk
      have hds := ShO.mk (decode_ascii s k hp (HS.out k hp))
      have hnx : ∀ ty, (Instr.next (.pointer (some ⟨w.heap.size, 0, none⟩)) true ty).run Tryd.prog (w.iter s k) = _ := fun ty => run_next_any w s k ty hp
      rw [hds.out] at hnx
      cases hb : q ((s[k]'hp).toNat : Int)
      · have HA := ShO.mk (show ∀ j (hj : j < s.size), j < k + 1 → q (s[j].toNat : Int) = false by
          intro j hj hjk
          by_cases hjk2 : j < k
          · exact ha.out j hj hjk2
          · obtain rfl : j = k := by omega
            exact hb)
        have HB := ShO.mk hb
        clear hyes hb
        go_wp2_with fail
        refine (ht _ _).mono ?_
        rw [HB.out]
        rintro e w' ⟨rfl, rfl⟩
        go_wp2
        go_roundw
        case rel => exact ⟨k + 1, by omega, rfl, HA⟩
        case measure => simp; omega
      · have HY := ShO.mk (hyes hb)
        have HB := ShO.mk hb
        clear hyes hb
        go_wp2_with fail
        refine (ht _ _).mono ?_
        rw [HB.out]
        rintro e w' ⟨rfl, rfl⟩
        go_wp2
        go_ret
        exact ⟨ret_iO HY.out.symm, below_iter _ _⟩
    · have hnx : ∀ ty, (Instr.next (.pointer (some ⟨w.heap.size, 0, none⟩)) true ty).run Tryd.prog (w.iter s k) = _ := fun ty => run_next_end w s k ty hp
      have HY := ShO.mk (HNO.out fun j hj => ha.out j hj (by omega))
      go_wp2
      go_ret
      exact ⟨ret_iO HY.out.symm, below_iter _ _⟩
theorem isLetter_enters : ∀ args w, (callFunc 135 args).run Tryd.prog w = .ok (.enter 135 args) w := enters_of Tryd.func135 (by kernel_rfl) rfl
theorem isLetter_tells : TellsC 135 ltrI := fun c w => isLetter_any c w
theorem indexLetter_any (s : ByteArray) (w : World) (hs : AscS s) :
    Calls Tryd.prog 176 #[.string s, .func (.func 135) #[] #[]] w fun e w' => e = .returned (.int .i64 (fstC ltrI s)) ∧ Below w.heap.size w w' := by
  go_enter Tryd.func176, Tryd.ntmps176
  go_wp2_with fail
  refine (indexFuncS_any s _ hs isLetter_enters isLetter_tells).mono ?_
  rintro e w1 ⟨rfl, hb1⟩
  go_wp2
  go_ret
  exact ⟨rfl, hb1⟩
theorem hasLetter_any (s : ByteArray) (w : World) (hs : AscS s) :
    Calls Tryd.prog 132 #[.string s] w fun e w' => e = .returned (.bool (anyLet s)) ∧ Below w.heap.size w w' := by
  have HS := ShO.mk hs
  have HA := ShO.mk (fstC_any ltrI s)
  have HC : Calls Tryd.prog 156 #[.string s, .func (.func 135) #[] #[]] w fun e w' => e = .returned (.bool (anyLet s)) ∧ Below w.heap.size w w' := by
    go_enter Tryd.func156, Tryd.ntmps156
    go_wp2_with fail
    refine (indexLetter_any s _ hs).mono ?_
    rintro e w1 ⟨rfl, hb1⟩
    go_wp2
    go_ret
    exact ⟨ret_bool HA.out, hb1⟩
  go_enter Tryd.func132, Tryd.ntmps132
  go_wp2_with fail
  refine HC.mono ?_
  rintro e w1 ⟨rfl, hb1⟩
  go_wp2
  go_ret
  exact ⟨rfl, hb1⟩

/-! ### IsBlank -/
theorem blank_no {n : Int} {p c : ByteArray} (h : okBd n p c = false) : blankOut n p c = false := by unfold blankOut; rw [h]; rfl
theorem blank_yes {n : Int} {p c : ByteArray} (h : okBd n p c = true) : blankOut n p c = !anyLet c := by unfold blankOut; rw [h]; rfl

/-- The first letters on a board, in order. -/
def letTo (c : ByteArray) (k : Nat) : List UInt8 := (c.data.toList.take k).filter fun x => !(x == 46)
theorem letTo_succ (c : ByteArray) {k : Nat} (h : k < c.size) : letTo c (k + 1) = letTo c k ++ if c[k] == 46 then [] else [c[k]] := by
  unfold letTo
  rw [take_grows c k h, List.filter_append]
  congr 1
  by_cases e : c[k] = 46
  · rw [e]; rfl
  · have : (c[k] == 46) = false := beq_eq_false_iff_ne.2 e
    rw [this]
    simp [e]
theorem letTo_len (c : ByteArray) (k : Nat) : (letTo c k).length ≤ k := by
  unfold letTo
  refine Nat.le_trans (List.length_filter_le _ _) ?_
  rw [List.length_take]
  omega
def lets (c : ByteArray) : List UInt8 := letTo c c.size
theorem dot_byte {x : UInt8} : ((x.toNat : Int) != 46) = !(x == 46) := by
  rw [Bool.eq_iff_iff, bne_iff_ne, Bool.not_eq_true', beq_eq_false_iff_ne]
  constructor
  · intro h e; apply h; rw [e]; rfl
  · intro h e
    exact h (UInt8.toNat_inj.1 (by show x.toNat = 46; omega))
theorem lets_any {c : ByteArray} (h : allC cellI c.data.toList = true) : (lets c).isEmpty = !anyLet c := by
  have ht : c.data.toList.take c.size = c.data.toList := take_all c
  have hc : ∀ x ∈ c.data.toList, ltrI (x.toNat : Int) = !(x == 46) := by
    intro x hx
    have h1 := List.all_eq_true.1 h x hx
    rw [Bool.eq_iff_iff, ltrI_iff, Bool.not_eq_true', beq_eq_false_iff_ne]
    have h2 := cellI_iff.1 h1
    constructor
    · rintro h3 rfl
      have h4 : ((46 : UInt8).toNat : Int) = 46 := rfl
      rw [h4] at h3
      omega
    · intro h3
      rcases h2 with h2 | h2
      · exact absurd (UInt8.toNat_inj.1 (by show x.toNat = 46; omega)) h3
      · exact h2
  unfold lets letTo anyLet
  rw [ht, Bool.eq_iff_iff, List.isEmpty_iff, List.filter_eq_nil_iff, Bool.not_eq_true', Bool.eq_false_iff, ne_eq, List.any_eq_true]
  constructor
  · rintro h1 ⟨x, hx, h2⟩
    exact h1 x hx (by rw [← hc x hx]; exact h2)
  · intro h1 x hx h2
    exact h1 ⟨x, hx, by rw [hc x hx]; exact h2⟩
set_option maxRecDepth 100000 in
set_option maxHeartbeats 2000000 in
theorem l11Letters_any {g : Nat} {n : Int} {p c : ByteArray} (W : World) (hc : c.size ≤ 225) (hg : Blk W g 27 #[.int .i64 n, .string p, .string c]) :
    Calls Tryd.prog 45 #[.pointer (some ⟨g, 0, none⟩)] W fun e w' => e = .returned (.string ⟨(lets c).toArray⟩) ∧ Below W.heap.size W w' := by
  have HG := ShO.mk hg
  have c2 : W.cell? ⟨g, 2, none⟩ = some (.string c) := hg.cells 2
  clear hg
  go_enter Tryd.func45, Tryd.ntmps45
  go_wp2
  go_loopw [3, 4] (fun v i wr => ∃ k : Nat, k ≤ c.size ∧ i = .int .i64 k ∧ ShO (OwnB W.heap.size wr v (letTo c k)) ∧ ShO (Below W.heap.size W wr)) (fun _ i _ => c.size - (intOf i).toNat)
  case atStart => exact ⟨0, Nat.zero_le _, rfl, ⟨World.ownsRow_lit W _ 0 (Nat.le_refl _) (by unfold maxLen; omega) rfl⟩, ⟨(Below.refl _ _).alloc (Nat.le_refl _) _⟩⟩
  case round =>
    obtain ⟨k, hk, rfl, ho, hB⟩ := hrel
    have d2 : wr.cell? ⟨g, 2, none⟩ = some (.string c) := (HG.out.kept hB.out HG.out.lt).cells 2
    by_cases hlt : k < c.size
    · have HS := ShO.mk (letTo_succ c hlt)
      have HL := ShO.mk (letTo_len c k)
      obtain ⟨y, hy⟩ : ∃ y, c[k] = y := ⟨_, rfl⟩
      rw [hy] at HS
      have hd := dot_byte (x := y)
      cases he : (y == 46)
      · rw [he] at hd HS
        have hd' : ((y.toNat : Int) != 46) = true := hd
        clear hd he
        go_wp2_with (refine append_byteO rfl _ _ rfl _ (letTo c k) y rfl rfl ho.out (by have := HL.out; omega) hB.out.size ?_; intro v' w1 ho1 hb1)
        have HO1 := ShO.mk ho1
        have HB1 := ShO.mk (hb1 _ hB.out)
        clear ho1 hb1
        go_wp2
        go_roundw
        case rel => exact ⟨k + 1, by omega, by go_num, ⟨by rw [HS.out]; exact HO1.out⟩, HB1⟩
        case measure => simp [intOf]; omega
      · rw [he] at hd HS
        have hd' : ((y.toNat : Int) != 46) = false := hd
        clear hd he
        go_wp2
        go_roundw
        case rel => exact ⟨k + 1, by omega, by go_num, ⟨by rw [HS.out]; simpa using ho.out⟩, hB⟩
        case measure => simp [intOf]; omega
    · obtain rfl : k = c.size := by omega
      have hcv := conv_rowQ ho.out
      go_wp2
      go_ret
      exact ⟨rfl, hB.out⟩
end Go.Proofs.YtmkdbahdhobdjaaDoor
