/-
  TransposeBoard: the program's.
-/
import Derived.Test.YtpeobloofofnlaaBN
import Derived.Test.YtpeobloofofnlaaBL
import Derived.Test.YtpeobloofofnlaaShelfI
import Derived.Deep.RegionHeld3
namespace Go.Proofs.Ytpeobloofofnlaa
open Go.RowKit

theorem gridL_part (f : Nat → Nat → UInt8) (n r : Nat) : ∀ c, c ≤ n → gridL f n (r * n + c) = gridL f n (r * n) ++ (List.range c).map (f r)
  | 0, _ => by simp
  | c + 1, h => by
    rw [gridL_step f (by omega), gridL_part f n r c (by omega), List.range_succ, List.map_append, List.append_assoc]
    rfl
theorem gridL_flat (f : Nat → Nat → UInt8) (n : Nat) : ∀ m, gridL f n (m * n) = (List.range m).flatMap fun r => (List.range n).map (f r)
  | 0 => by simp [gridL]
  | m + 1 => by
    rw [← gridL_row, gridL_part f n m n (Nat.le_refl _), gridL_flat f n m, List.range_succ, List.flatMap_append]
    simp
theorem join_none : ∀ l : List (List UInt8), Lib.join l [] = l.flatten
  | [] => rfl
  | [x] => by simp [Lib.join]
  | x :: y :: r => by
    have ih := join_none (y :: r)
    have e : Lib.join (x :: y :: r) [] = x ++ [] ++ Lib.join (y :: r) [] := by first | rfl | simp [Lib.join]
    rw [e, ih]
    simp
def colS (N : Nat) (s : ByteArray) (k : Nat) : ByteArray := ⟨(colL N s k).toArray⟩
def rwS (N : Nat) (s : ByteArray) (k : Nat) : ByteArray := ⟨(rowL N s k).toArray⟩
theorem cols_join (N : Nat) (s : ByteArray) : (⟨(Lib.join ((linesTo (colS N s) N).map (·.data.toList)) []).toArray⟩ : ByteArray) = turnS N s := by
  unfold turnS turnL
  rw [join_none, gridL_flat]
  unfold linesTo
  rw [List.map_map, List.flatMap]
  rfl
theorem column_enters : ∀ args w, (callFunc 155 args).run Try.prog w = .ok (.enter 155 args) w := enters_of Try.func155 (by kernel_rfl) rfl
theorem row_enters : ∀ args w, (callFunc 159 args).run Try.prog w = .ok (.enter 159 args) w := enters_of Try.func159 (by kernel_rfl) rfl
theorem column_tells {N : Nat} {s : ByteArray} {FA : Array Value} (hFA : ShO (FA = fieldA N (sqF s N))) (h15 : N ≤ 15) : ShO (TellsF 155 FA N (colS N s)) := ⟨fun _ hk w => column_any w hFA h15 hk⟩
theorem row_tells {N : Nat} {s : ByteArray} {FA : Array Value} (hFA : ShO (FA = fieldA N (sqF s N))) (h15 : N ≤ 15) : ShO (TellsF 159 FA N (rwS N s)) := ⟨fun _ hk w => row_any w hFA h15 hk⟩
theorem fieldOf_on {N : Nat} {s : ByteArray} {FA : Array Value} (w0 : World) (hFA : ShO (FA = fieldA N (sqF s N))) (h15 : N ≤ 15) (hs : s.size = N * N) (W : World) (hb : Below w0.heap.size w0 W) :
    Calls Try.prog 153 #[.int .i64 (N : Int), .string s] W fun e w' => e = .returned (.agg FA) ∧ Below w0.heap.size w0 w' ∧ Below W.heap.size W w' := by
  rw [hFA.out]
  exact (fieldOf_any N s W h15 hs).mono fun _ _ ⟨h1, h2⟩ => ⟨h1, hb.trans (h2.mono hb.size), h2⟩
theorem own_at {B : Nat} {w : World} {v : Value} {ss : List ByteArray} (h : OwnS B w v ss) (h0 : 0 < ss.length) : ∃ g cap, v = .slice (some ⟨g, 0, none⟩) ss.length cap := by
  obtain ⟨a, cap, rfl, -, -, h1⟩ := own_form h
  obtain ⟨g, rfl, -⟩ := h1 h0
  exact ⟨g, cap, rfl⟩
theorem linesC_on {N : Nat} {s : ByteArray} {FA : Array Value} (w0 : World) (hFA : ShO (FA = fieldA N (sqF s N))) (h5 : 5 ≤ N) (h15 : N ≤ 15) (W : World) (hb : Below w0.heap.size w0 W) :
    Calls Try.prog 154 #[.agg FA, .func (.func 155) #[] #[]] W fun e w' => ∃ g cap, e = .returned (.slice (some ⟨g, 0, none⟩) N cap) ∧ Strs w' (.slice (some ⟨g, 0, none⟩) N cap) (linesTo (colS N s) N) ∧ Below w0.heap.size w0 w' ∧ Below W.heap.size W w' := by
  refine (lines_any W hFA h15 column_enters (column_tells hFA h15)).mono ?_
  rintro e w' ⟨v, rfl, ho, hb'⟩
  have hl := linesTo_len (colS N s) N
  obtain ⟨g, cap, rfl⟩ := own_at ho (by omega)
  rw [hl] at ho ⊢
  exact ⟨g, cap, rfl, ho.strs, hb.trans (hb'.mono hb.size), hb'⟩
theorem joinC_on {N : Nat} {s : ByteArray} {T : ByteArray} (w0 : World) (hT : ShO (turnS N s = T)) (h5 : 5 ≤ N) (h15 : N ≤ 15) (W : World) (g cap : Nat) (hs : Strs W (.slice (some ⟨g, 0, none⟩) N cap) (linesTo (colS N s) N)) (hb : Below w0.heap.size w0 W) :
    Calls Try.prog 152 #[.slice (some ⟨g, 0, none⟩) N cap, .string ⟨#[]⟩] W fun e w' => e = .returned (.string T) ∧ Below w0.heap.size w0 w' ∧ Below W.heap.size W w' := by
  have hl := linesTo_len (colS N s) N
  obtain ⟨a, cap', he, h1, h2, h3⟩ := hs
  rw [hl] at he
  injection he with e1 e2 e3
  subst e1 e3
  obtain ⟨b, off, he2, h4, h5'⟩ := h3 (by omega)
  cases he2
  have hN2 : N * N ≤ 15 * 15 := Nat.mul_le_mul h15 h15
  have hTL : (Lib.join ((linesTo (colS N s) N).map (·.data.toList)) []).length ≤ 140737488355328 := by
    have := congrArg ByteArray.size (cols_join N s)
    rw [turnS_size] at this
    have h6 : (Lib.join ((linesTo (colS N s) N).map (·.data.toList)) []).length = N * N := by rw [← this]; simp [ByteArray.size]
    omega
  have := Try.strings_Join g 0 cap (linesTo (colS N s) N) ⟨#[]⟩ W (fun j x hj => by
      have hjl : j < (linesTo (colS N s) N).length := by
        rcases Nat.lt_or_ge j (linesTo (colS N s) N).length with h | h
        · exact h
        · rw [List.getElem?_eq_none h] at hj; cases hj
      rw [h5' j hjl]
      unfold strAt
      rw [List.getD_eq_getElem?_getD, hj]
      rfl) h4 (by omega) h1 hTL
  rw [hl] at this
  refine this.mono ?_
  rintro e w' ⟨rfl, hb'⟩
  refine ⟨?_, hb.trans (hb'.mono hb.size), hb'⟩
  rw [← hT.out, ← cols_join]

set_option maxRecDepth 100000 in
set_option maxHeartbeats 8000000 in
theorem implTransposeBoard_any (n : Int) (p c : ByteArray) (W : World) :
    Calls Try.prog 71 #[.agg #[.int .i64 n, .string p, .string c]] W fun e w' => e = .returned (bdRes (turnOut n p c)) ∧ Below W.heap.size W w' := by
  have hA : Below W.heap.size W (W.alloc (.cells #[.int .i64 n, .string p, .string c] 25)) := (Below.refl _ _).alloc (Nat.le_refl _) _
  have HBa := ShO.mk (hA.alloc (by simp) (.cells #[.int .i64 0, .string ⟨#[]⟩, .string ⟨#[]⟩] 25))
  have HG := ShO.mk ((Blk.made W 25 #[.int .i64 n, .string p, .string c]).alloc (.cells #[.int .i64 0, .string ⟨#[]⟩, .string ⟨#[]⟩] 25))
  have hr0 := Blk.made (W.alloc (.cells #[.int .i64 n, .string p, .string c] 25)) 25 #[.int .i64 0, .string ⟨#[]⟩, .string ⟨#[]⟩]
  rw [World.size_alloc] at hr0
  have HRB := ShO.mk hr0
  clear hA hr0
  cases hok : okBd n p c
  · have HK := ShO.mk hok
    have HR := ShO.mk (turnOut_no hok)
    clear hok
    go_enter Try.func71, Try.ntmps71
    go_wp2_with fail
    refine (validO HK.out _).mono ?_
    rintro e w1 ⟨rfl, hb1⟩
    have HB1 := ShO.mk (HBa.out.trans (hb1.mono HBa.out.size))
    have HR1 := ShO.mk (HRB.out.kept hb1 HRB.out.lt)
    clear hb1
    have c0 := HR1.out.cells
    have f0 := HR1.out.marks
    go_wp2
    refine bodyPost_ret (v := .tuple #[.agg #[.int .i64 0, .string ⟨#[]⟩, .string ⟨#[]⟩], .int .i64 1]) (by simp [results, Try.results71, go_sem, c0]) rfl ?_
    rw [HR.out]
    exact ⟨rfl, below_threeO HB1.out (Nat.le_succ _) _ _ _⟩
  · obtain ⟨N, rfl, h5, h15, hps, hcs⟩ := okBd_nat hok
    have HK := ShO.mk hok
    have HR := ShO.mk (turnOut_yes hok)
    obtain ⟨TP, hTP⟩ : ∃ P, turnS N p = P := ⟨_, rfl⟩
    obtain ⟨TC, hTC⟩ : ∃ C, turnS N c = C := ⟨_, rfl⟩
    rw [hTP, hTC] at HR
    obtain ⟨FP, hFP⟩ : ∃ FA, FA = fieldA N (sqF p N) := ⟨_, rfl⟩
    obtain ⟨FC, hFC⟩ : ∃ FA, FA = fieldA N (sqF c N) := ⟨_, rfl⟩
    have HTP := ShO.mk hTP
    have HTC := ShO.mk hTC
    have HFP := ShO.mk hFP
    have HFC := ShO.mk hFC
    have HPS := ShO.mk hps
    have HCS := ShO.mk hcs
    have H5 := ShO.mk h5
    have H15 := ShO.mk h15
    clear hok hps hcs hTP hTC hFP hFC h5 h15
    go_enter Try.func71, Try.ntmps71
    go_wp2_with fail
    refine (validO HK.out _).mono ?_
    rintro e w1 ⟨rfl, hb1⟩
    have HB1 := ShO.mk (HBa.out.trans (hb1.mono HBa.out.size))
    have HR1 := ShO.mk (HRB.out.kept hb1 HRB.out.lt)
    have HG1 := ShO.mk (HG.out.kept hb1 HG.out.lt)
    clear hb1
    have HK1 := ShO.mk (fun w' (hb : Below w1.heap.size w1 w') => oneB (HG1.out.kept hb HG1.out.lt))
    have QFP := ShO.mk (fieldOf_on w1 HFP H15.out HPS.out)
    have QFC := ShO.mk (fieldOf_on w1 HFC H15.out HCS.out)
    have QLP := ShO.mk (linesC_on w1 HFP H5.out H15.out)
    have QLC := ShO.mk (linesC_on w1 HFC H5.out H15.out)
    have QJP := ShO.mk (joinC_on w1 HTP H5.out H15.out)
    have QJC := ShO.mk (joinC_on w1 HTC H5.out H15.out)
    obtain ⟨lsP, hlsP⟩ : ∃ l, linesTo (colS N p) N = l := ⟨_, rfl⟩
    obtain ⟨lsC, hlsC⟩ : ∃ l, linesTo (colS N c) N = l := ⟨_, rfl⟩
    rw [hlsP] at QLP QJP
    rw [hlsC] at QLC QJC
    unfold OneB at HK1
    clear hlsP hlsC
    go_wp2
    go_region_held3 (fun w' => w'.cell? ⟨W.heap.size, 0, none⟩ = some (.int .i64 N) ∧ w'.cell? ⟨W.heap.size, 1, none⟩ = some (.string p) ∧ w'.cell? ⟨W.heap.size, 2, none⟩ = some (.string c))
      (first | exact HK3.out _ _ _ | exact HK1.out _ (by first | assumption | exact (Below.refl _ _).drew))
      (first
        | (go_at_call 153; with_reducible refine (QFP.out _ (by first | assumption | exact (Below.refl _ _).drew)).mono ?_; rintro e w3 ⟨rfl, hbA, hcA⟩)
        | (go_at_call 153; with_reducible refine (QFC.out _ (by first | assumption | exact (Below.refl _ _).drew)).mono ?_; rintro e w3 ⟨rfl, hbB, hcB⟩)
        | (go_at_call 154; with_reducible refine (QLP.out _ (by assumption)).mono ?_; rintro e w3 ⟨gP, capP, rfl, hsP, hbC, hcC⟩)
        | (go_at_call 154; with_reducible refine (QLC.out _ (by assumption)).mono ?_; rintro e w3 ⟨gC, capC, rfl, hsC, hbD, hcD⟩)
        | (go_at_call 152; with_reducible refine (QJP.out _ gP capP (by first | exact hsP | exact hsP.below hcB | exact hsP.below hcD | exact hsP.below hcF | exact (hsP.below hcB).below hcD | exact (hsP.below hcD).below hcF | exact ((hsP.below hcB).below hcD).below hcF) (by assumption)).mono ?_; rintro e w3 ⟨rfl, hbE, hcE⟩; have HK3 := ShO.mk (fun x0 x1 x2 => oneB (Blk.threeO (HG1.out.kept hbE HG1.out.lt) (Nat.ne_of_lt (Nat.lt_succ_self W.heap.size)) x0 x1 x2)); have q := HR1.out.kept hbE HR1.out.lt; have c0 := q.cells; have f0 := q.marks; have HBL := ShO.mk hbE; unfold OneB at HK3)
        | (go_at_call 152; with_reducible refine (QJC.out _ gC capC (by first | exact hsC | exact hsC.below hcA | exact hsC.below hcC | exact hsC.below hcE | exact (hsC.below hcA).below hcC | exact (hsC.below hcC).below hcE | exact ((hsC.below hcA).below hcC).below hcE) (by assumption)).mono ?_; rintro e w3 ⟨rfl, hbF, hcF⟩; have HK3 := ShO.mk (fun x0 x1 x2 => oneB (Blk.threeO (HG1.out.kept hbF HG1.out.lt) (Nat.ne_of_lt (Nat.lt_succ_self W.heap.size)) x0 x1 x2)); have q := HR1.out.kept hbF HR1.out.lt; have c0 := q.cells; have f0 := q.marks; have HBL := ShO.mk hbF; unfold OneB at HK3))
    all_goals
      go_wp2
      refine bodyPost_ret (v := .tuple #[.agg #[.int .i64 N, .string TP, .string TC], .int .i64 0]) (by simp [results, Try.results71, go_sem, c0]) rfl ?_
      rw [HR.out]
      exact ⟨rfl, below_threeO (HB1.out.trans (HBL.out.mono HB1.out.size)) (Nat.le_succ _) _ _ _⟩
end Go.Proofs.Ytpeobloofofnlaa
