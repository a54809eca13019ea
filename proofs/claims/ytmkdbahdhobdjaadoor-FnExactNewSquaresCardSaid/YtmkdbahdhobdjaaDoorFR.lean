/-
  Placements: the fresh places of a word on its line, in the model: a row of numbers of the call's own.
-/
import Derived.Test.YtmkdbahdhobdjaaDoorCX
import Derived.Test.YtmkdbahdhobdjaaDoorJ1
import Derived.Test.YtmkdbahdhobdjaaDoorBI
import Derived.Test.YtmkdbahdhobdjaaDoorQ1
import Derived.Test.YtmkdbahdhobdjaaDoorCV
import Derived.Deep.AppendLies
namespace Go.Proofs.YtmkdbahdhobdjaaDoor
open Go.RowKit

theorem info_i64J : (Tryd.prog.info? 2).map (fun i => (i.zero, i.size, i.bytes)) = some (some (.int .i64 0), 1, 8) := by kernel_rfl
theorem one_atJ {w : World} {H : Nat} {x : Value} (h : w.cell? ⟨H, 0, none⟩ = some x) : ∀ j u, [x][j]? = some u → w.cell? ((⟨H, 0, none⟩ : Addr).add j) = some u := by
  intro j u hj
  match j, hj with
  | 0, hj => simp at hj; subst hj; rw [Go.WideShapes.add_plain]; exact h
  | j + 1, hj => simp at hj
/-- A row of places of the call's own. -/
def RowJ (B : Nat) (w : World) (v : Value) (ks : List Nat) : Prop := w.ownsRow B 2 1 v ks.length (ks.map fun (k : Nat) => Value.int .i64 (k : Int))
theorem RowJ.nil (B : Nat) (w : World) : RowJ B w (.slice none 0 0) [] := ⟨rfl, .inl ⟨rfl, rfl⟩⟩
theorem RowJ.made {B : Nat} {w : World} (h : B ≤ w.heap.size) : RowJ B (w.alloc (.cells #[] 2)) (.slice (some ⟨w.heap.size, 0, none⟩) 0 0) [] :=
  ⟨rfl, .inr ⟨w.heap.size, 0, #[], rfl, h, heap_alloc_new w _, Nat.le_refl _, by simp, rfl, rfl⟩⟩
theorem RowJ.kept {B : Nat} {w w' : World} {v : Value} {ks : List Nat} (h : RowJ B w v ks) (hb : Below w.heap.size w w') : RowJ B w' v ks := by
  refine ⟨h.1, ?_⟩
  rcases h.2 with h | ⟨g, cap, cur, h1, h2, hg, r⟩
  · exact .inl h
  · exact .inr ⟨g, cap, cur, h1, h2, (hb.block g (Array.getElem?_eq_some_iff.1 hg).1).trans hg, r⟩
theorem RowJ.lower {B B' : Nat} {w : World} {v : Value} {ks : List Nat} (h : RowJ B w v ks) (hb : B' ≤ B) : RowJ B' w v ks := by
  refine ⟨h.1, ?_⟩
  rcases h.2 with h | ⟨g, cap, cur, h1, h2, r⟩
  · exact .inl h
  · exact .inr ⟨g, cap, cur, h1, Nat.le_trans hb h2, r⟩
theorem RowJ.form {B : Nat} {w : World} {v : Value} {ks : List Nat} (h : RowJ B w v ks) :
    ∃ a cap, v = .slice a ks.length cap ∧ ks.length ≤ cap ∧ cap ≤ maxLen ∧ (0 < ks.length → ∃ g, a = some ⟨g, 0, none⟩ ∧ B ≤ g ∧ g < w.heap.size ∧ ∀ j (hj : j < ks.length), w.cell? ⟨g, j, none⟩ = some (.int .i64 (ks[j] : Int))) := by
  have h' := h
  rcases h.2 with ⟨rfl, h0⟩ | ⟨g, cap, cur, rfl, hB, hg, hc, hm, hs, ht⟩
  · exact ⟨none, 0, by rw [h0], by omega, by simp, fun h => by omega⟩
  · refine ⟨_, cap, rfl, hc, hm, fun _ => ⟨g, rfl, hB, (Array.getElem?_eq_some_iff.1 hg).1, fun j hj => ?_⟩⟩
    have hb : Blk w g 2 cur := hg
    rw [hb.cells]
    have h3 : cur[j]? = (ks.map fun (k : Nat) => Value.int .i64 (k : Int))[j]? := by
      rw [← ht, List.getElem?_take_of_lt (by omega), Array.getElem?_toList]
    rw [h3, List.getElem?_map, List.getElem?_eq_getElem hj]
    rfl
theorem wpList_append_J {ops : Array Oper} {rest : List Oper} {o : Oper} {a : Act} {Q : Exit → Act → World → Prop} {B H : Nat} {W : World} (hgd : o.guard = none) (s x : Operand)
    (ho : o.op = .call { callee := .builtin .append, args := #[s, x], argTypes := #[101, 101] })
    (u : Value) (ks : List Nat) (k : Nat) (hs : a.eval s = u) (hx : a.eval x = .slice (some ⟨H, 0, none⟩) 1 1) (hc : W.cell? ⟨H, 0, none⟩ = some (.int .i64 (k : Int)))
    (hown : RowJ B W u ks) (hlen : ks.length ≤ 1000000) (hB : B ≤ W.heap.size)
    (h : ∀ v w', RowJ B w' v (ks ++ [k]) → Below B W w' → wpList Tryd.prog ops Q rest (a.put o.dst v) w') :
    wpList Tryd.prog ops Q (o :: rest) a W := by
  obtain ⟨i0, hi, hz0, hz1, hz2⟩ := info_parts info_i64J
  refine wpList_append_lies _ hgd s x 101 ho B 2 i0 (.int .i64 0) 1 8 Tryd.underlying101 hi hz0 hz1 hz2 rfl (by decide) u ks.length (ks.map fun (k : Nat) => Value.int .i64 (k : Int)) hs hown ⟨H, 0, none⟩ 1 1 [.int .i64 (k : Int)] hx rfl (one_atJ hc) ?_ (by decide) ?_ ?_ hB _ rfl ?_
  · intro y hy; simp at hy; subst hy; rfl
  · simp [maxLen]; omega
  · omega
  · intro g cap w' ho' hg hl _
    refine h _ w' ?_ ((Below.refl _ _).grown hg hB (fun k hk => (hown.lt k hk).1))
    unfold RowJ
    rw [List.map_append, List.length_append]
    exact ho'
set_option maxRecDepth 100000 in
set_option maxHeartbeats 4000000 in
theorem l12Fresh_any {g N A B : Nat} {P' f s : ByteArray} (W : World) (h5 : 5 ≤ N) (h15 : N ≤ 15) (hf : f.size = N * N) (hA : A < N) (hn : B + s.size ≤ N) (hg : Blk W g 27 #[.int .i64 (N : Int), .string P', .string f]) :
    Calls Tryd.prog 73 #[.pointer (some ⟨g, 0, none⟩), .agg #[.int .i64 (A : Int), .int .i64 (B : Int), .bool false, .string s]] W fun e w' => ∃ v, e = .returned v ∧ RowJ W.heap.size w' v (frL f (A * N + B) s.size) ∧ Below W.heap.size W w' := by
  have hA0 : Below W.heap.size W (W.alloc (.cells #[.int .i64 (A : Int), .int .i64 (B : Int), .bool false, .string s] 44)) := (Below.refl _ _).alloc (Nat.le_refl _) _
  have g1 := hg.alloc (.cells #[.int .i64 (A : Int), .int .i64 (B : Int), .bool false, .string s] 44)
  have q1 := Blk.made W 44 #[.int .i64 (A : Int), .int .i64 (B : Int), .bool false, .string s]
  have s1 : (W.alloc (.cells #[.int .i64 (A : Int), .int .i64 (B : Int), .bool false, .string s] 44)).heap.size = W.heap.size + 1 := World.size_alloc _ _
  have hgl := hg.lt
  obtain ⟨w0, hw0⟩ : ∃ w0, W.alloc (.cells #[.int .i64 (A : Int), .int .i64 (B : Int), .bool false, .string s] 44) = w0 := ⟨_, rfl⟩
  rw [hw0] at hA0 g1 q1 s1
  have G := ShO.mk g1
  have Q := ShO.mk q1
  have B0 := ShO.mk hA0
  have S1 := ShO.mk s1
  have GL := ShO.mk hgl
  have HZ := ShO.mk (show sizB (N : Int) = true from sizB_iff.2 ⟨by omega, by omega⟩)
  have HA := ShO.mk hA
  have HN := ShO.mk hn
  have H15 := ShO.mk h15
  have HCS := ShO.mk (show (f.size : Int) = (N : Int) * (N : Int) by rw [hf, Int.natCast_mul])
  have hs15 : s.size ≤ 15 := by omega
  clear g1 q1 hA0 hg hf h5 h15 hgl hA hn s1
  go_enter Tryd.func73, Tryd.ntmps73
  go_wp2
  (try rw [hw0])
  go_loopw [5, 6] (fun v i wr => ∃ (j : Nat), j ≤ s.size ∧ i = .int .i64 (j : Int) ∧ ShO (RowJ (W.heap.size + 1) wr v (frL f (A * N + B) j)) ∧ ShO (Below W.heap.size W wr) ∧
      ShO (Blk wr g 27 #[.int .i64 (N : Int), .string P', .string f]) ∧ ShO (Blk wr W.heap.size 44 #[.int .i64 (A : Int), .int .i64 (B : Int), .bool false, .string s]) ∧ ShO (W.heap.size + 1 ≤ wr.heap.size))
    (fun _ i _ => s.size - (intOf i).toNat)
  case atStart => exact ⟨0, Nat.zero_le _, rfl, ⟨RowJ.made (by rw [S1.out]; exact Nat.le_refl _)⟩, ⟨B0.out.alloc B0.out.size _⟩, ⟨G.out.alloc _⟩, ⟨Q.out.alloc _⟩, ⟨by simp; rw [S1.out]; exact Nat.le_succ _⟩⟩
  case round =>
    obtain ⟨j, hj, rfl, ho, hbw, hgb, hq, hsz⟩ := hrel
    have d2 := hq.out.cells
    obtain ⟨va, vc, rfl, -⟩ := ho.out.form
    by_cases hlt : j < s.size
    · have hBN := HN.out
      have HI2 := ShO.mk (show inBd (N : Int) (A : Int) ((B : Int) + (j : Int)) = true from inBd_iff.2 ⟨⟨by omega, by have := HA.out; omega⟩, by omega, by omega⟩)
      have hw3 : IntKind.i64.wrap ((B : Int) + (j : Int)) = (B : Int) + (j : Int) := IntWalk.i64_in _ (by have := H15.out; omega)
      have HEQ := ShO.mk (show ((A : Int) * (N : Int) + ((B : Int) + (j : Int))).toNat = A * N + B + j by rw [← Int.natCast_add, nat_at]; omega)
      have HLT := ShO.mk hlt
      clear hBN
      go_wp2_with fail
      refine (l11At_any _ HZ.out HI2.out HCS.out hgb.out).mono ?_
      rw [HEQ.out]
      obtain ⟨u, hu⟩ : ∃ u, atB f (A * N + B + j) = u := ⟨_, rfl⟩
      have HU := ShO.mk hu
      rw [hu]
      rintro e w3 ⟨rfl, m, rfl⟩
      have hbd : Below wr.heap.size wr (wr.drewN m) := below_drewO (Below.refl _ _) m
      have O3 := ShO.mk (ho.out.kept hbd)
      have B3 := ShO.mk (below_drewO hbw.out m)
      have G3 := ShO.mk (hgb.out.drewN m)
      have Q3 := ShO.mk (hq.out.drewN m)
      have S3 := ShO.mk (show W.heap.size + 1 ≤ (wr.drewN m).heap.size from hsz.out)
      clear d2 hu hbd ho hbw hgb hq hsz
      obtain ⟨w3, hw3'⟩ : ∃ w3, wr.drewN m = w3 := ⟨_, rfl⟩
      rw [hw3'] at O3 B3 G3 Q3 S3
      rw [hw3']
      clear hw3'
      cases h46 : (u == 46)
      · have hz1 : ((u.toNat : Int) == 46) = false := by rw [dot_byteU]; exact h46
        have HFR := ShO.mk (frL_no (f := f) (b := A * N + B) (m := j) (by rw [HU.out]; exact h46))
        clear h46
        go_wp2
        go_roundw
        case rel => exact ⟨j + 1, HLT.out, by go_num, ⟨by rw [HFR.out]; exact O3.out⟩, B3, G3, Q3, S3⟩
        case measure => simp [intOf]; have := HLT.out; omega
      · have hz1 : ((u.toNat : Int) == 46) = true := by rw [dot_byteU]; exact h46
        have HFR := ShO.mk (frL_yes (f := f) (b := A * N + B) (m := j) (by rw [HU.out]; exact h46))
        have HFL := ShO.mk (frL_len f (A * N + B) j)
        clear h46
        go_wp2_with (at_builtin; go_loud (refine wpList_append_J (B := W.heap.size + 1) (H := w3.heap.size) rfl _ _ rfl _ (frL f (A * N + B) j) j rfl rfl ((Blk.made _ _ _).cells 0) (O3.out.kept ((Below.refl _ _).alloc (Nat.le_refl _) _)) (by have := HFL.out; omega) (by have := S3.out; simp; omega) ?_))
        intro v' w4 hrow hb4
        have hb34 : Below (W.heap.size + 1) w3 w4 := ((Below.refl _ _).alloc S3.out _).trans hb4
        have O4 := ShO.mk hrow
        have G4 := ShO.mk (G3.out.kept hb34 (by have := GL.out; omega))
        have Q4 := ShO.mk (Q3.out.kept hb34 (by omega))
        have B4 := ShO.mk (B3.out.trans (hb34.mono (Nat.le_succ _)))
        have S4 := ShO.mk (show W.heap.size + 1 ≤ w4.heap.size from Nat.le_trans S3.out hb34.size)
        obtain ⟨va', vc', rfl, -⟩ := hrow.form
        clear hrow hb4 hb34 O3 B3 G3 Q3 S3
        go_wp2
        go_roundw
        case rel => exact ⟨j + 1, HLT.out, by go_num, ⟨by rw [HFR.out]; exact O4.out⟩, B4, G4, Q4, S4⟩
        case measure => simp [intOf]; have := HLT.out; omega
    · obtain rfl : j = s.size := by omega
      go_wp2
      go_ret
      exact ⟨_, rfl, ho.out.lower (Nat.le_succ _), hbw.out⟩
end Go.Proofs.YtmkdbahdhobdjaaDoor
