/-
  Affixes that the model draws, bent ones among them; an affix and a word.
-/
import Derived.Test.YtpdphimlpeiifaaF10
namespace Go.Proofs.Ytpdphimlpeiifaa
open Go.RowKit

theorem Left.five {w0 w wr : World} {g : Nat} {v : Value} {zs : List Int} {p : Nat} {s : Int} (h : Left w0 w wr g v zs p s) {b : Nat} (hb : w.heap.size ≤ b) (hw : w0.heap.size ≤ w.heap.size) (hne : g ≠ b) (u0 u1 u2 u3 u4 : Value) :
    Left w0 w (((((wr.setCell ⟨b, 0, none⟩ u0).setCell ⟨b, 1, none⟩ u1).setCell ⟨b, 2, none⟩ u2).setCell ⟨b, 3, none⟩ u3).setCell ⟨b, 4, none⟩ u4) g v zs p s :=
  ((((h.set hb hw hne 0 u0).set hb hw hne 1 u1).set hb hw hne 2 u2).set hb hw hne 3 u3).set hb hw hne 4 u4
def bentW : List ByteArray := [⟨#[97, 97, 97, 97, 97]⟩, ⟨#[97, 97, 97, 97]⟩, ⟨#[65]⟩, ⟨#[46, 46, 46, 46]⟩]
def bentS (a : ByteArray) : List ByteArray := [⟨#[97, 97, 97, 97, 97]⟩, ⟨#[46]⟩, a]
def bentA (s : ByteArray) : List ByteArray := [⟨#[97, 97, 97, 97, 97]⟩, ⟨#[97, 97, 97, 97]⟩, ⟨#[49]⟩, s]
theorem bentW_short : ∀ x ∈ bentW, x.size ≤ 20 := by decide
theorem bentS_short {a : ByteArray} (h : a.size ≤ 20) : ∀ x ∈ bentS a, x.size ≤ 20 := by
  intro x hx
  simp only [bentS, List.mem_cons, List.not_mem_nil, or_false] at hx
  rcases hx with rfl | rfl | rfl
  · decide
  · decide
  · exact h
theorem bentA_short {a : ByteArray} (h : a.size ≤ 20) : ∀ x ∈ bentA a, x.size ≤ 20 := by
  intro x hx
  simp only [bentA, List.mem_cons, List.not_mem_nil, or_false] at hx
  rcases hx with rfl | rfl | rfl | rfl
  · decide
  · decide
  · decide
  · exact h

set_option maxRecDepth 100000 in
set_option maxHeartbeats 8000000 in
theorem l04BentAffix_any (w0 w : World) (g : Nat) (v : Value) (zs : List Int) (p : Nat) (s : Int) (h : SrcIs w0 w g v zs p s) (hpm : p ≤ 800000000000) :
    Calls Try.prog 107 #[.pointer (some ⟨g, 0, none⟩)] w (TookA w0 w g v zs p 4) := by
  have hw0 := h.below.size
  have hgl := h.blk.lt
  have HL0 := Shh.mk ((Left.refl h).alloc (.cells zeroA 25))
  clear h
  go_enter Try.func107, Try.ntmps107
  go_wp2_with fail
  refine (l04DrawAffix_any w0 _ g v zs p s HL0.out.src (by omega)).mono ?_
  rintro e w1 ⟨f, n, w2, s2, a, p1, s1, ⟨zn, zw, zs2, za⟩, rfl, hp1, hs1, hg1⟩
  have hz1 : w.heap.size + 1 ≤ w1.heap.size := by have := hg1.size; simpa using this
  have HL1 := Shh.mk ((HL0.out.next hs1 hg1).alloc (.cells #[.string n, .bool f, .string w2, .string s2, .string a] 25))
  have P0 := Shh.mk ((blk_grown (Blk.made w 25 zeroA) hg1 (by simp; omega)).alloc (.cells #[.string n, .bool f, .string w2, .string s2, .string a] 25))
  have P1 := Shh.mk (Blk.made w1 25 #[.string n, .bool f, .string w2, .string s2, .string a])
  have hgl1 : g < w1.heap.size := hs1.blk.lt
  clear hs1 hg1
  go_wp2_with fail
  refine (pick_any w0 _ g v zs p1 s1 30 HL1.out.src (by omega) (by omega) (by omega)).mono ?_
  rintro e w3 ⟨x, p3, s3, ⟨hx0, hx1⟩, rfl, hp3, hs3, hg3⟩
  have HL3 := Shh.mk (HL1.out.next hs3 hg3)
  have Q0 := Shh.mk (blk_grown P0.out hg3 (by simp; omega))
  have Q1 := Shh.mk (blk_grown P1.out hg3 (by simp; omega))
  have hz3 : w1.heap.size + 1 ≤ w3.heap.size := by have := hg3.size; simpa using this
  have c1 := Q1.out.cells
  have f1 := Q1.out.marks
  have c0 : ∀ j, w3.cell? ⟨w.heap.size, j, none⟩ = (#[.string ⟨#[]⟩, .bool false, .string ⟨#[]⟩, .string ⟨#[]⟩, .string ⟨#[]⟩] : Array Value)[j]? := Q0.out.cells
  have f0 := Q0.out.marks
  have hne : w.heap.size ≠ w1.heap.size := by omega
  clear hs3 hg3
  by_cases e0 : x = 0
  · subst e0
    go_wp2
    have HL := (HL3.out.set (b := w1.heap.size) (by omega) hw0 (by omega) 0 (.string ⟨#[]⟩)).five (b := w.heap.size) (by omega) hw0 (by omega) (.string ⟨#[]⟩) (.bool f) (.string w2) (.string s2) (.string a)
    refine bodyPost_ret (v := .agg #[.string ⟨#[]⟩, .bool f, .string w2, .string s2, .string a]) (by simp [results, Try.results107, go_sem, c0]) rfl ?_
    exact ⟨f, ⟨#[]⟩, w2, s2, a, p3, s3, ⟨by decide, zw, zs2, za⟩, rfl, by omega, HL.src, HL.grown⟩
  · have e0' : (x == 0) = false := beq_eq_false_iff_ne.2 e0
    by_cases e1 : x = 1
    · subst e1
      have HL4 := Shh.mk (HL3.out.alloc (.cells (bentW.map Value.string).toArray 9))
      have B4 := Shh.mk (Blk.made w3 9 (bentW.map Value.string).toArray)
      have R0 := Shh.mk (Q0.out.alloc (.cells (bentW.map Value.string).toArray 9))
      have R1 := Shh.mk (Q1.out.alloc (.cells (bentW.map Value.string).toArray 9))
      clear e0 e0'
      go_wp2_with fail
      refine (text_any w0 _ g v zs p3 s3 HL4.out.src (by omega) w3.heap.size bentW B4.out (by omega) (by decide) (by decide)).mono ?_
      rintro e w5 ⟨y, p5, s5, hy, rfl, hp5, hs5, hg5⟩
      have HY := Shh.mk (bentW_short y hy)
      have HL5 := Shh.mk (HL4.out.next hs5 hg5)
      have T0 := Shh.mk (blk_grown R0.out hg5 (by simp; omega))
      have T1 := Shh.mk (blk_grown R1.out hg5 (by simp; omega))
      clear hs5 hg5 hy c1 f1 c0 f0
      have c1 := T1.out.cells
      have f1 := T1.out.marks
      have c0 : ∀ j, w5.cell? ⟨w.heap.size, j, none⟩ = (#[.string ⟨#[]⟩, .bool false, .string ⟨#[]⟩, .string ⟨#[]⟩, .string ⟨#[]⟩] : Array Value)[j]? := T0.out.cells
      have f0 := T0.out.marks
      go_wp2
      have HL := (HL5.out.set (b := w1.heap.size) (by omega) hw0 (by omega) 2 (.string y)).five (b := w.heap.size) (by omega) hw0 (by omega) (.string n) (.bool f) (.string y) (.string s2) (.string a)
      refine bodyPost_ret (v := .agg #[.string n, .bool f, .string y, .string s2, .string a]) (by simp [results, Try.results107, go_sem, c0]) rfl ?_
      exact ⟨f, n, y, s2, a, p5, s5, ⟨zn, HY.out, zs2, za⟩, rfl, by omega, HL.src, HL.grown⟩
    · have e1' : (x == 1) = false := beq_eq_false_iff_ne.2 e1
      by_cases e2 : x = 2
      · subst e2
        have HL4 := Shh.mk (HL3.out.alloc (.cells ((bentS a).map Value.string).toArray 9))
        have B4 := Shh.mk (Blk.made w3 9 ((bentS a).map Value.string).toArray)
        have R0 := Shh.mk (Q0.out.alloc (.cells ((bentS a).map Value.string).toArray 9))
        have R1 := Shh.mk (Q1.out.alloc (.cells ((bentS a).map Value.string).toArray 9))
        clear e0 e0' e1 e1'
        go_wp2_with fail
        refine (text_any w0 _ g v zs p3 s3 HL4.out.src (by omega) w3.heap.size (bentS a) B4.out (by omega) (by simp [bentS]) (by simp [bentS])).mono ?_
        rintro e w5 ⟨y, p5, s5, hy, rfl, hp5, hs5, hg5⟩
        have HY := Shh.mk (bentS_short za y hy)
        have HL5 := Shh.mk (HL4.out.next hs5 hg5)
        have T0 := Shh.mk (blk_grown R0.out hg5 (by simp; omega))
        have T1 := Shh.mk (blk_grown R1.out hg5 (by simp; omega))
        clear hs5 hg5 hy c1 f1 c0 f0
        have c1 := T1.out.cells
        have f1 := T1.out.marks
        have c0 : ∀ j, w5.cell? ⟨w.heap.size, j, none⟩ = (#[.string ⟨#[]⟩, .bool false, .string ⟨#[]⟩, .string ⟨#[]⟩, .string ⟨#[]⟩] : Array Value)[j]? := T0.out.cells
        have f0 := T0.out.marks
        go_wp2
        have HL := (HL5.out.set (b := w1.heap.size) (by omega) hw0 (by omega) 3 (.string y)).five (b := w.heap.size) (by omega) hw0 (by omega) (.string n) (.bool f) (.string w2) (.string y) (.string a)
        refine bodyPost_ret (v := .agg #[.string n, .bool f, .string w2, .string y, .string a]) (by simp [results, Try.results107, go_sem, c0]) rfl ?_
        exact ⟨f, n, w2, y, a, p5, s5, ⟨zn, zw, HY.out, za⟩, rfl, by omega, HL.src, HL.grown⟩
      · have e2' : (x == 2) = false := beq_eq_false_iff_ne.2 e2
        by_cases e3 : x = 3
        · subst e3
          have HL4 := Shh.mk (HL3.out.alloc (.cells ((bentA s2).map Value.string).toArray 9))
          have B4 := Shh.mk (Blk.made w3 9 ((bentA s2).map Value.string).toArray)
          have R0 := Shh.mk (Q0.out.alloc (.cells ((bentA s2).map Value.string).toArray 9))
          have R1 := Shh.mk (Q1.out.alloc (.cells ((bentA s2).map Value.string).toArray 9))
          clear e0 e0' e1 e1' e2 e2'
          go_wp2_with fail
          refine (text_any w0 _ g v zs p3 s3 HL4.out.src (by omega) w3.heap.size (bentA s2) B4.out (by omega) (by simp [bentA]) (by simp [bentA])).mono ?_
          rintro e w5 ⟨y, p5, s5, hy, rfl, hp5, hs5, hg5⟩
          have HY := Shh.mk (bentA_short zs2 y hy)
          have HL5 := Shh.mk (HL4.out.next hs5 hg5)
          have T0 := Shh.mk (blk_grown R0.out hg5 (by simp; omega))
          have T1 := Shh.mk (blk_grown R1.out hg5 (by simp; omega))
          clear hs5 hg5 hy c1 f1 c0 f0
          have c1 := T1.out.cells
          have f1 := T1.out.marks
          have c0 : ∀ j, w5.cell? ⟨w.heap.size, j, none⟩ = (#[.string ⟨#[]⟩, .bool false, .string ⟨#[]⟩, .string ⟨#[]⟩, .string ⟨#[]⟩] : Array Value)[j]? := T0.out.cells
          have f0 := T0.out.marks
          go_wp2
          have HL := (HL5.out.set (b := w1.heap.size) (by omega) hw0 (by omega) 4 (.string y)).five (b := w.heap.size) (by omega) hw0 (by omega) (.string n) (.bool f) (.string w2) (.string s2) (.string y)
          refine bodyPost_ret (v := .agg #[.string n, .bool f, .string w2, .string s2, .string y]) (by simp [results, Try.results107, go_sem, c0]) rfl ?_
          exact ⟨f, n, w2, s2, y, p5, s5, ⟨zn, zw, zs2, HY.out⟩, rfl, by omega, HL.src, HL.grown⟩
        · have e3' : (x == 3) = false := beq_eq_false_iff_ne.2 e3
          clear e0 e1 e2 e3
          go_wp2
          have HL := HL3.out.five (b := w.heap.size) (by omega) hw0 (by omega) (.string n) (.bool f) (.string w2) (.string s2) (.string a)
          refine bodyPost_ret (v := .agg #[.string n, .bool f, .string w2, .string s2, .string a]) (by simp [results, Try.results107, go_sem, c0]) rfl ?_
          exact ⟨f, n, w2, s2, a, p3, s3, ⟨zn, zw, zs2, za⟩, rfl, by omega, HL.src, HL.grown⟩
end Go.Proofs.Ytpdphimlpeiifaa
