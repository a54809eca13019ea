/-
  An affix and a word that the model draws.
-/
import Derived.Test.YtpdphimlpeiifaaF11
namespace Go.Proofs.Ytpdphimlpeiifaa
open Go.RowKit

/-- An affix and a word of short texts were drawn. -/
def TookAW (w0 w : World) (g : Nat) (v : Value) (zs : List Int) (p d : Nat) (e : Ending) (w' : World) : Prop :=
  ∃ (f : Bool) (n w1 s a word : ByteArray) (p' : Nat) (s' : Int), (n.size ≤ 20 ∧ w1.size ≤ 20 ∧ s.size ≤ 20 ∧ a.size ≤ 20) ∧ word.size ≤ 20 ∧
    e = .returned (.tuple #[.agg #[.string n, .bool f, .string w1, .string s, .string a], .string word]) ∧ p' ≤ p + d ∧ SrcIs w0 w' g v zs p' s' ∧ w.grownBy w' (some g)

set_option maxRecDepth 100000 in
set_option maxHeartbeats 1000000 in
theorem l04Both_any (w0 w : World) (g : Nat) (v : Value) (zs : List Int) (p : Nat) (s : Int) (h : SrcIs w0 w g v zs p s) (hpm : p ≤ 700000000000) :
    Calls Try.prog 50 #[.pointer (some ⟨g, 0, none⟩)] w (TookAW w0 w g v zs p 8) := by
  have hw0 := h.below.size
  have hgl := h.blk.lt
  have HL0 := Shh.mk ((Left.refl h).alloc (.cells zeroA 25))
  clear h
  go_enter Try.func50, Try.ntmps50
  go_wp2_with fail
  refine (l04BentAffix_any w0 _ g v zs p s HL0.out.src (by omega)).mono ?_
  rintro e w1 ⟨f, n, w2, s2, a, p1, s1, ⟨zn, zw, zs2, za⟩, rfl, hp1, hs1, hg1⟩
  have hz1 : w.heap.size + 1 ≤ w1.heap.size := by have := hg1.size; simpa using this
  have HL1 := Shh.mk ((HL0.out.next hs1 hg1).alloc (.cells #[.string n, .bool f, .string w2, .string s2, .string a] 25))
  have P0 := Shh.mk ((blk_grown (Blk.made w 25 zeroA) hg1 (by simp; omega)).alloc (.cells #[.string n, .bool f, .string w2, .string s2, .string a] 25))
  have P1 := Shh.mk (Blk.made w1 25 #[.string n, .bool f, .string w2, .string s2, .string a])
  have hgl1 : g < w1.heap.size := hs1.blk.lt
  clear hs1 hg1
  go_wp2_with fail
  refine (l05Word_any w0 _ g v zs p1 s1 HL1.out.src (by omega)).mono ?_
  rintro e w3 ⟨y, p3, s3, hy, rfl, hp3, hs3, hg3⟩
  have HL3 := Shh.mk (HL1.out.next hs3 hg3)
  have Q0 := Shh.mk (blk_grown P0.out hg3 (by simp; omega))
  have Q1 := Shh.mk (blk_grown P1.out hg3 (by simp; omega))
  have hz3 : w1.heap.size + 1 ≤ w3.heap.size := by have := hg3.size; simpa using this
  clear hs3 hg3
  go_wp2_with fail
  refine (one_any w0 _ g v zs p3 s3 2 HL3.out.src (by omega) (by omega) (by omega)).mono ?_
  rintro e w4 ⟨x, p4, s4, rfl, hp4, hs4, hg4⟩
  have HL4 := Shh.mk (HL3.out.next hs4 hg4)
  have R0 := Shh.mk (blk_grown Q0.out hg4 (by simp; omega))
  have R1 := Shh.mk (blk_grown Q1.out hg4 (by simp; omega))
  have hz4 : w3.heap.size ≤ w4.heap.size := hg4.size
  have hne : w.heap.size ≠ w1.heap.size := by omega
  clear hs4 hg4
  cases x
  · have c1 := R1.out.cells
    have c0 : ∀ j, w4.cell? ⟨w.heap.size, j, none⟩ = (#[.string ⟨#[]⟩, .bool false, .string ⟨#[]⟩, .string ⟨#[]⟩, .string ⟨#[]⟩] : Array Value)[j]? := R0.out.cells
    have f0 := R0.out.marks
    go_wp2
    have HL := HL4.out.five (b := w.heap.size) (by omega) hw0 (by omega) (.string n) (.bool f) (.string w2) (.string s2) (.string a)
    refine bodyPost_ret (v := .tuple #[.agg #[.string n, .bool f, .string w2, .string s2, .string a], .string y]) (by simp [results, Try.results50, go_sem, c0]) rfl ?_
    exact ⟨f, n, w2, s2, a, y, p4, s4, ⟨zn, zw, zs2, za⟩, hy, rfl, by omega, HL.src, HL.grown⟩
  · have HL5 := Shh.mk (HL4.out.alloc (.cells (bothW.map Value.string).toArray 9))
    have B5 := Shh.mk (Blk.made w4 9 (bothW.map Value.string).toArray)
    have S0 := Shh.mk (R0.out.alloc (.cells (bothW.map Value.string).toArray 9))
    have S1 := Shh.mk (R1.out.alloc (.cells (bothW.map Value.string).toArray 9))
    go_wp2_with fail
    refine (text_any w0 _ g v zs p4 s4 HL5.out.src (by omega) w4.heap.size bothW B5.out (by omega) (by decide) (by decide)).mono ?_
    rintro e w6 ⟨z, p6, s6, hz, rfl, hp6, hs6, hg6⟩
    have HZ := Shh.mk (both_short z hz)
    have HL6 := Shh.mk (HL5.out.next hs6 hg6)
    have T0 := Shh.mk (blk_grown S0.out hg6 (by simp; omega))
    have T1 := Shh.mk (blk_grown S1.out hg6 (by simp; omega))
    clear hs6 hg6 hz
    have c1 := T1.out.cells
    have c0 : ∀ j, w6.cell? ⟨w.heap.size, j, none⟩ = (#[.string ⟨#[]⟩, .bool false, .string ⟨#[]⟩, .string ⟨#[]⟩, .string ⟨#[]⟩] : Array Value)[j]? := T0.out.cells
    have f0 := T0.out.marks
    go_wp2
    have HL := HL6.out.five (b := w.heap.size) (by omega) hw0 (by omega) (.string n) (.bool f) (.string w2) (.string s2) (.string a)
    refine bodyPost_ret (v := .tuple #[.agg #[.string n, .bool f, .string w2, .string s2, .string a], .string z]) (by simp [results, Try.results50, go_sem, c0]) rfl ?_
    exact ⟨f, n, w2, s2, a, z, p6, s6, ⟨zn, zw, zs2, za⟩, HZ.out, rfl, by omega, HL.src, HL.grown⟩

end Go.Proofs.Ytpdphimlpeiifaa
