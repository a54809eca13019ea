/-
  The model's source of choices: a text among some, a choice that says yes once in n times.
-/
import Derived.Test.YtpeobloofofnlaaG1
namespace Go.Proofs.Ytpeobloofofnlaa
open Go.RowKit

theorem src_grown {w0 w w' : World} {g : Nat} {v : Value} {zs : List Int} {p : Nat} {s : Int} (h : SrcIs w0 w g v zs p s) (hb : Below w.heap.size w w') : SrcIs w0 w' g v zs p s :=
  ⟨h.below.trans (hb.mono h.below.size), h.place, (hb.block g h.blk.lt).trans h.blk, h.code⟩
theorem grown_belowG {w w1 w2 : World} {r : Option Nat} (h : w.grownBy w1 r) (hb : Below w1.heap.size w1 w2) : w.grownBy w2 r :=
  grown_trans h ⟨hb.os, hb.tape, hb.output, hb.size, fun k hk _ => hb.block k hk⟩
theorem blk_grown {w w' : World} {r : Option Nat} {b : Nat} {t : TypeId} {cs : Array Value} (h : Blk w b t cs) (hg : w.grownBy w' r) (hne : some b ≠ r) : Blk w' b t cs := (hg.block b h.lt hne).trans h

/-- A text among some was taken, at most d bytes further on; nothing but the source has changed. -/
def TookT (w0 w : World) (g : Nat) (v : Value) (zs : List Int) (p d : Nat) (R : ByteArray → Prop) (e : Ending) (w' : World) : Prop :=
  ∃ (x : ByteArray) (p' : Nat) (s' : Int), R x ∧ e = .returned (.string x) ∧ p' ≤ p + d ∧ SrcIs w0 w' g v zs p' s' ∧ w.grownBy w' (some g)

set_option maxHeartbeats 1000000 in
theorem text_any (w0 w : World) (g : Nat) (v : Value) (zs : List Int) (p : Nat) (s : Int) (h : SrcIs w0 w g v zs p s) (hpm : p ≤ 999999999999)
    (b : Nat) (ss : List ByteArray) (hb : Blk w b 9 (ss.map Value.string).toArray) (hne : b ≠ g) (n1 : 1 ≤ ss.length) (n2 : ss.length ≤ 200) :
    Calls Try.prog 80 #[.pointer (some ⟨g, 0, none⟩), .slice (some ⟨b, 0, none⟩) ss.length ss.length] w (TookT w0 w g v zs p 1 (fun x => x ∈ ss)) := by
  have HB := Shh.mk hb
  clear hb
  go_enter Try.func80, Try.ntmps80
  go_wp2_with fail
  refine (pick_any w0 w g v zs p s _ h hpm (by omega) (by omega)).mono ?_
  rintro e w1 ⟨x, p', s', hx, rfl, hp', hs', hg⟩
  obtain ⟨hx0, hx1⟩ := hx
  obtain ⟨m, rfl⟩ := Int.eq_ofNat_of_zero_le hx0
  have hm : m < ss.length := by omega
  have hb1 := blk_grown HB.out hg (by simp; exact hne)
  have hcell : w1.cell? ⟨b, m, none⟩ = some (.string (ss[m]'hm)) := by
    rw [hb1.cells]
    simp [hm]
  have HS := Shh.mk hs'
  have HG := Shh.mk hg
  have HM := Shh.mk (List.getElem_mem hm)
  obtain ⟨y, hy⟩ : ∃ y, ss[m]'hm = y := ⟨_, rfl⟩
  rw [hy] at hcell HM
  clear hb1 hs' hg h hy
  go_wp2
  go_ret
  exact ⟨y, p', s', HM.out, rfl, hp', HS.out, HG.out⟩
theorem src_made {w : World} {v : Value} {zs : List Int} (hz : Ints .u8 w v zs) : SrcIs w (w.alloc (.cells #[v, .int .i64 0, .int .u64 0] 146)) w.heap.size v zs 0 0 :=
  ⟨(Below.refl _ _).alloc (Nat.le_refl _) _, Nat.le_refl _, Blk.made _ _ _, hz⟩
set_option maxHeartbeats 400000 in
theorem l00From_any (w : World) (v : Value) (zs : List Int) (hz : Ints .u8 w v zs) :
    Calls Try.prog 77 #[v] w fun e w' => e = .returned (.pointer (some ⟨w.heap.size, 0, none⟩)) ∧ w' = w.alloc (.cells #[v, .int .i64 0, .int .u64 0] 146) := by
  obtain ⟨a, cap, rfl, -⟩ := hz
  go_enter Try.func77, Try.ntmps77
  go_wp2
  go_ret
  exact ⟨rfl, rfl⟩


theorem src_set {w0 w : World} {g : Nat} {v : Value} {zs : List Int} {p : Nat} {s : Int} (h : SrcIs w0 w g v zs p s) {b : Nat} (hb : w0.heap.size ≤ b) (hne : g ≠ b) (j : Nat) (u : Value) : SrcIs w0 (w.setCell ⟨b, j, none⟩ u) g v zs p s :=
  ⟨h.below.setCell hb u, h.place, h.blk.other hne u, h.code⟩
theorem grown_setB {w wr : World} {r : Option Nat} (h : w.grownBy wr r) {b : Nat} (hb : w.heap.size ≤ b) (j : Nat) (u : Value) : w.grownBy (wr.setCell ⟨b, j, none⟩ u) r :=
  ⟨h.os, h.tape, h.output, by simpa [World.setCell] using h.size, fun i hi hn => (Below.heap_setCell wr ⟨b, j, none⟩ u i (fun e => by simp only at e; omega)).trans (h.block i hi hn)⟩
/-- What a draw leaves: the source, further on; nothing else of what was there has changed. -/
structure Left (w0 w wr : World) (g : Nat) (v : Value) (zs : List Int) (p : Nat) (s : Int) : Prop where
  src : SrcIs w0 wr g v zs p s
  grown : w.grownBy wr (some g)
theorem Left.set {w0 w wr : World} {g : Nat} {v : Value} {zs : List Int} {p : Nat} {s : Int} (h : Left w0 w wr g v zs p s) {b : Nat} (hb : w.heap.size ≤ b) (hw : w0.heap.size ≤ w.heap.size) (hne : g ≠ b) (j : Nat) (u : Value) : Left w0 w (wr.setCell ⟨b, j, none⟩ u) g v zs p s :=
  ⟨src_set h.src (by omega) hne j u, grown_setB h.grown hb j u⟩
theorem Left.alloc {w0 w wr : World} {g : Nat} {v : Value} {zs : List Int} {p : Nat} {s : Int} (h : Left w0 w wr g v zs p s) (o : Obj) : Left w0 w (wr.alloc o) g v zs p s :=
  ⟨src_grown h.src ((Below.refl _ _).alloc (Nat.le_refl _) o), grown_trans h.grown (World.grownBy_alloc wr o (some g))⟩
theorem Left.refl {w0 w : World} {g : Nat} {v : Value} {zs : List Int} {p : Nat} {s : Int} (h : SrcIs w0 w g v zs p s) : Left w0 w w g v zs p s := ⟨h, grown_self w _⟩
theorem Left.next {w0 w w1 w2 : World} {g : Nat} {v : Value} {zs : List Int} {p p' : Nat} {s s' : Int} (h : Left w0 w w1 g v zs p s) (hs : SrcIs w0 w2 g v zs p' s') (hg : w1.grownBy w2 (some g)) : Left w0 w w2 g v zs p' s' := ⟨hs, grown_trans h.grown hg⟩
theorem Left.quiet {w0 w w1 w2 : World} {g : Nat} {v : Value} {zs : List Int} {p : Nat} {s : Int} (h : Left w0 w w1 g v zs p s) (hb : Below w1.heap.size w1 w2) : Left w0 w w2 g v zs p s := ⟨src_grown h.src hb, grown_belowG h.grown hb⟩

/-- A yes or a no was taken. -/
def TookB (w0 w : World) (g : Nat) (v : Value) (zs : List Int) (p d : Nat) (e : Ending) (w' : World) : Prop :=
  ∃ (x : Bool) (p' : Nat) (s' : Int), e = .returned (.bool x) ∧ p' ≤ p + d ∧ SrcIs w0 w' g v zs p' s' ∧ w.grownBy w' (some g)
set_option maxHeartbeats 1000000 in
theorem one_any (w0 w : World) (g : Nat) (v : Value) (zs : List Int) (p : Nat) (s n : Int) (h : SrcIs w0 w g v zs p s) (hpm : p ≤ 999999999999) (h1 : 1 ≤ n) (h2 : n ≤ 200) :
    Calls Try.prog 109 #[.pointer (some ⟨g, 0, none⟩), .int .i64 n] w (TookB w0 w g v zs p 1) := by
  have HS := Shh.mk h
  clear h
  go_enter Try.func109, Try.ntmps109
  go_wp2_with fail
  refine (pick_any w0 w g v zs p s n HS.out hpm h1 h2).mono ?_
  rintro e w1 ⟨x, p', s', hx, rfl, hp', hs', hg⟩
  have HS1 := Shh.mk hs'
  have HG := Shh.mk hg
  clear hs' hg hx
  go_wp2
  go_ret
  exact ⟨_, p', s', rfl, hp', HS1.out, HG.out⟩
end Go.Proofs.Ytpeobloofofnlaa
