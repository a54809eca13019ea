/-
  The model's source of choices: a text among some; a pile that is drawn.
-/
import Derived.Test.YtcbkidpgefmhoaaG1
import Derived.Test.YtcbkidpgefmhoaaO2
import Derived.Test.YtcbkidpgefmhoaaO4
namespace Go.Proofs.Ytcbkidpgefmhoaa
open Go.RowKit

theorem src_grown {w0 w w' : World} {g : Nat} {v : Value} {zs : List Int} {p : Nat} {s : Int} (h : SrcIs w0 w g v zs p s) (hb : Below w.heap.size w w') : SrcIs w0 w' g v zs p s :=
  ⟨h.below.trans (hb.mono h.below.size), h.place, (hb.block g h.blk.lt).trans h.blk, h.code⟩
theorem grown_below {w w1 w2 : World} {r : Option Nat} (h : w.grownBy w1 r) (hb : Below w1.heap.size w1 w2) : w.grownBy w2 r :=
  grown_trans h ⟨hb.os, hb.tape, hb.output, hb.size, fun k hk _ => hb.block k hk⟩
theorem blk_grown {w w' : World} {r : Option Nat} {b : Nat} {t : TypeId} {cs : Array Value} (h : Blk w b t cs) (hg : w.grownBy w' r) (hne : some b ≠ r) : Blk w' b t cs := (hg.block b h.lt hne).trans h

/-- A text among some was taken, at most d bytes further on; nothing but the source has changed. -/
def TookT (w0 w : World) (g : Nat) (v : Value) (zs : List Int) (p d : Nat) (R : ByteArray → Prop) (e : Ending) (w' : World) : Prop :=
  ∃ (x : ByteArray) (p' : Nat) (s' : Int), R x ∧ e = .returned (.string x) ∧ p' ≤ p + d ∧ SrcIs w0 w' g v zs p' s' ∧ w.grownBy w' (some g)

set_option maxHeartbeats 1000000 in
theorem text_any (w0 w : World) (g : Nat) (v : Value) (zs : List Int) (p : Nat) (s : Int) (h : SrcIs w0 w g v zs p s) (hpm : p ≤ 999999999999)
    (b : Nat) (ss : List ByteArray) (hb : Blk w b 9 (ss.map Value.string).toArray) (hne : b ≠ g) (n1 : 1 ≤ ss.length) (n2 : ss.length ≤ 200) :
    Calls Try.prog 80 #[.pointer (some ⟨g, 0, none⟩), .slice (some ⟨b, 0, none⟩) ss.length ss.length] w (TookT w0 w g v zs p 1 (fun x => x ∈ ss)) := by
  have HB := Shh.mk hb
  clear hb
  go_enter Try.func80, Try.ntmps80
  go_wp2_with fail
  refine (pick_any w0 w g v zs p s _ h hpm (by omega) (by omega)).mono ?_
  rintro e w1 ⟨x, p', s', hx, rfl, hp', hs', hg⟩
  obtain ⟨hx0, hx1⟩ := hx
  obtain ⟨m, rfl⟩ := Int.eq_ofNat_of_zero_le hx0
  have hm : m < ss.length := by omega
  have hb1 := blk_grown HB.out hg (by simp; exact hne)
  have hcell : w1.cell? ⟨b, m, none⟩ = some (.string (ss[m]'hm)) := by
    rw [hb1.cells]
    simp [hm]
  have HS := Shh.mk hs'
  have HG := Shh.mk hg
  have HM := Shh.mk (List.getElem_mem hm)
  obtain ⟨y, hy⟩ : ∃ y, ss[m]'hm = y := ⟨_, rfl⟩
  rw [hy] at hcell HM
  clear hb1 hs' hg h hy
  go_wp2
  go_ret
  exact ⟨y, p', s', HM.out, rfl, hp', HS.out, HG.out⟩
/-- The letters from which piles are drawn. -/
def drawnL : List ByteArray := [⟨#[97]⟩, ⟨#[101]⟩, ⟨#[101]⟩, ⟨#[110]⟩, ⟨#[114]⟩, ⟨#[115]⟩, ⟨#[116]⟩, ⟨#[98]⟩, ⟨#[63]⟩]
theorem drawn_one : ∀ x ∈ drawnL, allTiles x.data.toList = true ∧ x.data.toList.length = 1 := by decide
theorem draw_text (w0 w : World) (g : Nat) (v : Value) (zs : List Int) (p : Nat) (s : Int) (h : SrcIs w0 w g v zs p s) (hpm : p ≤ 999999999999) :
    Calls Try.prog 80 #[.pointer (some ⟨g, 0, none⟩), .slice (some ⟨w.heap.size, 0, none⟩) 9 9]
      (w.alloc (.cells #[.string ⟨#[97]⟩, .string ⟨#[101]⟩, .string ⟨#[101]⟩, .string ⟨#[110]⟩, .string ⟨#[114]⟩, .string ⟨#[115]⟩, .string ⟨#[116]⟩, .string ⟨#[98]⟩, .string ⟨#[63]⟩] 9))
      (fun e w' => ∃ (x : List UInt8) (p' : Nat) (s' : Int), allTiles x = true ∧ x.length = 1 ∧ e = .returned (.string (txt x)) ∧ p' ≤ p + 1 ∧ SrcIs w0 w' g v zs p' s' ∧ w.grownBy w' (some g)) := by
  have hg := h.blk.lt
  refine (text_any w0 _ g v zs p s (src_grown h ((Below.refl _ _).alloc (Nat.le_refl _) _)) hpm w.heap.size drawnL (Blk.made _ _ _) (by omega) (by decide) (by decide)).mono ?_
  rintro e w' ⟨x, p', s', hx, rfl, hp', hs', hgr⟩
  obtain ⟨h1, h2⟩ := drawn_one x hx
  exact ⟨x.data.toList, p', s', h1, h2, by rw [txt_of], hp', hs', grown_trans (World.grownBy_alloc w _ _) hgr⟩

/-- A pile of at most n tiles was drawn; nothing but the source has changed. -/
def DrewP (w0 w : World) (g : Nat) (v : Value) (zs : List Int) (p n : Nat) (e : Ending) (w' : World) : Prop :=
  ∃ (x : List UInt8) (p' : Nat) (s' : Int), pileB x = true ∧ x.length ≤ n ∧ e = .returned (.string (txt x)) ∧ p' ≤ p + 1 + n ∧ SrcIs w0 w' g v zs p' s' ∧ w.grownBy w' (some g)

theorem sort_txt (A : List UInt8) (w : World) (hs : A.length ≤ 1048576) (ht : allTiles A = true) :
    Calls Try.prog 61 #[.string (txt A)] w fun e w' => e = .returned (.string (txt (sortL A))) ∧ Below w.heap.size w w' := by
  have := l03Sort_any (txt A) w (by rw [txt_size]; exact hs) (by rw [txt_list]; exact ht)
  rw [txt_list] at this
  exact this
theorem sortL_pile {A : List UInt8} (ht : allTiles A = true) (h : A.length ≤ 120) : pileB (sortL A) = true := by
  rw [pileB_iff]
  exact ⟨sortL_tiles A, sortL_asc A, by rw [sortL_len ht]; exact h⟩

set_option maxRecDepth 100000 in
set_option maxHeartbeats 2000000 in
theorem l03Draw_any (w0 w : World) (g : Nat) (v : Value) (zs : List Int) (p : Nat) (s : Int) (n : Nat) (h : SrcIs w0 w g v zs p s) (hpm : p ≤ 900000000000) (hn : n ≤ 100) :
    Calls Try.prog 48 #[.pointer (some ⟨g, 0, none⟩), .int .i64 (n : Int)] w (DrewP w0 w g v zs p n) := by
  have HS := Shh.mk h
  clear h
  go_enter Try.func48, Try.ntmps48
  go_wp2_with fail
  refine (pick_any w0 w g v zs p s _ HS.out (by omega) (by omega) (by omega)).mono ?_
  rintro e w1 ⟨x, p1, s1, ⟨hx0, hx1⟩, rfl, hp1, hs1, hg1⟩
  obtain ⟨m, rfl⟩ := Int.eq_ofNat_of_zero_le hx0
  have hm : m ≤ n := by omega
  have HS1 := Shh.mk hs1
  have HG1 := Shh.mk hg1
  clear hs1 hg1 hx0 hx1
  go_wp2
  go_loopw [5, 6] (fun o k wr => ∃ (A : List UInt8) (r q : Nat) (s' : Int), A.length + r ≤ n ∧ q ≤ p + 1 + A.length ∧ o = .string (txt A) ∧ k = .int .i64 r ∧ Shh (allTiles A = true) ∧ Shh (SrcIs w0 wr g v zs q s') ∧ Shh (w.grownBy wr (some g))) (fun _ k _ => (intOf k).toNat)
  case atStart => exact ⟨[], m, p1, s1, by simpa using hm, by simpa using hp1, rfl, rfl, ⟨rfl⟩, HS1, HG1⟩
  case round =>
    obtain ⟨A, r, q, s', hA, hq, rfl, rfl, ht, hS, hG⟩ := hrel
    by_cases hr : 0 < r
    · have hr1 : (0 : Int) < (r : Int) := by omega
      go_wp2_with fail
      refine (draw_text w0 wr g v zs q s' hS.out (by omega)).mono ?_
      rintro e w2 ⟨x, p2, s2, hx1, hx2, rfl, hp2, hs2, hg2⟩
      have HT := Shh.mk (show allTiles (A ++ x) = true by rw [tiles_cat, ht.out, hx1]; rfl)
      have HS2 := Shh.mk hs2
      have HG2 := Shh.mk (grown_trans hG.out hg2)
      have hcat := Shh.mk (show txt A ++ txt x = txt (A ++ x) from cat_arrQ A x)
      have hz : ¬ 9223372036854775807 < (txt A).size + (txt x).size := by rw [txt_size, txt_size]; omega
      clear hs2 hg2 hx1
      go_wp2
      go_roundw
      case rel => exact ⟨A ++ x, r - 1, p2, s2, by rw [List.length_append]; omega, by rw [List.length_append]; omega, by rw [hcat.out], congrArg (Value.int .i64) (by omega), HT, HS2, HG2⟩
      case measure => simp [intOf]; omega
    · obtain rfl : r = 0 := by omega
      have hlen : A.length ≤ 1048576 := by omega
      go_wp2_with fail
      refine (sort_txt A _ hlen ht.out).mono ?_
      rintro e w2 ⟨rfl, hb2⟩
      have HB2 := Shh.mk hb2
      have hx := sortL_len ht.out
      have HP := Shh.mk (sortL_pile ht.out (by omega))
      obtain ⟨X, hX⟩ : ∃ X, sortL A = X := ⟨_, rfl⟩
      rw [hX] at hx HP ⊢
      clear hX hb2
      go_wp2
      go_ret
      exact ⟨X, q, s', HP.out, by omega, rfl, by omega, src_grown hS.out HB2.out, grown_below hG.out HB2.out⟩

theorem src_made {w : World} {v : Value} {zs : List Int} (hz : Ints .u8 w v zs) : SrcIs w (w.alloc (.cells #[v, .int .i64 0, .int .u64 0] 81)) w.heap.size v zs 0 0 :=
  ⟨(Below.refl _ _).alloc (Nat.le_refl _) _, Nat.le_refl _, Blk.made _ _ _, hz⟩
set_option maxHeartbeats 400000 in
theorem l00From_any (w : World) (v : Value) (zs : List Int) (hz : Ints .u8 w v zs) :
    Calls Try.prog 47 #[v] w fun e w' => e = .returned (.pointer (some ⟨w.heap.size, 0, none⟩)) ∧ w' = w.alloc (.cells #[v, .int .i64 0, .int .u64 0] 81) := by
  obtain ⟨a, cap, rfl, -⟩ := hz
  go_enter Try.func47, Try.ntmps47
  go_wp2
  go_ret
  exact ⟨rfl, rfl⟩

/-- Two piles were drawn. -/
def TwoDrawn (w : World) (e : Ending) (w' : World) : Prop :=
  ∃ a b : List UInt8, pileB a = true ∧ a.length ≤ 9 ∧ pileB b = true ∧ b.length ≤ 5 ∧ e = .returned (.tuple #[.string (txt a), .string (txt b)]) ∧ Below w.heap.size w w'
set_option maxHeartbeats 1000000 in
theorem a2Piles_any (w : World) (v : Value) (zs : List Int) (hz : Ints .u8 w v zs) : Calls Try.prog 17 #[v] w (TwoDrawn w) := by
  have HZ := Shh.mk hz
  clear hz
  go_enter Try.func17, Try.ntmps17
  go_wp2_with fail
  refine (l00From_any w v zs HZ.out).mono ?_
  rintro e w1 ⟨rfl, hw1⟩
  have HS := Shh.mk (src_made HZ.out)
  rw [← hw1] at HS
  clear hw1
  go_wp2_with fail
  refine (l03Draw_any w w1 w.heap.size v zs 0 0 9 HS.out (by omega) (by omega)).mono ?_
  rintro e w2 ⟨a, p1, s1, ha1, ha2, rfl, hp1, hs1, hg1⟩
  have HS1 := Shh.mk hs1
  have HA := Shh.mk ha1
  clear hs1 hg1 ha1
  go_wp2_with fail
  refine (l03Draw_any w w2 w.heap.size v zs p1 s1 5 HS1.out (by omega) (by omega)).mono ?_
  rintro e w3 ⟨b, p2, s2, hb1, hb2, rfl, hp2, hs2, hg2⟩
  have HS2 := Shh.mk hs2
  have HB := Shh.mk hb1
  clear hs2 hg2 hb1
  go_wp2
  go_ret2
  exact ⟨a, b, HA.out, ha2, HB.out, hb2, rfl, HS2.out.below⟩

set_option maxHeartbeats 400000 in
/-- Few bytes enough? -/
theorem a2Long_any (w : World) (v : Value) (zs : List Int) (hz : Ints .u8 w v zs) :
    Calls Try.prog 16 #[v, .slice none 0 0] w fun e w' => e = .returned (.bool (decide (3000 < zs.length))) ∧ w = w' := by
  have hl := hz.len
  obtain ⟨a, cap, rfl, -⟩ := hz
  by_cases h : 3000 < zs.length
  · have h1 : (3000 : Int) < (zs.length : Int) := by omega
    have HR := hid (decide_eq_true h)
    go_enter Try.func16, Try.ntmps16
    go_wp2
    go_ret
    exact ⟨ret_bool HR.out.symm, rfl⟩
  · have h1 : ¬ (3000 : Int) < (zs.length : Int) := by omega
    have HR := hid (decide_eq_false h)
    go_enter Try.func16, Try.ntmps16
    go_wp2
    go_ret
    exact ⟨rfl, rfl⟩
end Go.Proofs.Ytcbkidpgefmhoaa
