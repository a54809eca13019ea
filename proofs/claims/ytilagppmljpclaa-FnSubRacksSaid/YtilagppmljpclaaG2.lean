/-
  The model's source of choices: a text among some; a pile that is drawn.
-/
import Derived.Test.YtilagppmljpclaaG1
import Derived.Test.YtilagppmljpclaaG4
import Derived.Test.YtilagppmljpclaaO2
import Derived.Test.YtilagppmljpclaaO4
namespace Go.Proofs.Ytilagppmljpclaa
open Go.RowKit

/-- The letters from which piles are drawn. -/
def drawnL : List ByteArray := [⟨#[97]⟩, ⟨#[101]⟩, ⟨#[101]⟩, ⟨#[110]⟩, ⟨#[114]⟩, ⟨#[115]⟩, ⟨#[116]⟩, ⟨#[98]⟩, ⟨#[63]⟩]
theorem drawn_one : ∀ x ∈ drawnL, allTiles x.data.toList = true ∧ x.data.toList.length = 1 := by decide
theorem draw_text (w0 w : World) (g : Nat) (v : Value) (zs : List Int) (p : Nat) (s : Int) (h : SrcIs w0 w g v zs p s) (hpm : p ≤ 999999999999) :
    Calls Try.prog 98 #[.pointer (some ⟨g, 0, none⟩), .slice (some ⟨w.heap.size, 0, none⟩) 9 9]
      (w.alloc (.cells #[.string ⟨#[97]⟩, .string ⟨#[101]⟩, .string ⟨#[101]⟩, .string ⟨#[110]⟩, .string ⟨#[114]⟩, .string ⟨#[115]⟩, .string ⟨#[116]⟩, .string ⟨#[98]⟩, .string ⟨#[63]⟩] 9))
      (fun e w' => ∃ (x : List UInt8) (p' : Nat) (s' : Int), allTiles x = true ∧ x.length = 1 ∧ e = .returned (.string (txt x)) ∧ p' ≤ p + 1 ∧ SrcIs w0 w' g v zs p' s' ∧ w.grownBy w' (some g)) := by
  have hg := h.blk.lt
  refine (text_any w0 _ g v zs p s (src_grown h ((Below.refl _ _).alloc (Nat.le_refl _) _)) hpm w.heap.size drawnL (Blk.made _ _ _) (by omega) (by decide) (by decide)).mono ?_
  rintro e w' ⟨x, p', s', hx, rfl, hp', hs', hgr⟩
  obtain ⟨h1, h2⟩ := drawn_one x hx
  exact ⟨x.data.toList, p', s', h1, h2, by rw [txt_of], hp', hs', grown_trans (World.grownBy_alloc w _ _) hgr⟩

/-- A pile of at most n tiles was drawn; nothing but the source has changed. -/
def DrewP (w0 w : World) (g : Nat) (v : Value) (zs : List Int) (p n : Nat) (e : Ending) (w' : World) : Prop :=
  ∃ (x : List UInt8) (p' : Nat) (s' : Int), pileB x = true ∧ x.length ≤ n ∧ e = .returned (.string (txt x)) ∧ p' ≤ p + 1 + n ∧ SrcIs w0 w' g v zs p' s' ∧ w.grownBy w' (some g)

theorem sort_txt (A : List UInt8) (w : World) (hs : A.length ≤ 1048576) (ht : allTiles A = true) :
    Calls Try.prog 99 #[.string (txt A)] w fun e w' => e = .returned (.string (txt (sortL A))) ∧ Below w.heap.size w w' := by
  have := l03Sort_any (txt A) w (by rw [txt_size]; exact hs) (by rw [txt_list]; exact ht)
  rw [txt_list] at this
  exact this
theorem sortL_pile {A : List UInt8} (ht : allTiles A = true) (h : A.length ≤ 120) : pileB (sortL A) = true := by
  rw [pileB_iff]
  exact ⟨sortL_tiles A, sortL_asc A, by rw [sortL_len ht]; exact h⟩

set_option maxRecDepth 100000 in
set_option maxHeartbeats 2000000 in
theorem l03Draw_any (w0 w : World) (g : Nat) (v : Value) (zs : List Int) (p : Nat) (s : Int) (n : Nat) (h : SrcIs w0 w g v zs p s) (hpm : p ≤ 900000000000) (hn : n ≤ 100) :
    Calls Try.prog 42 #[.pointer (some ⟨g, 0, none⟩), .int .i64 (n : Int)] w (DrewP w0 w g v zs p n) := by
  have HS := Shh.mk h
  clear h
  go_enter Try.func42, Try.ntmps42
  go_wp2_with fail
  refine (pick_any w0 w g v zs p s _ HS.out (by omega) (by omega) (by omega)).mono ?_
  rintro e w1 ⟨x, p1, s1, ⟨hx0, hx1⟩, rfl, hp1, hs1, hg1⟩
  obtain ⟨m, rfl⟩ := Int.eq_ofNat_of_zero_le hx0
  have hm : m ≤ n := by omega
  have HS1 := Shh.mk hs1
  have HG1 := Shh.mk hg1
  clear hs1 hg1 hx0 hx1
  go_wp2
  go_loopw [5, 6] (fun o k wr => ∃ (A : List UInt8) (r q : Nat) (s' : Int), A.length + r ≤ n ∧ q ≤ p + 1 + A.length ∧ o = .string (txt A) ∧ k = .int .i64 r ∧ Shh (allTiles A = true) ∧ Shh (SrcIs w0 wr g v zs q s') ∧ Shh (w.grownBy wr (some g))) (fun _ k _ => (intOf k).toNat)
  case atStart => exact ⟨[], m, p1, s1, by simpa using hm, by simpa using hp1, rfl, rfl, ⟨rfl⟩, HS1, HG1⟩
  case round =>
    obtain ⟨A, r, q, s', hA, hq, rfl, rfl, ht, hS, hG⟩ := hrel
    by_cases hr : 0 < r
    · have hr1 : (0 : Int) < (r : Int) := by omega
      go_wp2_with fail
      refine (draw_text w0 wr g v zs q s' hS.out (by omega)).mono ?_
      rintro e w2 ⟨x, p2, s2, hx1, hx2, rfl, hp2, hs2, hg2⟩
      have HT := Shh.mk (show allTiles (A ++ x) = true by rw [tiles_cat, ht.out, hx1]; rfl)
      have HS2 := Shh.mk hs2
      have HG2 := Shh.mk (grown_trans hG.out hg2)
      have hcat := Shh.mk (show txt A ++ txt x = txt (A ++ x) from cat_arrQ A x)
      have hz : ¬ 9223372036854775807 < (txt A).size + (txt x).size := by rw [txt_size, txt_size]; omega
      clear hs2 hg2 hx1
      go_wp2
      go_roundw
      case rel => exact ⟨A ++ x, r - 1, p2, s2, by rw [List.length_append]; omega, by rw [List.length_append]; omega, by rw [hcat.out], congrArg (Value.int .i64) (by omega), HT, HS2, HG2⟩
      case measure => simp [intOf]; omega
    · obtain rfl : r = 0 := by omega
      have hlen : A.length ≤ 1048576 := by omega
      go_wp2_with fail
      refine (sort_txt A _ hlen ht.out).mono ?_
      rintro e w2 ⟨rfl, hb2⟩
      have HB2 := Shh.mk hb2
      have hx := sortL_len ht.out
      have HP := Shh.mk (sortL_pile ht.out (by omega))
      obtain ⟨X, hX⟩ : ∃ X, sortL A = X := ⟨_, rfl⟩
      rw [hX] at hx HP ⊢
      clear hX hb2
      go_wp2
      go_ret
      exact ⟨X, q, s', HP.out, by omega, rfl, by omega, src_grown hS.out HB2.out, grown_belowG hG.out HB2.out⟩

/-- Two piles were drawn. -/
def TwoDrawn (w : World) (e : Ending) (w' : World) : Prop :=
  ∃ a b : List UInt8, pileB a = true ∧ a.length ≤ 9 ∧ pileB b = true ∧ b.length ≤ 5 ∧ e = .returned (.tuple #[.string (txt a), .string (txt b)]) ∧ Below w.heap.size w w'

set_option maxHeartbeats 400000 in
/-- Few bytes enough? -/
theorem a2Long_any (w : World) (v : Value) (zs : List Int) (hz : Ints .u8 w v zs) :
    Calls Try.prog 10 #[v, .slice none 0 0] w fun e w' => e = .returned (.bool (decide (3000 < zs.length))) ∧ w = w' := by
  have hl := hz.len
  obtain ⟨a, cap, rfl, -⟩ := hz
  by_cases h : 3000 < zs.length
  · have h1 : (3000 : Int) < (zs.length : Int) := by omega
    have HR := hid (decide_eq_true h)
    go_enter Try.func10, Try.ntmps10
    go_wp2
    go_ret
    exact ⟨ret_bool HR.out.symm, rfl⟩
  · have h1 : ¬ (3000 : Int) < (zs.length : Int) := by omega
    have HR := hid (decide_eq_false h)
    go_enter Try.func10, Try.ntmps10
    go_wp2
    go_ret
    exact ⟨rfl, rfl⟩
end Go.Proofs.Ytilagppmljpclaa
