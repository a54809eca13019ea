/-
  The model's draws of a lexicon and of a word.
-/
import Derived.Test.YtdleinognmdfmaaDoorG4
import Derived.Test.YtdleinognmdfmaaDoorLB
import Derived.Test.YtdleinognmdfmaaDoorL3
namespace Go.Proofs.YtdleinognmdfmaaDoor
open Go.RowKit

/-- The words from which lexicons are drawn. -/
def someL : List ByteArray := [⟨#[97, 110]⟩, ⟨#[97, 116]⟩, ⟨#[97, 116, 101]⟩, ⟨#[101, 97, 114]⟩, ⟨#[101, 97, 114, 110]⟩, ⟨#[101, 97, 114, 115]⟩, ⟨#[101, 97, 115, 116]⟩, ⟨#[101, 97, 116]⟩, ⟨#[101, 97, 116, 101, 110]⟩, ⟨#[101, 97, 116, 115]⟩, ⟨#[101, 110]⟩, ⟨#[97, 110, 116]⟩, ⟨#[97, 110, 116, 115]⟩, ⟨#[97, 114, 101]⟩, ⟨#[97, 114, 101, 110, 97]⟩, ⟨#[97, 114, 116]⟩, ⟨#[97, 114, 116, 115]⟩, ⟨#[97, 115]⟩, ⟨#[101, 114]⟩, ⟨#[101, 115]⟩, ⟨#[105, 110]⟩, ⟨#[105, 115]⟩, ⟨#[110, 97]⟩, ⟨#[110, 101]⟩, ⟨#[110, 101, 97, 114]⟩, ⟨#[110, 101, 97, 116]⟩, ⟨#[110, 101, 115, 116]⟩, ⟨#[110, 101, 115, 116, 115]⟩, ⟨#[110, 101, 116]⟩, ⟨#[114, 97, 116]⟩, ⟨#[114, 97, 116, 101]⟩, ⟨#[114, 97, 116, 101, 115]⟩, ⟨#[114, 101]⟩, ⟨#[114, 101, 115, 116]⟩, ⟨#[115, 97, 116]⟩, ⟨#[115, 101, 97]⟩, ⟨#[115, 101, 97, 116]⟩, ⟨#[115, 101, 116]⟩, ⟨#[116, 97]⟩, ⟨#[116, 97, 114]⟩, ⟨#[116, 97, 114, 115]⟩, ⟨#[116, 97, 114, 116]⟩, ⟨#[116, 101, 97]⟩, ⟨#[116, 101, 97, 114]⟩, ⟨#[116, 101, 97, 115]⟩, ⟨#[116, 101, 110]⟩, ⟨#[116, 101, 114, 110]⟩, ⟨#[116, 101, 115, 116]⟩, ⟨#[116, 101, 115, 116, 115]⟩, ⟨#[116, 114, 101, 101, 115]⟩, ⟨#[98, 97, 110, 97, 110, 97]⟩, ⟨#[98, 101, 101]⟩, ⟨#[98, 101, 101, 110]⟩, ⟨#[98, 101, 101, 115]⟩, ⟨#[115, 116, 97, 114]⟩, ⟨#[115, 116, 97, 114, 101]⟩, ⟨#[115, 116, 97, 114, 116]⟩, ⟨#[116, 114, 101, 101]⟩, ⟨#[115, 116, 97, 114, 115]⟩, ⟨#[116, 114, 101, 97, 116, 115]⟩]
theorem some_all : someL.all (fun x => longB x) = true := by kernel_rfl
theorem some_long {x : ByteArray} (h : x ∈ someL) : longB x = true := List.all_eq_true.1 some_all x h
theorem okL_of {us : List ByteArray} (hr : Rise us) (hl : ∀ x ∈ us, longB x = true) (hn : us.length ≤ 200) : okL us = true := by
  refine okL_all ?_ hn
  have : ∀ n, n ≤ us.length → allTo (okW us) n = true := by
    intro n
    induction n with
    | zero => intro _; exact allTo_zero _
    | succ n ih =>
      intro h
      rw [allTo_succ, ih (by omega), Bool.true_and]
      have h1 := hl _ (strAt_mem (ss := us) (k := n) (by omega))
      cases n with
      | zero => exact okW_first h1
      | succ m => rw [okW_next h1]; exact hr m (m + 1) (by omega) (by omega)
  exact this _ (Nat.le_refl _)
theorem strAt_some {m : Nat} (h : m < 60) : strAt someL m ∈ someL := strAt_mem (by exact h)

theorem l05Some_any (w : World) : Calls Tryd.prog 17 #[] w fun e w' => e = .returned (.slice (some ⟨w.heap.size, 0, none⟩) 60 60) ∧ w' = w.alloc (.cells (someL.map Value.string).toArray 9) := by
  go_enter Tryd.func17, Tryd.ntmps17
  go_wp2
  go_ret
  exact ⟨rfl, rfl⟩
theorem insert_ownM {B : Nat} {w : World} {v : Value} {ss : List ByteArray} (s : ByteArray) (h : OwnS B w v ss) (hr : Rise ss) (hn : ss.length ≤ 1048577) (hB : B ≤ w.heap.size) :
    Calls Tryd.prog 33 #[v, .string s] w fun e w' => ∃ v', e = .returned v' ∧ OwnS B w' v' (insS ss s) ∧ Below w.heap.size w w' := by
  cases hh : hasL ss s
  · rw [insS_new hh]
    exact (insert_new w s h.strs hr hn hh).mono fun e w' ⟨v', h1, h2, h3⟩ => ⟨v', h1, OwnS.lower h2 hB, h3⟩
  · rw [insS_has hh]
    exact (insert_has w s h.strs hr hh).mono fun e w' ⟨h1, h2⟩ => ⟨v, h1, by rw [h2]; exact h, by rw [h2]; exact Below.refl _ _⟩

/-- A lexicon of at most 16 words was drawn. -/
def DrewL (w0 w : World) (g : Nat) (v : Value) (zs : List Int) (e : Ending) (w' : World) : Prop :=
  ∃ (a : Option Addr) (n c : Nat) (us : List ByteArray) (p' : Nat) (s' : Int), Rise us ∧ us.length ≤ 16 ∧ (∀ x ∈ us, x ∈ someL) ∧ e = .returned (.agg #[.slice a n c]) ∧ OwnS w.heap.size w' (.slice a n c) us ∧ SrcIs w0 w' g v zs p' s' ∧ w.grownBy w' (some g)

set_option maxRecDepth 100000 in
set_option maxHeartbeats 2000000 in
theorem l05Draw_any (w0 w : World) (g : Nat) (v : Value) (zs : List Int) (p : Nat) (s : Int) (h : SrcIs w0 w g v zs p s) (hpm : p ≤ 900000000000) :
    Calls Tryd.prog 14 #[.pointer (some ⟨g, 0, none⟩), .int .i64 16] w (DrewL w0 w g v zs) := by
  have HW0 := Shh.mk h.below.size
  have HGL := Shh.mk h.blk.lt
  have b1 := (Below.refl w.heap.size w).alloc (Nat.le_refl _) (.cells #[.slice none 0 0] 26)
  have HR := Shh.mk (Blk.made w 26 #[.slice none 0 0])
  obtain ⟨W1, hW1⟩ : ∃ x, w.alloc (.cells #[.slice none 0 0] 26) = x := ⟨_, rfl⟩
  have hs1 : W1.heap.size = w.heap.size + 1 := by rw [← hW1]; simp
  have HG1 := Shh.mk (show w.grownBy W1 (some g) by rw [← hW1]; exact World.grownBy_alloc _ _ _)
  rw [hW1] at b1 HR
  have HS := Shh.mk (src_grown h b1)
  have HSZ := Shh.mk hs1
  have HW1 := Shh.mk hW1
  clear h b1 hs1 hW1
  go_enter Tryd.func14, Tryd.ntmps14
  go_wp2_with fail
  rw [HW1.out]
  refine (l05Some_any W1).mono ?_
  rintro e w2 ⟨rfl, hw2⟩
  have HB2 := Shh.mk (show Below W1.heap.size W1 w2 by rw [hw2]; exact (Below.refl _ _).alloc (Nat.le_refl _) _)
  have HL2 := Shh.mk (show Blk w2 W1.heap.size 9 (someL.map Value.string).toArray by rw [hw2]; exact Blk.made _ _ _)
  clear hw2
  go_wp2_with fail
  have hal : Below w2.heap.size w2 (w2.alloc (.cells #[] 9)) := (Below.refl _ _).alloc (Nat.le_refl _) _
  have HO := Shh.mk (show OwnS W1.heap.size (w2.alloc (.cells #[] 9)) (.slice (some ⟨w2.heap.size, 0, none⟩) 0 0) [] from World.ownsRow_lit w2 #[] 0 HB2.out.size (by unfold maxLen; omega) rfl)
  have HS3 := Shh.mk (src_grown (src_grown HS.out HB2.out) hal)
  have HB3 := Shh.mk (HB2.out.trans (hal.mono HB2.out.size))
  have HL3 := Shh.mk (HL2.out.kept hal HL2.out.lt)
  obtain ⟨w3, hw3⟩ : ∃ x, w2.alloc (.cells #[] 9) = x := ⟨_, rfl⟩
  rw [hw3] at HO HS3 HB3 HL3 ⊢
  clear hal hw3
  refine (pick_any w0 w3 g v zs p s _ HS3.out (by omega) (by omega) (by omega)).mono ?_
  rintro e w4 ⟨x, p1, s1, ⟨hx0, hx1⟩, rfl, hp1, hs1, hg1⟩
  obtain ⟨m, rfl⟩ := Int.eq_ofNat_of_zero_le hx0
  have hm : m ≤ 16 := by omega
  have hgne : ∀ b, W1.heap.size ≤ b → some b ≠ some g := fun b hb e => by have := HGL.out; have := HSZ.out; injection e; omega
  have HGN := Shh.mk hgne
  have HO4 := Shh.mk (OwnS.grown HO.out hg1 (fun k hk => by have := HGL.out; have := HSZ.out; injection hk with hk; omega))
  have HL4 := Shh.mk (blk_grown HL3.out hg1 (hgne _ (Nat.le_refl _)))
  have HS4 := Shh.mk hs1
  have HG4 := Shh.mk (grown_trans (grown_belowG HG1.out HB3.out) hg1)
  have HR4 := Shh.mk (blk_grown (HR.out.kept HB3.out HR.out.lt) hg1 (by have := HGL.out; intro e; injection e; omega))
  have HZ4 := Shh.mk (show W1.heap.size ≤ w4.heap.size from Nat.le_trans HB3.out.size hg1.size)
  clear hs1 hg1 hgne hx0 hx1
  go_wp2
  go_loopw [6, 7] (fun o k wr => ∃ (us : List ByteArray) (r q : Nat) (s' : Int), us.length + r ≤ 16 ∧ q + r ≤ p + 17 ∧ k = .int .i64 r ∧ Shh (OwnS W1.heap.size wr o us) ∧ Shh (Rise us) ∧ Shh (∀ x ∈ us, x ∈ someL) ∧ Shh (SrcIs w0 wr g v zs q s') ∧ Shh (w.grownBy wr (some g)) ∧
      Shh (Blk wr W1.heap.size 9 (someL.map Value.string).toArray) ∧ Shh (Blk wr w.heap.size 26 #[.slice none 0 0]) ∧ W1.heap.size ≤ wr.heap.size) (fun _ k _ => (intOf k).toNat)
  case atStart => exact ⟨[], m, p1, s1, by simpa using hm, by omega, rfl, HO4, ⟨rise_nil⟩, ⟨fun x hx => by cases hx⟩, HS4, HG4, HL4, HR4, HZ4.out⟩
  case round =>
    obtain ⟨us, r, q, s', hu, hq, rfl, ho, hri, hmem, hS, hG, hL, hR, hz⟩ := hrel
    by_cases hr : 0 < r
    · have hr1 : (0 : Int) < (r : Int) := by omega
      go_wp2_with fail
      refine (pick_any w0 wr g v zs q s' _ hS.out (by omega) (by omega) (by omega)).mono ?_
      rintro e w5 ⟨x, p5, s5, ⟨hx0, hx1⟩, rfl, hp5, hs5, hg5⟩
      obtain ⟨j, rfl⟩ := Int.eq_ofNat_of_zero_le hx0
      have hj : j < 60 := by omega
      have hL5 := blk_grown hL.out hg5 (HGN.out _ (Nat.le_refl _))
      have cj : w5.cell? ⟨W1.heap.size, j, none⟩ = some (.string (strAt someL j)) := by
        rw [hL5.cells]
        have := strAt_map someL j (by exact hj)
        simpa using this
      have HL5 := Shh.mk hL5
      have HM5 := Shh.mk (strAt_some hj)
      obtain ⟨y, hy⟩ : ∃ y, strAt someL j = y := ⟨_, rfl⟩
      rw [hy] at cj HM5
      have HO5 := Shh.mk (OwnS.grown ho.out hg5 (fun k hk => by have := HGL.out; have := HSZ.out; injection hk with hk; omega))
      have HS5 := Shh.mk hs5
      have HG5 := Shh.mk (grown_trans hG.out hg5)
      have HR5 := Shh.mk (blk_grown hR.out hg5 (by have := HGL.out; intro e; injection e; omega))
      have hz5 : W1.heap.size ≤ w5.heap.size := Nat.le_trans hz hg5.size
      clear hs5 hg5 hL5 hy hx0 hx1
      go_wp2_with fail
      refine (insert_ownM y HO5.out hri.out (by omega) hz5).mono ?_
      rintro e w6 ⟨v6, rfl, ho6, hb6⟩
      have HO6 := Shh.mk ho6
      have HRI := Shh.mk (insS_rise (s := y) hri.out)
      have HME := Shh.mk (show ∀ x ∈ insS us y, x ∈ someL from fun x hx => ((insS_mem hri.out).1 hx).elim (hmem.out x) (fun e => by rw [e]; exact HM5.out))
      have hil := (insS_len (ss := us) (s := y)).2
      have HS6 := Shh.mk (src_grown HS5.out hb6)
      have HG6 := Shh.mk (grown_belowG HG5.out hb6)
      have HL6 := Shh.mk (HL5.out.kept hb6 HL5.out.lt)
      have HR6 := Shh.mk (HR5.out.kept hb6 HR5.out.lt)
      have hz6 := Nat.le_trans hz5 hb6.size
      clear ho6 hb6 cj
      go_wp2
      go_roundw
      case rel => exact ⟨insS us y, r - 1, p5, s5, by omega, by omega, congrArg (Value.int .i64) (by omega), HO6, HRI, HME, HS6, HG6, HL6, HR6, hz6⟩
      case measure => simp [intOf]; omega
    · obtain rfl : r = 0 := by omega
      obtain ⟨oa, oc, hov, -, -, -⟩ := own_form ho.out
      subst hov
      obtain ⟨n, hn⟩ : ∃ n, us.length = n := ⟨_, rfl⟩
      have HUL := Shh.mk (show us.length ≤ 16 by omega)
      rw [hn] at ho ⊢
      have c2 := hR.out.cells
      have m2 := hR.out.marks
      clear hn hu
      go_wp2
      refine bodyPost_ret (v := .agg #[.slice oa n oc]) (by simp [results, Tryd.results14, go_sem, c2]) rfl ?_
      have hne : g ≠ w.heap.size := by have := HGL.out; omega
      exact ⟨oa, n, oc, us, q, s', hri.out, HUL.out, hmem.out, rfl, OwnS.lower (OwnS.off ho.out (g := w.heap.size) (by have := HSZ.out; omega) 0 _) (by have := HSZ.out; omega), src_set hS.out HW0.out hne 0 _, grown_setB hG.out (Nat.le_refl _) 0 _⟩

/-- A valid lexicon of few words. -/
structure Drawn (us : List ByteArray) : Prop where
  rise : Rise us
  len : us.length ≤ 16
  mem : ∀ x ∈ us, x ∈ someL
theorem Drawn.ok {us : List ByteArray} (h : Drawn us) : okL us = true := okL_of h.rise (fun x hx => some_long (h.mem x hx)) (by have := h.len; omega)
set_option maxHeartbeats 1000000 in
theorem a2Lexicon_any (w : World) (v : Value) (zs : List Int) (hz : Ints .u8 w v zs) :
    Calls Tryd.prog 5 #[v] w fun e w' => ∃ a n c us, Drawn us ∧ e = .returned (.agg #[.slice a n c]) ∧ OwnS w.heap.size w' (.slice a n c) us ∧ Below w.heap.size w w' := by
  have b1 := (Below.refl w.heap.size w).alloc (Nat.le_refl _) (.cells #[.slice none 0 0] 26)
  have HR := Shh.mk (Blk.made w 26 #[.slice none 0 0])
  have hz2 : Ints .u8 (w.alloc (.cells #[.slice none 0 0] 26)) v zs := hz.below b1
  obtain ⟨W1, hW1⟩ : ∃ x, w.alloc (.cells #[.slice none 0 0] 26) = x := ⟨_, rfl⟩
  have HSZ := Shh.mk (show W1.heap.size = w.heap.size + 1 by rw [← hW1]; simp)
  rw [hW1] at b1 HR hz2
  have HZ := Shh.mk hz2
  have HB1 := Shh.mk b1
  have HW1 := Shh.mk hW1
  obtain ⟨va, vc, rfl, -⟩ := hz
  clear b1 hz2 hW1
  go_enter Tryd.func5, Tryd.ntmps5
  go_wp2_with fail
  rw [HW1.out]
  refine (l00From_any W1 _ zs HZ.out).mono ?_
  rintro e w2 ⟨rfl, hw2⟩
  have HS := Shh.mk (src_made HZ.out)
  rw [← hw2] at HS
  clear hw2
  go_wp2_with fail
  refine (l05Draw_any W1 w2 W1.heap.size _ zs 0 0 HS.out (by omega)).mono ?_
  rintro e w3 ⟨a, n, c, us, p', s', h1, h2, h3, rfl, ho, hs, hg⟩
  have HD := Shh.mk (Drawn.mk h1 h2 h3)
  have HB3 := Shh.mk hs.below
  have HO := Shh.mk ho
  have HR3 := Shh.mk (HR.out.kept hs.below HR.out.lt)
  have HZ2 := Shh.mk HS.out.below.size
  have c2 := HR3.out.cells
  have m2 := HR3.out.marks
  clear h1 h2 h3 ho hs hg
  go_wp2
  refine bodyPost_ret (v := .agg #[.slice a n c]) (by simp [results, Tryd.results5, go_sem, c2]) rfl ?_
  exact ⟨a, n, c, us, HD.out, rfl, OwnS.lower (OwnS.off HO.out (g := w.heap.size) (by have := HSZ.out; have := HZ2.out; omega) 0 _) (by have := HSZ.out; have := HZ2.out; omega), (HB1.out.trans (HB3.out.mono HB1.out.size)).setCell (Nat.le_refl _) _⟩

set_option maxHeartbeats 1000000 in
theorem a2Word_any (w : World) (v : Value) (zs : List Int) (hz : Ints .u8 w v zs) : Calls Tryd.prog 6 #[v] w fun e w' => ∃ y, y ∈ someL ∧ e = .returned (.string y) ∧ Below w.heap.size w w' := by
  have HZ := Shh.mk hz
  obtain ⟨va, vc, rfl, -⟩ := hz
  go_enter Tryd.func6, Tryd.ntmps6
  go_wp2_with fail
  refine (l00From_any w _ zs HZ.out).mono ?_
  rintro e w1 ⟨rfl, hw1⟩
  have HS := Shh.mk (src_made HZ.out)
  have hs1 : w1.heap.size = w.heap.size + 1 := by rw [hw1]; simp
  rw [← hw1] at HS
  have HS1 := Shh.mk hs1
  clear hw1 hs1
  go_wp2_with fail
  refine (l05Some_any w1).mono ?_
  rintro e w2 ⟨rfl, hw2⟩
  have HS2 := Shh.mk (show SrcIs w w2 w.heap.size _ zs 0 0 by rw [hw2]; exact src_grown HS.out ((Below.refl _ _).alloc (Nat.le_refl _) _))
  have HL2 := Shh.mk (show Blk w2 w1.heap.size 9 (someL.map Value.string).toArray by rw [hw2]; exact Blk.made _ _ _)
  clear hw2
  have HT := Shh.mk (text_any w w2 w.heap.size _ zs 0 0 HS2.out (by omega) w1.heap.size someL HL2.out (by have := HS1.out; omega) (by decide) (by decide))
  go_wp2_with fail
  refine HT.out.mono ?_
  rintro e w3 ⟨y, p', s', hy, rfl, hp', hs', hg⟩
  have HB := Shh.mk hs'.below
  clear hs' hg
  go_wp2
  go_ret
  exact ⟨y, hy, rfl, HB.out⟩
end Go.Proofs.YtdleinognmdfmaaDoor
