/-
  Affixes and words that the model draws: texts of few bytes, whatever the choices.
-/
import Derived.Test.YtpdphimlpeiifaaG4
import Derived.Test.YtpdphimlpeiifaaF9
import Derived.Test.YtpdphimlpeiifaaF5
namespace Go.Proofs.Ytpdphimlpeiifaa
open Go.RowKit

def someW : List ByteArray := [⟨#[97, 110]⟩, ⟨#[97, 116]⟩, ⟨#[97, 116, 101]⟩, ⟨#[101, 97, 114]⟩, ⟨#[101, 97, 114, 110]⟩, ⟨#[101, 97, 114, 115]⟩, ⟨#[101, 97, 115, 116]⟩, ⟨#[101, 97, 116]⟩, ⟨#[101, 97, 116, 101, 110]⟩, ⟨#[101, 97, 116, 115]⟩, ⟨#[101, 110]⟩, ⟨#[97, 110, 116]⟩, ⟨#[97, 110, 116, 115]⟩, ⟨#[97, 114, 101]⟩, ⟨#[97, 114, 101, 110, 97]⟩, ⟨#[97, 114, 116]⟩, ⟨#[97, 114, 116, 115]⟩, ⟨#[97, 115]⟩, ⟨#[101, 114]⟩, ⟨#[101, 115]⟩, ⟨#[105, 110]⟩, ⟨#[105, 115]⟩, ⟨#[110, 97]⟩, ⟨#[110, 101]⟩, ⟨#[110, 101, 97, 114]⟩, ⟨#[110, 101, 97, 116]⟩, ⟨#[110, 101, 115, 116]⟩, ⟨#[110, 101, 115, 116, 115]⟩, ⟨#[110, 101, 116]⟩, ⟨#[114, 97, 116]⟩, ⟨#[114, 97, 116, 101]⟩, ⟨#[114, 97, 116, 101, 115]⟩, ⟨#[114, 101]⟩, ⟨#[114, 101, 115, 116]⟩, ⟨#[115, 97, 116]⟩, ⟨#[115, 101, 97]⟩, ⟨#[115, 101, 97, 116]⟩, ⟨#[115, 101, 116]⟩, ⟨#[116, 97]⟩, ⟨#[116, 97, 114]⟩, ⟨#[116, 97, 114, 115]⟩, ⟨#[116, 97, 114, 116]⟩, ⟨#[116, 101, 97]⟩, ⟨#[116, 101, 97, 114]⟩, ⟨#[116, 101, 97, 115]⟩, ⟨#[116, 101, 110]⟩, ⟨#[116, 101, 114, 110]⟩, ⟨#[116, 101, 115, 116]⟩, ⟨#[116, 101, 115, 116, 115]⟩, ⟨#[116, 114, 101, 101, 115]⟩, ⟨#[98, 97, 110, 97, 110, 97]⟩, ⟨#[98, 101, 101]⟩, ⟨#[98, 101, 101, 110]⟩, ⟨#[98, 101, 101, 115]⟩, ⟨#[115, 116, 97, 114]⟩, ⟨#[115, 116, 97, 114, 101]⟩, ⟨#[115, 116, 97, 114, 116]⟩, ⟨#[116, 114, 101, 101]⟩, ⟨#[115, 116, 97, 114, 115]⟩, ⟨#[116, 114, 101, 97, 116, 115]⟩]
def oddW : List ByteArray := [⟨#[]⟩, ⟨#[97]⟩, ⟨#[65, 110]⟩, ⟨#[97, 98, 99, 100, 101, 102, 103, 104, 105, 106, 107, 108, 109]⟩, ⟨#[122, 122]⟩]
def bothW : List ByteArray := [⟨#[99, 105, 116, 121]⟩, ⟨#[114, 97, 116, 101, 115]⟩, ⟨#[114, 101, 116, 101, 115, 116]⟩, ⟨#[116, 101, 115, 116, 105, 110, 103]⟩, ⟨#[116, 97, 110, 110, 105, 110, 103]⟩, ⟨#[115, 101, 116]⟩, ⟨#[97, 116]⟩, ⟨#[117, 110, 97, 116]⟩, ⟨#[97, 98, 99, 100, 101, 102, 103, 104, 105, 106, 107, 108]⟩, ⟨#[99, 105, 116, 73, 101, 115]⟩]
def nameW : List ByteArray := [⟨#[112, 108, 117, 114, 97, 108]⟩, ⟨#[97, 99, 116]⟩, ⟨#[101, 114]⟩, ⟨#[114, 101]⟩, ⟨#[117, 110]⟩, ⟨#[120]⟩]
theorem some_short : ∀ x ∈ someW, x.size ≤ 20 := by decide
theorem odd_short : ∀ x ∈ oddW, x.size ≤ 20 := by decide
theorem both_short : ∀ x ∈ bothW, x.size ≤ 20 := by decide
theorem name_short : ∀ x ∈ nameW, x.size ≤ 20 := by decide
/-- The affixes from which one is drawn. -/
def nineA : Array Value := #[.string ⟨#[]⟩, .bool false, .string ⟨#[]⟩, .string ⟨#[]⟩, .string ⟨#[115]⟩, .string ⟨#[]⟩, .bool false, .string ⟨#[46, 121]⟩, .string ⟨#[121]⟩, .string ⟨#[105, 101, 115]⟩, .string ⟨#[]⟩, .bool false, .string ⟨#[101]⟩, .string ⟨#[101]⟩, .string ⟨#[105, 110, 103]⟩, .string ⟨#[]⟩, .bool false, .string ⟨#[116]⟩, .string ⟨#[]⟩, .string ⟨#[101, 114]⟩, .string ⟨#[]⟩, .bool true, .string ⟨#[]⟩, .string ⟨#[]⟩, .string ⟨#[114, 101]⟩, .string ⟨#[]⟩, .bool true, .string ⟨#[97]⟩, .string ⟨#[]⟩, .string ⟨#[117, 110]⟩, .string ⟨#[]⟩, .bool false, .string ⟨#[110]⟩, .string ⟨#[]⟩, .string ⟨#[110, 105, 110, 103]⟩, .string ⟨#[]⟩, .bool true, .string ⟨#[115]⟩, .string ⟨#[115]⟩, .string ⟨#[116]⟩, .string ⟨#[]⟩, .bool false, .string ⟨#[46, 46, 46]⟩, .string ⟨#[97, 116]⟩, .string ⟨#[101, 116]⟩]
theorem nine_at : ∀ m : Nat, m < 9 → ∃ (f : Bool) (n w s a : ByteArray), (n.size ≤ 20 ∧ w.size ≤ 20 ∧ s.size ≤ 20 ∧ a.size ≤ 20) ∧
    nineA[m * 5]? = some (.string n) ∧ nineA[m * 5 + 1]? = some (.bool f) ∧ nineA[m * 5 + 2]? = some (.string w) ∧ nineA[m * 5 + 3]? = some (.string s) ∧ nineA[m * 5 + 4]? = some (.string a) := by
  intro m hm
  match m, hm with
  | 0, _ => exact ⟨_, _, _, _, _, by decide, rfl, rfl, rfl, rfl, rfl⟩
  | 1, _ => exact ⟨_, _, _, _, _, by decide, rfl, rfl, rfl, rfl, rfl⟩
  | 2, _ => exact ⟨_, _, _, _, _, by decide, rfl, rfl, rfl, rfl, rfl⟩
  | 3, _ => exact ⟨_, _, _, _, _, by decide, rfl, rfl, rfl, rfl, rfl⟩
  | 4, _ => exact ⟨_, _, _, _, _, by decide, rfl, rfl, rfl, rfl, rfl⟩
  | 5, _ => exact ⟨_, _, _, _, _, by decide, rfl, rfl, rfl, rfl, rfl⟩
  | 6, _ => exact ⟨_, _, _, _, _, by decide, rfl, rfl, rfl, rfl, rfl⟩
  | 7, _ => exact ⟨_, _, _, _, _, by decide, rfl, rfl, rfl, rfl, rfl⟩
  | 8, _ => exact ⟨_, _, _, _, _, by decide, rfl, rfl, rfl, rfl, rfl⟩

set_option maxHeartbeats 400000 in
theorem l05Some_any (w : World) : Calls Try.prog 140 #[] w fun e w' => e = .returned (.slice (some ⟨w.heap.size, 0, none⟩) 60 60) ∧ w' = w.alloc (.cells (someW.map Value.string).toArray 9) := by
  go_enter Try.func140, Try.ntmps140
  go_wp2
  go_ret
  exact ⟨rfl, rfl⟩
set_option maxRecDepth 100000 in
set_option maxHeartbeats 2000000 in
theorem l05Word_any (w0 w : World) (g : Nat) (v : Value) (zs : List Int) (p : Nat) (s : Int) (h : SrcIs w0 w g v zs p s) (hpm : p ≤ 900000000000) :
    Calls Try.prog 108 #[.pointer (some ⟨g, 0, none⟩)] w (TookT w0 w g v zs p 2 (fun x => x.size ≤ 20)) := by
  have HS := Shh.mk h
  clear h
  go_enter Try.func108, Try.ntmps108
  go_wp2_with fail
  refine (one_any w0 w g v zs p s 8 HS.out (by omega) (by omega) (by omega)).mono ?_
  rintro e w1 ⟨x, p1, s1, rfl, hp1, hs1, hg1⟩
  have HS1 := Shh.mk hs1
  have HG1 := Shh.mk hg1
  have hgl := hs1.blk.lt
  clear hs1 hg1
  cases x
  · go_wp2_with fail
    refine (l05Some_any _).mono ?_
    rintro e w2 ⟨rfl, hw2⟩
    have HS2 := Shh.mk (src_grown HS1.out ((Below.refl _ _).alloc (Nat.le_refl _) (.cells (someW.map Value.string).toArray 9)))
    have HB2 := Shh.mk (Blk.made w1 9 (someW.map Value.string).toArray)
    have HG2 := Shh.mk (grown_trans HG1.out (World.grownBy_alloc w1 (.cells (someW.map Value.string).toArray 9) (some g)))
    rw [← hw2] at HS2 HB2 HG2
    clear hw2
    go_wp2_with fail
    refine (text_any w0 _ g v zs p1 s1 HS2.out (by omega) w1.heap.size someW HB2.out (by omega) (by decide) (by decide)).mono ?_
    rintro e w3 ⟨y, p3, s3, hy, rfl, hp3, hs3, hg3⟩
    have HS3 := Shh.mk hs3
    have HG3 := Shh.mk (grown_trans HG2.out hg3)
    have HY := Shh.mk (some_short y hy)
    clear hs3 hg3 hy
    go_wp2
    go_ret
    exact ⟨y, p3, s3, HY.out, rfl, by omega, HS3.out, HG3.out⟩
  · go_wp2_with fail
    refine (text_any w0 _ g v zs p1 s1 (src_grown HS1.out ((Below.refl _ _).alloc (Nat.le_refl _) _)) (by omega) w1.heap.size oddW (Blk.made w1 _ _) (by omega) (by decide) (by decide)).mono ?_
    rintro e w3 ⟨y, p3, s3, hy, rfl, hp3, hs3, hg3⟩
    have HS3 := Shh.mk hs3
    have HG3 := Shh.mk (grown_trans (grown_trans HG1.out (World.grownBy_alloc w1 _ _)) hg3)
    have HY := Shh.mk (odd_short y hy)
    clear hs3 hg3 hy
    go_wp2
    go_ret
    exact ⟨y, p3, s3, HY.out, rfl, by omega, HS3.out, HG3.out⟩

def zeroA : Array Value := #[.string ⟨#[]⟩, .bool false, .string ⟨#[]⟩, .string ⟨#[]⟩, .string ⟨#[]⟩]
/-- An affix of short texts was drawn. -/
def TookA (w0 w : World) (g : Nat) (v : Value) (zs : List Int) (p d : Nat) (e : Ending) (w' : World) : Prop :=
  ∃ (f : Bool) (n w1 s a : ByteArray) (p' : Nat) (s' : Int), (n.size ≤ 20 ∧ w1.size ≤ 20 ∧ s.size ≤ 20 ∧ a.size ≤ 20) ∧ e = .returned (.agg #[.string n, .bool f, .string w1, .string s, .string a]) ∧ p' ≤ p + d ∧ SrcIs w0 w' g v zs p' s' ∧ w.grownBy w' (some g)

set_option maxRecDepth 100000 in
set_option maxHeartbeats 4000000 in
theorem l04DrawAffix_any (w0 w : World) (g : Nat) (v : Value) (zs : List Int) (p : Nat) (s : Int) (h : SrcIs w0 w g v zs p s) (hpm : p ≤ 900000000000) :
    Calls Try.prog 139 #[.pointer (some ⟨g, 0, none⟩)] w (TookA w0 w g v zs p 2) := by
  have HS := Shh.mk h
  have hgl := h.blk.lt
  clear h
  go_enter Try.func139, Try.ntmps139
  go_wp2_with fail
  refine (pick_any w0 _ g v zs p s 9 (src_grown HS.out (((Below.refl _ _).alloc (Nat.le_refl _) _).alloc (by simp) _)) (by omega) (by omega) (by omega)).mono ?_
  rintro e w1 ⟨x, p1, s1, ⟨hx0, hx1⟩, rfl, hp1, hs1, hg1⟩
  have hmk := Blk.made (w.alloc (.cells zeroA 25)) 25 nineA
  rw [World.size_alloc] at hmk
  have HA := Shh.mk (blk_grown hmk hg1 (by simp; omega))
  have HZ := Shh.mk (blk_grown ((Blk.made w 25 zeroA).alloc (.cells nineA 25)) hg1 (by simp; omega))
  have HS1 := Shh.mk hs1
  have hgl2 : w.heap.size + 2 ≤ w1.heap.size := by have := hg1.size; simp at this; omega
  have HG1 := Shh.mk (grown_trans (grown_trans (World.grownBy_alloc w (.cells zeroA 25) (some g)) (World.grownBy_alloc _ (.cells nineA 25) (some g))) hg1)
  obtain ⟨m, rfl⟩ := Int.eq_ofNat_of_zero_le hx0
  obtain ⟨f, n, w2, s2, a, hsz, e0, e1, e2, e3, e4⟩ := nine_at m (by omega)
  have hm9 : m < 9 := by omega
  have k0 : w1.cell? ⟨w.heap.size + 1, m * 5, none⟩ = some (.string n) := (HA.out.cells _).trans e0
  have k1 : w1.cell? ⟨w.heap.size + 1, m * 5 + 1, none⟩ = some (.bool f) := (HA.out.cells _).trans e1
  have k2 : w1.cell? ⟨w.heap.size + 1, m * 5 + 2, none⟩ = some (.string w2) := (HA.out.cells _).trans e2
  have k3 : w1.cell? ⟨w.heap.size + 1, m * 5 + 3, none⟩ = some (.string s2) := (HA.out.cells _).trans e3
  have k4 : w1.cell? ⟨w.heap.size + 1, m * 5 + 4, none⟩ = some (.string a) := (HA.out.cells _).trans e4
  clear hs1 hg1 e0 e1 e2 e3 e4 hmk hx0 hx1
  have hmt := Blk.made (w1.alloc (.cells #[.string n, .bool f, .string w2, .string s2, .string a] 25)) 9 (nameW.map Value.string).toArray
  rw [World.size_alloc] at hmt
  have HT := Shh.mk hmt
  have HS2 := Shh.mk (src_grown HS1.out (((Below.refl _ _).alloc (Nat.le_refl _) (.cells #[.string n, .bool f, .string w2, .string s2, .string a] 25)).alloc (by simp) (.cells (nameW.map Value.string).toArray 9)))
  clear hmt
  go_wp2_with fail
  refine (text_any w0 _ g v zs p1 s1 HS2.out (by omega) (w1.heap.size + 1) nameW HT.out (by omega) (by decide) (by decide)).mono ?_
  rintro e w3 ⟨y, p3, s3, hy, rfl, hp3, hs3, hg3⟩
  have HY := Shh.mk (name_short y hy)
  have P1 := Shh.mk (blk_grown ((Blk.made w1 25 #[.string n, .bool f, .string w2, .string s2, .string a]).alloc (.cells (nameW.map Value.string).toArray 9)) hg3 (by simp; omega))
  have P0 := Shh.mk (blk_grown ((HZ.out.alloc (.cells #[.string n, .bool f, .string w2, .string s2, .string a] 25)).alloc (.cells (nameW.map Value.string).toArray 9)) hg3 (by simp; omega))
  have HS3 := Shh.mk hs3
  have HG3 := Shh.mk (grown_trans (grown_trans (grown_trans HG1.out (World.grownBy_alloc w1 (.cells #[.string n, .bool f, .string w2, .string s2, .string a] 25) (some g))) (World.grownBy_alloc _ (.cells (nameW.map Value.string).toArray 9) (some g))) hg3)
  have c1 := P1.out.cells
  have f1 := P1.out.marks
  have c0 : ∀ j, w3.cell? ⟨w.heap.size, j, none⟩ = (#[.string ⟨#[]⟩, .bool false, .string ⟨#[]⟩, .string ⟨#[]⟩, .string ⟨#[]⟩] : Array Value)[j]? := P0.out.cells
  have f0 := P0.out.marks
  have hne : w.heap.size ≠ w1.heap.size := by omega
  clear hs3 hg3 hy k0 k1 k2 k3 k4
  go_wp2
  have hw0 := HS.out.below.size
  have HL := (((((Left.mk HS3.out HG3.out).set (b := w1.heap.size) (by omega) hw0 (by omega) 0 (.string y)).set (b := w.heap.size) (by omega) hw0 (by omega) 0 (.string y)).set (b := w.heap.size) (by omega) hw0 (by omega) 1 (.bool f)).set (b := w.heap.size) (by omega) hw0 (by omega) 2 (.string w2)).set (b := w.heap.size) (by omega) hw0 (by omega) 3 (.string s2) |>.set (b := w.heap.size) (by omega) hw0 (by omega) 4 (.string a)
  refine bodyPost_ret (v := .agg #[.string y, .bool f, .string w2, .string s2, .string a]) (by simp [results, Try.results139, go_sem, c0]) rfl ?_
  exact ⟨f, y, w2, s2, a, p3, s3, ⟨HY.out, hsz.2⟩, rfl, by omega, HL.src, HL.grown⟩
end Go.Proofs.Ytpdphimlpeiifaa
