/-
  The laws' helpers on grammars: copies.
-/
import Derived.Test.YtilagppmljpclaaH3
namespace Go.Proofs.Ytilagppmljpclaa
open Go.RowKit

/-! ### Strings -/


/-! ### Affixes -/
theorem own_blk {w : World} {B g n size cap : Nat} {e : TypeId} {xs : List Value} (h : w.ownsRow B e size (.slice (some ⟨g, 0, none⟩) n cap) n xs) : ∃ cur, Blk w g e cur ∧ cur.size = cap * size := by
  rcases h.2 with ⟨h', _⟩ | ⟨g', cap', cur, h', hb, hg, hnc, hcm, hcs, htake⟩
  · simp at h'
  · simp only [Value.slice.injEq, Option.some.injEq, Addr.mk.injEq, and_true, true_and] at h'
    obtain ⟨rfl, rfl⟩ := h'
    exact ⟨cur, hg, hcs⟩
/-- The cells of an affix. -/
def affC (x : Aff) : Nat → Value
  | 0 => .string x.n
  | 1 => .bool x.f
  | 2 => .string x.w
  | 3 => .string x.s
  | _ => .string x.a
/-- A block that holds the first k affixes. -/
def AffRow (wr : World) (g : Nat) (xs : List Aff) (k : Nat) : Prop :=
  ∃ cur, Blk wr g 171 cur ∧ cur.size = xs.length * 5 ∧ ∀ j i, j < k → i < 5 → cur[j * 5 + i]? = some (affC (affG xs j) i)
theorem set_get {cur : Array Value} {o j : Nat} (u : Value) (h : o < cur.size) : (cur.setIfInBounds o u)[j]? = if o = j then some u else cur[j]? := by
  rw [Array.getElem?_setIfInBounds]
  split
  · first | rfl | rw [if_pos h]
  · rfl
theorem AffRow.is {wr : World} {g : Nat} {xs : List Aff} {k j : Nat} (h : AffRow wr g xs k) (hj : j < k) : AffIs wr g (0 + j * 5) (affG xs j) := by
  obtain ⟨cur, hb, hs, hc⟩ := h
  rw [Nat.zero_add]
  exact ⟨(hb.cells _).trans (hc j 0 hj (by omega)), (hb.cells _).trans (hc j 1 hj (by omega)), (hb.cells _).trans (hc j 2 hj (by omega)), (hb.cells _).trans (hc j 3 hj (by omega)), (hb.cells _).trans (hc j 4 hj (by omega))⟩
theorem AffRow.kept {wr w' : World} {g : Nat} {xs : List Aff} {k : Nat} (h : AffRow wr g xs k) (hb : Below wr.heap.size wr w') : AffRow w' g xs k := by
  obtain ⟨cur, h1, h2⟩ := h
  exact ⟨cur, h1.kept hb h1.lt, h2⟩
theorem AffRow.grow {wr : World} {g : Nat} {xs : List Aff} {k : Nat} (h : AffRow wr g xs k) (hk : k < xs.length) {x : Aff} (hx : affG xs k = x) :
    AffRow (((((wr.setCell ⟨g, k * 5, none⟩ (.string x.n)).setCell ⟨g, k * 5 + 1, none⟩ (.bool x.f)).setCell ⟨g, k * 5 + 2, none⟩ (.string x.w)).setCell ⟨g, k * 5 + 3, none⟩ (.string x.s)).setCell ⟨g, k * 5 + 4, none⟩ (.string x.a)) g xs (k + 1) := by
  obtain ⟨cur, hb, hs, hc⟩ := h
  refine ⟨_, ((((hb.stored _ _).stored _ _).stored _ _).stored _ _).stored _ _, by simpa using hs, fun j i hj hi => ?_⟩
  have z1 : k * 5 + 4 < cur.size := by omega
  rw [set_get _ (by simpa using z1), set_get _ (by simp; omega), set_get _ (by simp; omega), set_get _ (by simp; omega), set_get _ (by omega)]
  rcases Nat.lt_or_ge j k with h1 | h1
  · rw [if_neg (by omega), if_neg (by omega), if_neg (by omega), if_neg (by omega), if_neg (by omega)]
    exact hc j i h1 hi
  · obtain rfl : j = k := by omega
    rw [hx]
    match i, hi with
    | 0, _ => rw [if_neg (by omega), if_neg (by omega), if_neg (by omega), if_neg (by omega), if_pos (by omega)]; rfl
    | 1, _ => rw [if_neg (by omega), if_neg (by omega), if_neg (by omega), if_pos (by omega)]; rfl
    | 2, _ => rw [if_neg (by omega), if_neg (by omega), if_pos (by omega)]; rfl
    | 3, _ => rw [if_neg (by omega), if_pos (by omega)]; rfl
    | 4, _ => rw [if_pos (by omega)]; rfl
theorem AffRow.free {wr : World} {g : Nat} {xs : List Aff} {k : Nat} (h : AffRow wr g xs k) (hk : k < xs.length) :
    (∃ y0 y1 y2 y3 y4, wr.cell? ⟨g, k * 5, none⟩ = some y0 ∧ wr.cell? ⟨g, k * 5 + 1, none⟩ = some y1 ∧ wr.cell? ⟨g, k * 5 + 2, none⟩ = some y2 ∧ wr.cell? ⟨g, k * 5 + 3, none⟩ = some y3 ∧ wr.cell? ⟨g, k * 5 + 4, none⟩ = some y4) ∧ ∀ j, wr.frozen? ⟨g, j, none⟩ = false := by
  obtain ⟨cur, hb, hs, _⟩ := h
  have hx : ∀ i, i < 5 → ∃ y, wr.cell? ⟨g, k * 5 + i, none⟩ = some y := fun i hi => ⟨_, (hb.cells _).trans (Array.getElem?_eq_getElem (by omega))⟩
  obtain ⟨y0, e0⟩ := hx 0 (by omega)
  obtain ⟨y1, e1⟩ := hx 1 (by omega)
  obtain ⟨y2, e2⟩ := hx 2 (by omega)
  obtain ⟨y3, e3⟩ := hx 3 (by omega)
  obtain ⟨y4, e4⟩ := hx 4 (by omega)
  exact ⟨⟨y0, y1, y2, y3, y4, e0, e1, e2, e3, e4⟩, hb.marks⟩
theorem AffRow.off {wr : World} {g : Nat} {xs : List Aff} {k : Nat} (h : AffRow wr g xs k) {b : Nat} (hb : g ≠ b) (j : Nat) (u : Value) : AffRow (wr.setCell ⟨b, j, none⟩ u) g xs k := by
  obtain ⟨cur, h1, h2⟩ := h
  exact ⟨cur, h1.other hb u, h2⟩
theorem AffRow.affs {wr : World} {g : Nat} {xs : List Aff} (h : AffRow wr g xs xs.length) (hn : xs.length ≤ 1048576) : Affs wr (.slice (some ⟨g, 0, none⟩) xs.length xs.length) xs :=
  ⟨_, _, rfl, Nat.le_refl _, by unfold maxLen; omega, fun _ => ⟨g, 0, rfl, by obtain ⟨cur, h1, _⟩ := h; exact h1.lt, fun _ hj => h.is hj⟩⟩
theorem infoA : (Try.prog.info? 171).map (fun i => (i.zero, i.size, i.bytes)) = some (some (.agg #[.string ⟨#[]⟩, .bool false, .string ⟨#[]⟩, .string ⟨#[]⟩, .string ⟨#[]⟩]), 5, 72) := by kernel_rfl

set_option maxRecDepth 100000 in
set_option maxHeartbeats 2000000 in
theorem toAffixS_any {v : Value} {xs : List Aff} (w : World) (h : Affs w v xs) (hn : xs.length ≤ 1048576) :
    Calls Try.prog 71 #[v] w fun e w' => e = .returned (.slice (some ⟨w.heap.size, 0, none⟩) xs.length xs.length) ∧ AffRow w' w.heap.size xs xs.length ∧ Below w.heap.size w w' := by
  obtain ⟨i0, hi, hz0, hz1, hz2⟩ := info_parts infoA
  obtain ⟨a, cap, rfl, hl, hm, hc⟩ := h
  unfold maxLen at hm
  have HC := Shh.mk hc
  clear hc
  go_enter Try.func71, Try.ntmps71
  go_wp2_with (refine wpList_make_full _ rfl _ _ 45 rfl w.heap.size 171 i0 _ 5 Try.underlying45 hi hz0 hz1 .i64 .i64 _ _ xs.length rfl rfl rfl rfl (by rw [hz2]; omega) (by unfold maxLen; omega) (Nat.le_refl _) ?_; intro w1 hown hgrow)
  have hrow0 : AffRow w1 w.heap.size xs 0 := by
    obtain ⟨cur, h1, h2⟩ := own_blk hown
    exact ⟨cur, h1, h2, fun j i hj => absurd hj (by omega)⟩
  have hb0 : Below w.heap.size w w1 := (Below.refl _ _).grown hgrow (Nat.le_refl _) (fun k hk => by cases hk)
  have HR0 := Shh.mk hrow0
  clear hown hgrow hrow0
  go_loopw [4] (fun i wr => ∃ k : Nat, k ≤ xs.length ∧ i = .int .i64 k ∧ Shh (AffRow wr w.heap.size xs k) ∧ Below w.heap.size w wr) (fun i _ => xs.length - (intOf i).toNat)
  case atStart => exact ⟨0, Nat.zero_le _, rfl, HR0, hb0⟩
  case round =>
    obtain ⟨k, hk, rfl, ho, hb⟩ := hrel
    clear HR0 hb0
    by_cases hlt : k < xs.length
    · obtain ⟨ba, oa, rfl, hba, hca⟩ := HC.out (by omega)
      have hA := AffAt.below (hca k hlt) hb hba
      obtain ⟨x, hx⟩ : ∃ x, affG xs k = x := ⟨_, rfl⟩
      rw [hx] at hA
      have HX := Shh.mk hx
      obtain ⟨n, fr, ww, st, ad⟩ := x
      obtain ⟨k0, k1, k2, k3, k4⟩ := hA
      simp only at k0 k1 k2 k3 k4
      clear hca hx
      go_wp2_with fail
      refine (toAffix_any fr n ww st ad _).mono ?_
      rintro e w2 ⟨rfl, hb2⟩
      have ho2 := ho.out.kept hb2
      have hB2 := hb.trans (hb2.mono hb.size)
      obtain ⟨⟨y0, y1, y2, y3, y4, e0, e1, e2, e3, e4⟩, hfz⟩ := ho2.free hlt
      have HG := Shh.mk (ho2.grow hlt HX.out)
      have HB := Shh.mk (((((hB2.setCell (p := ⟨w.heap.size, k * 5, none⟩) (Nat.le_refl _) (.string n)).setCell (p := ⟨w.heap.size, k * 5 + 1, none⟩) (Nat.le_refl _) (.bool fr)).setCell (p := ⟨w.heap.size, k * 5 + 2, none⟩) (Nat.le_refl _) (.string ww)).setCell (p := ⟨w.heap.size, k * 5 + 3, none⟩) (Nat.le_refl _) (.string st)).setCell (p := ⟨w.heap.size, k * 5 + 4, none⟩) (Nat.le_refl _) (.string ad))
      clear ho2 k0 k1 k2 k3 k4
      go_wp2
      go_roundw
      case rel => exact ⟨k + 1, by omega, by go_num, HG, HB.out⟩
      case measure => simp [intOf]; omega
    · obtain rfl : k = xs.length := by omega
      go_wp2
      go_ret
      exact ⟨rfl, ho.out, hb⟩
end Go.Proofs.Ytilagppmljpclaa
