/-
  The laws' helpers on automata: copies.
-/
import Derived.Test.YtabbpnafkgljcaaDoorNB
namespace Go.Proofs.YtabbpnafkgljcaaDoor
open Go.ChangeShapes Go.WideShapes Go.ChangeAt Go.RowKit Go.Joins Go.Deep

theorem own_blkN {w : World} {B g n size cap : Nat} {e : TypeId} {xs : List Value} (h : w.ownsRow B e size (.slice (some ⟨g, 0, none⟩) n cap) n xs) : ∃ cur, Blk w g e cur ∧ cur.size = cap * size := by
  rcases h.2 with ⟨h', _⟩ | ⟨g', cap', cur, h', hb, hg, hnc, hcm, hcs, htake⟩
  · simp at h'
  · simp only [Value.slice.injEq, Option.some.injEq, Addr.mk.injEq, and_true, true_and] at h'
    obtain ⟨rfl, rfl⟩ := h'
    exact ⟨cur, hg, hcs⟩
theorem set_getN {cur : Array Value} {o j : Nat} (u : Value) (h : o < cur.size) : (cur.setIfInBounds o u)[j]? = if o = j then some u else cur[j]? := by
  rw [Array.getElem?_setIfInBounds]
  split
  · first | rfl | rw [if_pos h]
  · rfl
theorem OwnI.off {B : Nat} {w : World} {v : Value} {zs : List Int} (h : OwnI B w v zs) {g : Nat} (hg : g < B) (j : Nat) (u : Value) : OwnI B (w.setCell ⟨g, j, none⟩ u) v zs := by
  obtain ⟨g', hv, ho, hn⟩ := h
  exact ⟨g', hv, ownsRow_setCell_below ho hg u, hn⟩
/-- Numbers that are int64. -/
def Fine (zs : List Int) : Prop := ∀ n ∈ zs, (Lit.int .i64 n).wf = true
theorem Ints.fine {w : World} {v : Value} {zs : List Int} (h : Ints .i64 w v zs) : Fine zs := by
  obtain ⟨_, _, _, _, _, _, h⟩ := h
  exact h

set_option maxHeartbeats 2000000 in
theorem toNode_any {u : Value} (f : Bool) (n : ByteArray) (us : List Int) (w : World) (hu : Ints .i64 w u us) (hn : us.length ≤ 1048576) :
    Calls Tryd.prog 142 #[.agg #[.bool f, .string n, u]] w fun e w' => ∃ g, e = .returned (.agg #[.bool f, .string n, .slice (some ⟨g, 0, none⟩) us.length us.length]) ∧ OwnI w.heap.size w' (.slice (some ⟨g, 0, none⟩) us.length us.length) us ∧ Below w.heap.size w w' := by
  have HU := Shh.mk (((hu.alloc (.cells #[.bool f, .string n, u] 174)).alloc (.cells #[.bool false, .string ⟨#[]⟩, .slice none 0 0] 50)).alloc (.cells #[.bool f, .string n, .slice none 0 0] 50))
  obtain ⟨ua, uc, rfl, -⟩ := hu
  go_enter Tryd.func142, Tryd.ntmps142
  go_wp2_with fail
  refine (toInt64S_any _ HU.out hn).mono ?_
  rintro e w1 ⟨u1, rfl, ho, hb1⟩
  obtain ⟨g, rfl, ho1, ho2⟩ := ho
  have hz1 : w.heap.size + 2 < w1.heap.size := by have := hb1.size; simp at this; omega
  have q1 := ((Blk.made (w.alloc (.cells #[.bool f, .string n, .slice ua us.length uc] 174)) 50 #[.bool false, .string ⟨#[]⟩, .slice none 0 0]).alloc (.cells #[.bool f, .string n, .slice none 0 0] 50)).kept hb1 (by simp)
  have q2 := (Blk.made ((w.alloc (.cells #[.bool f, .string n, .slice ua us.length uc] 174)).alloc (.cells #[.bool false, .string ⟨#[]⟩, .slice none 0 0] 50)) 50 #[.bool f, .string n, .slice none 0 0]).kept hb1 (by simp)
  simp only [World.size_alloc] at q1 q2 ho1
  have HO := Shh.mk (show OwnI (w.heap.size + 1 + 1 + 1) w1 (.slice (some ⟨g, 0, none⟩) us.length us.length) us from ⟨g, rfl, ho1, ho2⟩)
  have c1 := q1.cells
  have c2 := q2.cells
  have m1 := q1.marks
  have m2 := q2.marks
  have hB1 := Shh.mk ((((((Below.refl w.heap.size w).alloc (Nat.le_refl _) (.cells #[.bool f, .string n, .slice ua us.length uc] 174)).alloc (by simp) (.cells #[.bool false, .string ⟨#[]⟩, .slice none 0 0] 50)).alloc (by simp; omega) (.cells #[.bool f, .string n, .slice none 0 0] 50))).trans (hb1.mono (by simp; omega)))
  clear ho1 hb1 q1 q2
  go_wp2
  refine bodyPost_ret (v := .agg #[.bool f, .string n, .slice (some ⟨g, 0, none⟩) us.length us.length]) (by simp [results, Tryd.results142, go_sem, c1]) rfl ?_
  refine ⟨g, rfl, ?_, ?_⟩
  · exact ((((HO.out.off (by omega) _ _).off (by omega) _ _).off (by omega) _ _).off (by omega) _ _).lower (by omega)
  · exact (((hB1.out.setCell (by simp; omega) _).setCell (by simp) _).setCell (by simp) _).setCell (by simp) _

/-- A block that holds the first k nodes. -/
def NodRow (wr : World) (g : Nat) (ss : List Nod) (k : Nat) : Prop :=
  ∃ cur, Blk wr g 50 cur ∧ cur.size = ss.length * 3 ∧ ∀ j, j < k → cur[j * 3]? = some (.bool (nodG ss j).f) ∧ cur[j * 3 + 1]? = some (.string (nodG ss j).ls) ∧ ∃ u, cur[j * 3 + 2]? = some u ∧ OwnI (g + 1) wr u (nodG ss j).ns ∧ Fine (nodG ss j).ns
theorem NodRow.is {wr : World} {g : Nat} {ss : List Nod} {k j : Nat} (h : NodRow wr g ss k) (hj : j < k) : NodIs wr g (0 + j * 3) (nodG ss j) := by
  obtain ⟨cur, hb, hs, hc⟩ := h
  rw [Nat.zero_add]
  obtain ⟨h0, h1, u, h2, h3, h4⟩ := hc j hj
  exact ⟨(hb.cells _).trans h0, (hb.cells _).trans h1, u, (hb.cells _).trans h2, h3.ints h4⟩
theorem NodRow.kept {wr w' : World} {g : Nat} {ss : List Nod} {k : Nat} (h : NodRow wr g ss k) (hb : Below wr.heap.size wr w') : NodRow w' g ss k := by
  obtain ⟨cur, h1, h2, h3⟩ := h
  exact ⟨cur, h1.kept hb h1.lt, h2, fun j hj => ⟨(h3 j hj).1, (h3 j hj).2.1, by obtain ⟨u, e, ho, hf⟩ := (h3 j hj).2.2; exact ⟨u, e, ho.kept hb, hf⟩⟩⟩
theorem NodRow.grow {wr : World} {g : Nat} {ss : List Nod} {k : Nat} (h : NodRow wr g ss k) (hk : k < ss.length) {x : Nod} (hx : nodG ss k = x) {u : Value} (hu : OwnI (g + 1) wr u x.ns) (hf : Fine x.ns) :
    NodRow (((wr.setCell ⟨g, k * 3, none⟩ (.bool x.f)).setCell ⟨g, k * 3 + 1, none⟩ (.string x.ls)).setCell ⟨g, k * 3 + 2, none⟩ u) g ss (k + 1) := by
  obtain ⟨cur, hb, hs, hc⟩ := h
  refine ⟨_, ((hb.stored _ _).stored _ _).stored _ _, by simpa using hs, fun j hj => ?_⟩
  have z1 : k * 3 + 2 < cur.size := by omega
  rw [set_getN _ (by simpa using z1), set_getN _ (by simp; omega), set_getN _ (by omega), set_getN _ (by simpa using z1), set_getN _ (by simp; omega), set_getN _ (by omega), set_getN _ (by simpa using z1), set_getN _ (by simp; omega), set_getN _ (by omega)]
  rcases Nat.lt_or_ge j k with h1 | h1
  · rw [if_neg (by omega), if_neg (by omega), if_neg (by omega), if_neg (by omega), if_neg (by omega), if_neg (by omega), if_neg (by omega), if_neg (by omega), if_neg (by omega)]
    obtain ⟨h0, h2, u', e, ho, hf'⟩ := hc j h1
    exact ⟨h0, h2, u', e, ((ho.off (by omega) _ _).off (by omega) _ _).off (by omega) _ _, hf'⟩
  · obtain rfl : j = k := by omega
    rw [if_neg (by omega), if_neg (by omega), if_pos rfl, if_neg (by omega), if_pos rfl, if_pos rfl, hx]
    exact ⟨rfl, rfl, u, rfl, ((hu.off (by omega) _ _).off (by omega) _ _).off (by omega) _ _, hf⟩
theorem NodRow.free {wr : World} {g : Nat} {ss : List Nod} {k : Nat} (h : NodRow wr g ss k) (hk : k < ss.length) :
    (∃ y0 y1 y2, wr.cell? ⟨g, k * 3, none⟩ = some y0 ∧ wr.cell? ⟨g, k * 3 + 1, none⟩ = some y1 ∧ wr.cell? ⟨g, k * 3 + 2, none⟩ = some y2) ∧ ∀ j, wr.frozen? ⟨g, j, none⟩ = false := by
  obtain ⟨cur, hb, hs, _⟩ := h
  exact ⟨⟨_, _, _, (hb.cells _).trans (Array.getElem?_eq_getElem (by omega)), (hb.cells _).trans (Array.getElem?_eq_getElem (by omega)), (hb.cells _).trans (Array.getElem?_eq_getElem (by omega))⟩, hb.marks⟩
theorem NodRow.off {wr : World} {g : Nat} {ss : List Nod} {k : Nat} (h : NodRow wr g ss k) {b : Nat} (hb : b < g) (j : Nat) (u : Value) : NodRow (wr.setCell ⟨b, j, none⟩ u) g ss k := by
  obtain ⟨cur, h1, h2, h3⟩ := h
  exact ⟨cur, h1.other (p := ⟨b, j, none⟩) (fun e => by simp only at e; omega) u, h2, fun i hi => ⟨(h3 i hi).1, (h3 i hi).2.1, by obtain ⟨v, e, ho, hf⟩ := (h3 i hi).2.2; exact ⟨v, e, ho.off (by omega) j u, hf⟩⟩⟩
theorem NodRow.nds {wr : World} {g : Nat} {ss : List Nod} (h : NodRow wr g ss ss.length) (hn : ss.length ≤ 1048576) : Nds wr (.slice (some ⟨g, 0, none⟩) ss.length ss.length) ss :=
  ⟨_, _, rfl, Nat.le_refl _, by unfold maxLen; omega, fun _ => ⟨g, 0, rfl, by obtain ⟨cur, h1, _⟩ := h; exact h1.lt, fun _ hj => h.is hj⟩⟩
theorem infoNod : (Tryd.prog.info? 50).map (fun i => (i.zero, i.size, i.bytes)) = some (some (.agg #[.bool false, .string ⟨#[]⟩, .slice none 0 0]), 3, 48) := by kernel_rfl

set_option maxRecDepth 100000 in
set_option maxHeartbeats 2000000 in
theorem toNodeS_any {v : Value} {ss : List Nod} (w : World) (h : Nds w v ss) (hn : ss.length ≤ 1048576) (hu : ∀ x ∈ ss, x.ns.length ≤ 1048576) :
    Calls Tryd.prog 107 #[v] w fun e w' => e = .returned (.slice (some ⟨w.heap.size, 0, none⟩) ss.length ss.length) ∧ NodRow w' w.heap.size ss ss.length ∧ Below w.heap.size w w' := by
  obtain ⟨i0, hi, hz0, hz1, hz2⟩ := info_parts infoNod
  obtain ⟨a, cap, rfl, hl, hm, hc⟩ := h
  unfold maxLen at hm
  have HC := Shh.mk hc
  clear hc
  go_enter Tryd.func107, Tryd.ntmps107
  go_wp2_with (refine wpList_make_full _ rfl _ _ 24 rfl w.heap.size 50 i0 _ 3 Tryd.underlying24 hi hz0 hz1 .i64 .i64 _ _ ss.length rfl rfl rfl rfl (by rw [hz2]; omega) (by unfold maxLen; omega) (Nat.le_refl _) ?_; intro w1 hown hgrow)
  have hrow0 : NodRow w1 w.heap.size ss 0 := by
    obtain ⟨cur, h1, h2⟩ := own_blkN hown
    exact ⟨cur, h1, h2, fun j hj => absurd hj (by omega)⟩
  have hb0 : Below w.heap.size w w1 := (Below.refl _ _).grown hgrow (Nat.le_refl _) (fun k hk => by cases hk)
  have HR0 := Shh.mk hrow0
  clear hown hgrow hrow0
  go_loopw [4] (fun i wr => ∃ k : Nat, k ≤ ss.length ∧ i = .int .i64 k ∧ Shh (NodRow wr w.heap.size ss k) ∧ Below w.heap.size w wr) (fun i _ => ss.length - (intOf i).toNat)
  case atStart => exact ⟨0, Nat.zero_le _, rfl, HR0, hb0⟩
  case round =>
    obtain ⟨k, hk, rfl, ho, hb⟩ := hrel
    clear HR0 hb0
    by_cases hlt : k < ss.length
    · obtain ⟨ba, oa, rfl, hba, hca⟩ := HC.out (by omega)
      have hA := NodIs.below (hca k hlt) hb hba
      have hul := hu _ (nodG_mem hlt)
      obtain ⟨x, hx⟩ : ∃ x, nodG ss k = x := ⟨_, rfl⟩
      rw [hx] at hA hul
      have HX := Shh.mk hx
      obtain ⟨f, n, us⟩ := x
      obtain ⟨k0, k1, u, k2, hus⟩ := hA
      simp only at k0 k1 k2 hus hul
      have HUS := Shh.mk hus
      have HF := Shh.mk hus.fine
      obtain ⟨ua, uc, rfl, -⟩ := hus
      have hgl : w.heap.size < wr.heap.size := by obtain ⟨cur, h1, _⟩ := ho.out; exact h1.lt
      clear hca hx
      go_wp2_with fail
      refine (toNode_any f n us _ HUS.out hul).mono ?_
      rintro e w2 ⟨tg, rfl, hto, hb2⟩
      have ho2 := ho.out.kept hb2
      have hB2 := hb.trans (hb2.mono hb.size)
      obtain ⟨⟨y0, y1, y2, e0, e1, e2⟩, hfz⟩ := ho2.free hlt
      have HG := Shh.mk (ho2.grow hlt HX.out (OwnI.lower hto (by omega)) HF.out)
      have HB := Shh.mk (((hB2.setCell (p := ⟨w.heap.size, k * 3, none⟩) (Nat.le_refl _) (.bool f)).setCell (p := ⟨w.heap.size, k * 3 + 1, none⟩) (Nat.le_refl _) (.string n)).setCell (p := ⟨w.heap.size, k * 3 + 2, none⟩) (Nat.le_refl _) (.slice (some ⟨tg, 0, none⟩) us.length us.length))
      clear ho2 k0 k1 k2 hto
      go_wp2
      go_roundw
      case rel => exact ⟨k + 1, by omega, by go_num, HG, HB.out⟩
      case measure => simp [intOf]; omega
    · obtain rfl : k = ss.length := by omega
      go_wp2
      go_ret
      exact ⟨rfl, ho.out, hb⟩

/-- What the sizes tell of an automaton's parts. -/
structure SmallD (xs : List Nod) : Prop where
  len : xs.length ≤ 1048576
  next : ∀ x ∈ xs, x.ns.length ≤ 1048576
  text : ∀ x ∈ xs, x.ls.size ≤ 1048576
theorem sumTo_atN (f : Nat → Nat) {j : Nat} : ∀ {n : Nat}, j < n → f j ≤ sumTo f n
  | 0, h => absurd h (by omega)
  | n + 1, h => by
    rw [sumTo]
    rcases Nat.lt_or_ge j n with h1 | h1
    · have := sumTo_atN f h1; omega
    · obtain rfl : j = n := by omega
      omega
theorem smallD_of {xs : List Nod} (h : nodsW xs ≤ 1048576) : SmallD xs := by
  unfold nodsW at h
  have hs : ∀ x ∈ xs, nodW x ≤ 1048576 := by
    intro x hx
    obtain ⟨i, hi, rfl⟩ := mem_getDN nod0 hx
    have := sumTo_atN (fun j => nodW (nodG xs j)) hi
    simp only [nodG] at this h
    omega
  exact ⟨by omega, fun x hx => by have := hs x hx; unfold nodW at this; omega, fun x hx => by have := hs x hx; unfold nodW at this; omega⟩

set_option maxHeartbeats 2000000 in
theorem toDawg_any {v : Value} {xs : List Nod} (w : World) (h : Nds w v xs) (hs : SmallD xs) :
    Calls Tryd.prog 51 #[.agg #[v]] w fun e w' => ∃ g, e = .returned (.agg #[.slice (some ⟨g, 0, none⟩) xs.length xs.length]) ∧ NodRow w' g xs xs.length ∧ w.heap.size ≤ g ∧ Below w.heap.size w w' := by
  have HG := Shh.mk (((h.alloc (.cells #[v] 66)).alloc (.cells #[.slice none 0 0] 26)).alloc (.cells #[.slice none 0 0] 26))
  obtain ⟨aa, ac, rfl, -⟩ := h
  go_enter Tryd.func51, Tryd.ntmps51
  go_wp2_with fail
  refine (toNodeS_any _ HG.out hs.len hs.next).mono ?_
  rintro e w1 ⟨rfl, ha, hb1⟩
  have hz1 : w.heap.size + 3 ≤ w1.heap.size := by have := hb1.size; simp at this; omega
  have q1 := ((Blk.made (w.alloc (.cells #[.slice aa xs.length ac] 66)) 26 #[.slice none 0 0]).alloc (.cells #[.slice none 0 0] 26)).kept hb1 (by simp)
  have q2 := (Blk.made ((w.alloc (.cells #[.slice aa xs.length ac] 66)).alloc (.cells #[.slice none 0 0] 26)) 26 #[.slice none 0 0]).kept hb1 (by simp)
  simp only [World.size_alloc] at q1 q2 ha ⊢
  have hB1 := Shh.mk ((((((Below.refl w.heap.size w).alloc (Nat.le_refl _) (.cells #[.slice aa xs.length ac] 66)).alloc (by simp) (.cells #[.slice none 0 0] 26)).alloc (by simp; omega) (.cells #[.slice none 0 0] 26))).trans (hb1.mono (by simp; omega)))
  have c1 := q1.cells
  have c2 := q2.cells
  have m1 := q1.marks
  have m2 := q2.marks
  obtain ⟨ga, hga⟩ : ∃ ga, w.heap.size + 1 + 1 + 1 = ga := ⟨_, rfl⟩
  rw [hga] at ha ⊢
  have HA := Shh.mk ha
  clear q1 q2 hb1 ha
  go_wp2
  refine bodyPost_ret (v := .agg #[.slice (some ⟨ga, 0, none⟩) xs.length xs.length]) (by simp [results, Tryd.results51, go_sem, c1]) rfl ?_
  refine ⟨ga, rfl, ?_, by omega, ?_⟩
  · exact (HA.out.off (by omega) _ _).off (by omega) _ _
  · exact (hB1.out.setCell (by simp; omega) _).setCell (by simp) _
end Go.Proofs.YtabbpnafkgljcaaDoor
