/-
  The laws' helpers on automata: sizes.
  The laws' helpers on automata: copies.
  The laws' helpers on automata: comparisons of what is the same.
  Automata that are the same: the model's answer and the program's.
  Automata that are the same: both answers, whole.
-/
import Derived.Test.YtokfkofclpajfaaDoorNA
import Derived.Test.YtokfkofclpajfaaDoorT1
import Derived.Test.YtokfkofclpajfaaDoorL0
import Derived.Deep.RegionWith
import Derived.Test.YtokfkofclpajfaaDoorX0
namespace Go.Proofs.YtokfkofclpajfaaDoor
open Go.RowKit

def nodW (x : Nod) : Nat := x.ls.size + x.ns.length
def nodsW (xs : List Nod) : Nat := xs.length + sumTo (fun j => nodW (nodG xs j)) xs.length
set_option maxHeartbeats 1000000 in
theorem szNode_any {u : Value} (f : Bool) (n : ByteArray) (us : List Int) (left : Int) (w : World) (hu : Ints .i64 w u us) (hn : n.size ≤ maxLen) (h0 : 0 ≤ left) (h1 : left ≤ 1048576) :
    Calls Tryd.prog 101 #[.agg #[.bool f, .string n, u], .int .i64 left] w fun e w' => e = .returned (.int .i64 (szN left (nodW ⟨f, n, us⟩))) ∧ Below w.heap.size w w' := by
  have hU := Shh.mk (hu.alloc (.cells #[.bool f, .string n, u] 122))
  have hB0 := (Below.refl w.heap.size w).alloc (Nat.le_refl _) (.cells #[.bool f, .string n, u] 122)
  have hW : nodW ⟨f, n, us⟩ = n.size + us.length := rfl
  have HW := Shh.mk hW
  clear hW
  obtain ⟨ua, uc, rfl, -⟩ := hu
  unfold maxLen at hn
  by_cases hA : left - (n.size : Int) < 0
  · have HR := Shh.mk (szN_no (left := left) (n := nodW ⟨f, n, us⟩) (by rw [HW.out]; omega))
    go_enter Tryd.func101, Tryd.ntmps101
    go_wp2
    go_ret
    exact ⟨ret_i64 HR.out.symm, hB0⟩
  · by_cases hC : left - (n.size : Int) < ((us.length : Nat) : Int)
    · have HR := Shh.mk (szN_no (left := left) (n := nodW ⟨f, n, us⟩) (by rw [HW.out]; omega))
      have HZ := Shh.mk (szN_no hC)
      clear hC
      go_enter Tryd.func101, Tryd.ntmps101
      go_wp2_with fail
      refine (szInt64S_any (left - (n.size : Int)) _ hU.out (by omega) (by omega)).mono ?_
      rw [HZ.out]
      rintro e w' ⟨rfl, rfl⟩
      go_wp2
      go_ret
      exact ⟨ret_i64 HR.out.symm, hB0⟩
    · have HR := Shh.mk ((szN_yes (left := left) (n := nodW ⟨f, n, us⟩) (by rw [HW.out]; omega)).trans (show _ = left - (n.size : Int) - (us.length : Nat) by rw [HW.out]; omega))
      have HZ := Shh.mk (szN_yes hC)
      have hnn : ¬ (left - (n.size : Int) - (us.length : Nat) < 0) := by omega
      clear hC
      go_enter Tryd.func101, Tryd.ntmps101
      go_wp2_with fail
      refine (szInt64S_any (left - (n.size : Int)) _ hU.out (by omega) (by omega)).mono ?_
      rw [HZ.out]
      rintro e w' ⟨rfl, rfl⟩
      go_wp2
      go_ret
      exact ⟨ret_i64 HR.out.symm, hB0⟩

set_option maxHeartbeats 1000000 in
theorem szNodeS_any {v : Value} {xs : List Nod} (left : Int) (w : World) (h : Nds w v xs) (hz : ∀ x ∈ xs, x.ls.size ≤ maxLen) (h0 : 0 ≤ left) (h1 : left ≤ 1048576) :
    Calls Tryd.prog 64 #[v, .int .i64 left] w fun e w' => e = .returned (.int .i64 (szN left (nodsW xs))) ∧ Below w.heap.size w w' := by
  obtain ⟨a, cap, rfl, hl, hm, hc⟩ := h
  unfold maxLen at hm
  by_cases hA : left - (xs.length : Int) < 0
  · have HR := hid (szN_no (left := left) (n := nodsW xs) (by unfold nodsW; omega))
    go_enter Tryd.func64, Tryd.ntmps64
    go_wp2
    go_ret
    exact ⟨ret_i64 HR.out.symm, Below.refl _ _⟩
  · obtain ⟨f, hf⟩ : ∃ f : Nat → Nat, (fun j => nodW (nodG xs j)) = f := ⟨_, rfl⟩
    have hW : nodsW xs = xs.length + sumTo f xs.length := by rw [← hf]; rfl
    have hfk : ∀ k, nodW (nodG xs k) = f k := fun k => by rw [← hf]
    have HW := Shh.mk hW
    have HF := Shh.mk hfk
    have HM := Shh.mk (fun k (hk : k ≤ xs.length) => sumTo_mono f hk)
    have HC := Shh.mk hc
    clear hf hW hfk hc
    go_enter Tryd.func64, Tryd.ntmps64
    go_wp2
    go_loopw [1, 5] (fun x i wr => ∃ k : Nat, k ≤ xs.length ∧ i = .int .i64 k ∧ x = .int .i64 (left - (xs.length : Int) - (sumTo f k : Nat)) ∧ 0 ≤ left - (xs.length : Int) - (sumTo f k : Nat) ∧ Below w.heap.size w wr) (fun _ i _ => xs.length - (intOf i).toNat)
    case atStart => exact ⟨0, Nat.zero_le _, rfl, by simp [sumTo], by simp [sumTo]; omega, Below.refl _ _⟩
    case round =>
      obtain ⟨k, hk, rfl, rfl, hp, hB⟩ := hrel
      by_cases hlt : k < xs.length
      · obtain ⟨b, off, rfl, hb, hcc⟩ := HC.out (by omega)
        have hA := NodIs.below (hcc k hlt) hB hb
        have hfine := hz _ (nodG_mem hlt)
        have hfz := HF.out k
        have hmm := HM.out (k + 1) (by omega)
        have hs1 : sumTo f (k + 1) = sumTo f k + f k := rfl
        obtain ⟨s, hs⟩ : ∃ s, nodG xs k = s := ⟨_, rfl⟩
        rw [hs] at hA hfine hfz
        obtain ⟨f', n, us⟩ := s
        obtain ⟨k0, k1, u, k2, hu⟩ := hA
        have z0 := hfine
        simp only at k0 k1 k2 hu z0
        have hfz' : nodW ⟨f', n, us⟩ = f k := hfz
        have HU := Shh.mk hu
        obtain ⟨ua, uc, rfl, -⟩ := hu
        have HS1 := Shh.mk hs1
        have HFZ := Shh.mk hfz'
        obtain ⟨R, hR⟩ : ∃ R, left - (xs.length : Int) - (sumTo f k : Nat) = R := ⟨_, rfl⟩
        rw [hR] at hp
        by_cases hneg : R < ((nodW ⟨f', n, us⟩ : Nat) : Int)
        · have HR := Shh.mk (szN_no (left := left) (n := nodsW xs) (by rw [HW.out]; omega))
          have HZ := Shh.mk (szN_no hneg)
          clear hcc hs hfz hfz' hs1 hmm hfine
          rw [hR]
          go_wp2_with fail
          refine (szNode_any f' n us R _ HU.out z0 (by omega) (by omega)).mono ?_
          rw [HZ.out]
          rintro e w2 ⟨rfl, hb2⟩
          have hB2 := hB.trans (hb2.mono hB.size)
          go_wp2
          go_ret
          exact ⟨ret_i64 HR.out.symm, hB2⟩
        · have HZ := Shh.mk ((szN_yes hneg).trans (show _ = left - (xs.length : Int) - (sumTo f (k + 1) : Nat) by rw [hs1, ← hfz', ← hR]; omega))
          have hnn : ¬ (left - (xs.length : Int) - (sumTo f (k + 1) : Nat) < 0) := by rw [hs1, ← hfz']; omega
          clear hcc hs hfz hfz' hs1 hmm hfine
          rw [hR]
          go_wp2_with fail
          refine (szNode_any f' n us R _ HU.out z0 (by omega) (by omega)).mono ?_
          rw [HZ.out]
          rintro e w2 ⟨rfl, hb2⟩
          have hB2 := hB.trans (hb2.mono hB.size)
          go_wp2
          go_roundw
          case rel => exact ⟨k + 1, by omega, by go_num, rfl, by omega, hB2⟩
          case measure => simp [intOf]; omega
      · obtain rfl : k = xs.length := by omega
        have HR := Shh.mk ((szN_yes (left := left) (n := nodsW xs) (by rw [HW.out]; omega)).trans (show _ = left - (xs.length : Int) - (sumTo f xs.length : Nat) by rw [HW.out]; omega))
        go_wp2
        go_ret
        exact ⟨ret_i64 HR.out.symm, hB⟩

set_option maxHeartbeats 1000000 in
theorem szDawg_any {v : Value} {xs : List Nod} (left : Int) (w : World) (h : Nds w v xs) (hz : ∀ x ∈ xs, x.ls.size ≤ maxLen) (h0 : 0 ≤ left) (h1 : left ≤ 1048576) :
    Calls Tryd.prog 19 #[.agg #[v], .int .i64 left] w fun e w' => e = .returned (.int .i64 (szN left (nodsW xs))) ∧ Below w.heap.size w w' := by
  have HA := Shh.mk (h.alloc (.cells #[v] 24))
  have hB0 := (Below.refl w.heap.size w).alloc (Nat.le_refl _) (.cells #[v] 24)
  obtain ⟨aa, ac, rfl, -⟩ := h
  by_cases hA : left < ((nodsW xs : Nat) : Int)
  · have HZ := Shh.mk (szN_no hA)
    clear hA
    go_enter Tryd.func19, Tryd.ntmps19
    go_wp2_with fail
    refine (szNodeS_any left _ HA.out hz h0 h1).mono ?_
    rw [HZ.out]
    rintro e w1 ⟨rfl, hb1⟩
    go_wp2
    go_ret
    exact ⟨ret_i64 HZ.out.symm, hB0.trans (hb1.mono hB0.size)⟩
  · have HZ := Shh.mk (szN_yes hA)
    have hnn : ¬ (left - ((nodsW xs : Nat) : Int) < 0) := by omega
    clear hA
    go_enter Tryd.func19, Tryd.ntmps19
    go_wp2_with fail
    refine (szNodeS_any left _ HA.out hz h0 h1).mono ?_
    rw [HZ.out]
    rintro e w1 ⟨rfl, hb1⟩
    go_wp2
    go_ret
    exact ⟨ret_i64 HZ.out.symm, hB0.trans (hb1.mono hB0.size)⟩
end Go.Proofs.YtokfkofclpajfaaDoor

namespace Go.Proofs.YtokfkofclpajfaaDoor
open Go.ChangeShapes Go.WideShapes Go.ChangeAt Go.RowKit Go.Joins Go.Deep

theorem own_blkN {w : World} {B g n size cap : Nat} {e : TypeId} {xs : List Value} (h : w.ownsRow B e size (.slice (some ⟨g, 0, none⟩) n cap) n xs) : ∃ cur, Blk w g e cur ∧ cur.size = cap * size := by
  rcases h.2 with ⟨h', _⟩ | ⟨g', cap', cur, h', hb, hg, hnc, hcm, hcs, htake⟩
  · simp at h'
  · simp only [Value.slice.injEq, Option.some.injEq, Addr.mk.injEq, and_true, true_and] at h'
    obtain ⟨rfl, rfl⟩ := h'
    exact ⟨cur, hg, hcs⟩
theorem set_getN {cur : Array Value} {o j : Nat} (u : Value) (h : o < cur.size) : (cur.setIfInBounds o u)[j]? = if o = j then some u else cur[j]? := by
  rw [Array.getElem?_setIfInBounds]
  split
  · first | rfl | rw [if_pos h]
  · rfl
theorem OwnI.off {B : Nat} {w : World} {v : Value} {zs : List Int} (h : OwnI B w v zs) {g : Nat} (hg : g < B) (j : Nat) (u : Value) : OwnI B (w.setCell ⟨g, j, none⟩ u) v zs := by
  obtain ⟨g', hv, ho, hn⟩ := h
  exact ⟨g', hv, ownsRow_setCell_below ho hg u, hn⟩
/-- Numbers that are int64. -/
def Fine (zs : List Int) : Prop := ∀ n ∈ zs, (Lit.int .i64 n).wf = true
theorem Ints.fine {w : World} {v : Value} {zs : List Int} (h : Ints .i64 w v zs) : Fine zs := by
  obtain ⟨_, _, _, _, _, _, h⟩ := h
  exact h

set_option maxHeartbeats 2000000 in
theorem toNode_any {u : Value} (f : Bool) (n : ByteArray) (us : List Int) (w : World) (hu : Ints .i64 w u us) (hn : us.length ≤ 1048576) :
    Calls Tryd.prog 106 #[.agg #[.bool f, .string n, u]] w fun e w' => ∃ g, e = .returned (.agg #[.bool f, .string n, .slice (some ⟨g, 0, none⟩) us.length us.length]) ∧ OwnI w.heap.size w' (.slice (some ⟨g, 0, none⟩) us.length us.length) us ∧ Below w.heap.size w w' := by
  have HU := Shh.mk (((hu.alloc (.cells #[.bool f, .string n, u] 122)).alloc (.cells #[.bool false, .string ⟨#[]⟩, .slice none 0 0] 71)).alloc (.cells #[.bool f, .string n, .slice none 0 0] 71))
  obtain ⟨ua, uc, rfl, -⟩ := hu
  go_enter Tryd.func106, Tryd.ntmps106
  go_wp2_with fail
  refine (toInt64S_any _ HU.out hn).mono ?_
  rintro e w1 ⟨u1, rfl, ho, hb1⟩
  obtain ⟨g, rfl, ho1, ho2⟩ := ho
  have hz1 : w.heap.size + 2 < w1.heap.size := by have := hb1.size; simp at this; omega
  have q1 := ((Blk.made (w.alloc (.cells #[.bool f, .string n, .slice ua us.length uc] 122)) 71 #[.bool false, .string ⟨#[]⟩, .slice none 0 0]).alloc (.cells #[.bool f, .string n, .slice none 0 0] 71)).kept hb1 (by simp)
  have q2 := (Blk.made ((w.alloc (.cells #[.bool f, .string n, .slice ua us.length uc] 122)).alloc (.cells #[.bool false, .string ⟨#[]⟩, .slice none 0 0] 71)) 71 #[.bool f, .string n, .slice none 0 0]).kept hb1 (by simp)
  simp only [World.size_alloc] at q1 q2 ho1
  have HO := Shh.mk (show OwnI (w.heap.size + 1 + 1 + 1) w1 (.slice (some ⟨g, 0, none⟩) us.length us.length) us from ⟨g, rfl, ho1, ho2⟩)
  have c1 := q1.cells
  have c2 := q2.cells
  have m1 := q1.marks
  have m2 := q2.marks
  have hB1 := Shh.mk ((((((Below.refl w.heap.size w).alloc (Nat.le_refl _) (.cells #[.bool f, .string n, .slice ua us.length uc] 122)).alloc (by simp) (.cells #[.bool false, .string ⟨#[]⟩, .slice none 0 0] 71)).alloc (by simp; omega) (.cells #[.bool f, .string n, .slice none 0 0] 71))).trans (hb1.mono (by simp; omega)))
  clear ho1 hb1 q1 q2
  go_wp2
  refine bodyPost_ret (v := .agg #[.bool f, .string n, .slice (some ⟨g, 0, none⟩) us.length us.length]) (by simp [results, Tryd.results106, go_sem, c1]) rfl ?_
  refine ⟨g, rfl, ?_, ?_⟩
  · exact ((((HO.out.off (by omega) _ _).off (by omega) _ _).off (by omega) _ _).off (by omega) _ _).lower (by omega)
  · exact (((hB1.out.setCell (by simp; omega) _).setCell (by simp) _).setCell (by simp) _).setCell (by simp) _

/-- A block that holds the first k nodes. -/
def NodRow (wr : World) (g : Nat) (ss : List Nod) (k : Nat) : Prop :=
  ∃ cur, Blk wr g 71 cur ∧ cur.size = ss.length * 3 ∧ ∀ j, j < k → cur[j * 3]? = some (.bool (nodG ss j).f) ∧ cur[j * 3 + 1]? = some (.string (nodG ss j).ls) ∧ ∃ u, cur[j * 3 + 2]? = some u ∧ OwnI (g + 1) wr u (nodG ss j).ns ∧ Fine (nodG ss j).ns
theorem NodRow.is {wr : World} {g : Nat} {ss : List Nod} {k j : Nat} (h : NodRow wr g ss k) (hj : j < k) : NodIs wr g (0 + j * 3) (nodG ss j) := by
  obtain ⟨cur, hb, hs, hc⟩ := h
  rw [Nat.zero_add]
  obtain ⟨h0, h1, u, h2, h3, h4⟩ := hc j hj
  exact ⟨(hb.cells _).trans h0, (hb.cells _).trans h1, u, (hb.cells _).trans h2, h3.ints h4⟩
theorem NodRow.kept {wr w' : World} {g : Nat} {ss : List Nod} {k : Nat} (h : NodRow wr g ss k) (hb : Below wr.heap.size wr w') : NodRow w' g ss k := by
  obtain ⟨cur, h1, h2, h3⟩ := h
  exact ⟨cur, h1.kept hb h1.lt, h2, fun j hj => ⟨(h3 j hj).1, (h3 j hj).2.1, by obtain ⟨u, e, ho, hf⟩ := (h3 j hj).2.2; exact ⟨u, e, ho.kept hb, hf⟩⟩⟩
theorem NodRow.grow {wr : World} {g : Nat} {ss : List Nod} {k : Nat} (h : NodRow wr g ss k) (hk : k < ss.length) {x : Nod} (hx : nodG ss k = x) {u : Value} (hu : OwnI (g + 1) wr u x.ns) (hf : Fine x.ns) :
    NodRow (((wr.setCell ⟨g, k * 3, none⟩ (.bool x.f)).setCell ⟨g, k * 3 + 1, none⟩ (.string x.ls)).setCell ⟨g, k * 3 + 2, none⟩ u) g ss (k + 1) := by
  obtain ⟨cur, hb, hs, hc⟩ := h
  refine ⟨_, ((hb.stored _ _).stored _ _).stored _ _, by simpa using hs, fun j hj => ?_⟩
  have z1 : k * 3 + 2 < cur.size := by omega
  rw [set_getN _ (by simpa using z1), set_getN _ (by simp; omega), set_getN _ (by omega), set_getN _ (by simpa using z1), set_getN _ (by simp; omega), set_getN _ (by omega), set_getN _ (by simpa using z1), set_getN _ (by simp; omega), set_getN _ (by omega)]
  rcases Nat.lt_or_ge j k with h1 | h1
  · rw [if_neg (by omega), if_neg (by omega), if_neg (by omega), if_neg (by omega), if_neg (by omega), if_neg (by omega), if_neg (by omega), if_neg (by omega), if_neg (by omega)]
    obtain ⟨h0, h2, u', e, ho, hf'⟩ := hc j h1
    exact ⟨h0, h2, u', e, ((ho.off (by omega) _ _).off (by omega) _ _).off (by omega) _ _, hf'⟩
  · obtain rfl : j = k := by omega
    rw [if_neg (by omega), if_neg (by omega), if_pos rfl, if_neg (by omega), if_pos rfl, if_pos rfl, hx]
    exact ⟨rfl, rfl, u, rfl, ((hu.off (by omega) _ _).off (by omega) _ _).off (by omega) _ _, hf⟩
theorem NodRow.free {wr : World} {g : Nat} {ss : List Nod} {k : Nat} (h : NodRow wr g ss k) (hk : k < ss.length) :
    (∃ y0 y1 y2, wr.cell? ⟨g, k * 3, none⟩ = some y0 ∧ wr.cell? ⟨g, k * 3 + 1, none⟩ = some y1 ∧ wr.cell? ⟨g, k * 3 + 2, none⟩ = some y2) ∧ ∀ j, wr.frozen? ⟨g, j, none⟩ = false := by
  obtain ⟨cur, hb, hs, _⟩ := h
  exact ⟨⟨_, _, _, (hb.cells _).trans (Array.getElem?_eq_getElem (by omega)), (hb.cells _).trans (Array.getElem?_eq_getElem (by omega)), (hb.cells _).trans (Array.getElem?_eq_getElem (by omega))⟩, hb.marks⟩
theorem NodRow.off {wr : World} {g : Nat} {ss : List Nod} {k : Nat} (h : NodRow wr g ss k) {b : Nat} (hb : b < g) (j : Nat) (u : Value) : NodRow (wr.setCell ⟨b, j, none⟩ u) g ss k := by
  obtain ⟨cur, h1, h2, h3⟩ := h
  exact ⟨cur, h1.other (p := ⟨b, j, none⟩) (fun e => by simp only at e; omega) u, h2, fun i hi => ⟨(h3 i hi).1, (h3 i hi).2.1, by obtain ⟨v, e, ho, hf⟩ := (h3 i hi).2.2; exact ⟨v, e, ho.off (by omega) j u, hf⟩⟩⟩
theorem NodRow.nds {wr : World} {g : Nat} {ss : List Nod} (h : NodRow wr g ss ss.length) (hn : ss.length ≤ 1048576) : Nds wr (.slice (some ⟨g, 0, none⟩) ss.length ss.length) ss :=
  ⟨_, _, rfl, Nat.le_refl _, by unfold maxLen; omega, fun _ => ⟨g, 0, rfl, by obtain ⟨cur, h1, _⟩ := h; exact h1.lt, fun _ hj => h.is hj⟩⟩
theorem infoNod : (Tryd.prog.info? 71).map (fun i => (i.zero, i.size, i.bytes)) = some (some (.agg #[.bool false, .string ⟨#[]⟩, .slice none 0 0]), 3, 48) := by kernel_rfl

set_option maxRecDepth 100000 in
set_option maxHeartbeats 2000000 in
theorem toNodeS_any {v : Value} {ss : List Nod} (w : World) (h : Nds w v ss) (hn : ss.length ≤ 1048576) (hu : ∀ x ∈ ss, x.ns.length ≤ 1048576) :
    Calls Tryd.prog 66 #[v] w fun e w' => e = .returned (.slice (some ⟨w.heap.size, 0, none⟩) ss.length ss.length) ∧ NodRow w' w.heap.size ss ss.length ∧ Below w.heap.size w w' := by
  obtain ⟨i0, hi, hz0, hz1, hz2⟩ := info_parts infoNod
  obtain ⟨a, cap, rfl, hl, hm, hc⟩ := h
  unfold maxLen at hm
  have HC := Shh.mk hc
  clear hc
  go_enter Tryd.func66, Tryd.ntmps66
  go_wp2_with (refine wpList_make_full _ rfl _ _ 27 rfl w.heap.size 71 i0 _ 3 Tryd.underlying27 hi hz0 hz1 .i64 .i64 _ _ ss.length rfl rfl rfl rfl (by rw [hz2]; omega) (by unfold maxLen; omega) (Nat.le_refl _) ?_; intro w1 hown hgrow)
  have hrow0 : NodRow w1 w.heap.size ss 0 := by
    obtain ⟨cur, h1, h2⟩ := own_blkN hown
    exact ⟨cur, h1, h2, fun j hj => absurd hj (by omega)⟩
  have hb0 : Below w.heap.size w w1 := (Below.refl _ _).grown hgrow (Nat.le_refl _) (fun k hk => by cases hk)
  have HR0 := Shh.mk hrow0
  clear hown hgrow hrow0
  go_loopw [4] (fun i wr => ∃ k : Nat, k ≤ ss.length ∧ i = .int .i64 k ∧ Shh (NodRow wr w.heap.size ss k) ∧ Below w.heap.size w wr) (fun i _ => ss.length - (intOf i).toNat)
  case atStart => exact ⟨0, Nat.zero_le _, rfl, HR0, hb0⟩
  case round =>
    obtain ⟨k, hk, rfl, ho, hb⟩ := hrel
    clear HR0 hb0
    by_cases hlt : k < ss.length
    · obtain ⟨ba, oa, rfl, hba, hca⟩ := HC.out (by omega)
      have hA := NodIs.below (hca k hlt) hb hba
      have hul := hu _ (nodG_mem hlt)
      obtain ⟨x, hx⟩ : ∃ x, nodG ss k = x := ⟨_, rfl⟩
      rw [hx] at hA hul
      have HX := Shh.mk hx
      obtain ⟨f, n, us⟩ := x
      obtain ⟨k0, k1, u, k2, hus⟩ := hA
      simp only at k0 k1 k2 hus hul
      have HUS := Shh.mk hus
      have HF := Shh.mk hus.fine
      obtain ⟨ua, uc, rfl, -⟩ := hus
      have hgl : w.heap.size < wr.heap.size := by obtain ⟨cur, h1, _⟩ := ho.out; exact h1.lt
      clear hca hx
      go_wp2_with fail
      refine (toNode_any f n us _ HUS.out hul).mono ?_
      rintro e w2 ⟨tg, rfl, hto, hb2⟩
      have ho2 := ho.out.kept hb2
      have hB2 := hb.trans (hb2.mono hb.size)
      obtain ⟨⟨y0, y1, y2, e0, e1, e2⟩, hfz⟩ := ho2.free hlt
      have HG := Shh.mk (ho2.grow hlt HX.out (OwnI.lower hto (by omega)) HF.out)
      have HB := Shh.mk (((hB2.setCell (p := ⟨w.heap.size, k * 3, none⟩) (Nat.le_refl _) (.bool f)).setCell (p := ⟨w.heap.size, k * 3 + 1, none⟩) (Nat.le_refl _) (.string n)).setCell (p := ⟨w.heap.size, k * 3 + 2, none⟩) (Nat.le_refl _) (.slice (some ⟨tg, 0, none⟩) us.length us.length))
      clear ho2 k0 k1 k2 hto
      go_wp2
      go_roundw
      case rel => exact ⟨k + 1, by omega, by go_num, HG, HB.out⟩
      case measure => simp [intOf]; omega
    · obtain rfl : k = ss.length := by omega
      go_wp2
      go_ret
      exact ⟨rfl, ho.out, hb⟩

/-- What the sizes tell of an automaton's parts. -/
structure SmallD (xs : List Nod) : Prop where
  len : xs.length ≤ 1048576
  next : ∀ x ∈ xs, x.ns.length ≤ 1048576
  text : ∀ x ∈ xs, x.ls.size ≤ 1048576
theorem sumTo_atN (f : Nat → Nat) {j : Nat} : ∀ {n : Nat}, j < n → f j ≤ sumTo f n
  | 0, h => absurd h (by omega)
  | n + 1, h => by
    rw [sumTo]
    rcases Nat.lt_or_ge j n with h1 | h1
    · have := sumTo_atN f h1; omega
    · obtain rfl : j = n := by omega
      omega
theorem smallD_of {xs : List Nod} (h : nodsW xs ≤ 1048576) : SmallD xs := by
  unfold nodsW at h
  have hs : ∀ x ∈ xs, nodW x ≤ 1048576 := by
    intro x hx
    obtain ⟨i, hi, rfl⟩ := mem_getDN nod0 hx
    have := sumTo_atN (fun j => nodW (nodG xs j)) hi
    simp only [nodG] at this h
    omega
  exact ⟨by omega, fun x hx => by have := hs x hx; unfold nodW at this; omega, fun x hx => by have := hs x hx; unfold nodW at this; omega⟩

set_option maxHeartbeats 2000000 in
theorem toDawg_any {v : Value} {xs : List Nod} (w : World) (h : Nds w v xs) (hs : SmallD xs) :
    Calls Tryd.prog 21 #[.agg #[v]] w fun e w' => ∃ g, e = .returned (.agg #[.slice (some ⟨g, 0, none⟩) xs.length xs.length]) ∧ NodRow w' g xs xs.length ∧ w.heap.size ≤ g ∧ Below w.heap.size w w' := by
  have HG := Shh.mk (((h.alloc (.cells #[v] 24)).alloc (.cells #[.slice none 0 0] 29)).alloc (.cells #[.slice none 0 0] 29))
  obtain ⟨aa, ac, rfl, -⟩ := h
  go_enter Tryd.func21, Tryd.ntmps21
  go_wp2_with fail
  refine (toNodeS_any _ HG.out hs.len hs.next).mono ?_
  rintro e w1 ⟨rfl, ha, hb1⟩
  have hz1 : w.heap.size + 3 ≤ w1.heap.size := by have := hb1.size; simp at this; omega
  have q1 := ((Blk.made (w.alloc (.cells #[.slice aa xs.length ac] 24)) 29 #[.slice none 0 0]).alloc (.cells #[.slice none 0 0] 29)).kept hb1 (by simp)
  have q2 := (Blk.made ((w.alloc (.cells #[.slice aa xs.length ac] 24)).alloc (.cells #[.slice none 0 0] 29)) 29 #[.slice none 0 0]).kept hb1 (by simp)
  simp only [World.size_alloc] at q1 q2 ha ⊢
  have hB1 := Shh.mk ((((((Below.refl w.heap.size w).alloc (Nat.le_refl _) (.cells #[.slice aa xs.length ac] 24)).alloc (by simp) (.cells #[.slice none 0 0] 29)).alloc (by simp; omega) (.cells #[.slice none 0 0] 29))).trans (hb1.mono (by simp; omega)))
  have c1 := q1.cells
  have c2 := q2.cells
  have m1 := q1.marks
  have m2 := q2.marks
  obtain ⟨ga, hga⟩ : ∃ ga, w.heap.size + 1 + 1 + 1 = ga := ⟨_, rfl⟩
  rw [hga] at ha ⊢
  have HA := Shh.mk ha
  clear q1 q2 hb1 ha
  go_wp2
  refine bodyPost_ret (v := .agg #[.slice (some ⟨ga, 0, none⟩) xs.length xs.length]) (by simp [results, Tryd.results21, go_sem, c1]) rfl ?_
  refine ⟨ga, rfl, ?_, by omega, ?_⟩
  · exact (HA.out.off (by omega) _ _).off (by omega) _ _
  · exact (hB1.out.setCell (by simp; omega) _).setCell (by simp) _
end Go.Proofs.YtokfkofclpajfaaDoor

namespace Go.Proofs.YtokfkofclpajfaaDoor
open Go.RowKit

set_option maxHeartbeats 1000000 in
theorem eqNode_same {u v : Value} (f : Bool) (n : ByteArray) (us : List Int) (W : World) (hu : Ints .i64 W u us) (hv : Ints .i64 W v us) :
    Calls Tryd.prog 111 #[.agg #[.bool f, .string n, u], .agg #[.bool f, .string n, v]] W fun e w' => e = .returned (.bool true) ∧ Below W.heap.size W w' := by
  have HU := Shh.mk ((hu.alloc (.cells #[.bool f, .string n, u] 71)).alloc (.cells #[.bool f, .string n, v] 71))
  have HV := Shh.mk ((hv.alloc (.cells #[.bool f, .string n, u] 71)).alloc (.cells #[.bool f, .string n, v] 71))
  obtain ⟨ua, uc, rfl, -⟩ := hu
  obtain ⟨va, vc, rfl, -⟩ := hv
  go_enter Tryd.func111, Tryd.ntmps111
  go_wp2_with fail
  refine (eqInt64S_same _ HU.out HV.out).mono ?_
  rintro e w' ⟨rfl, m, rfl⟩
  go_wp2
  go_ret
  exact ⟨rfl, below_drewN (((Below.refl _ _).alloc (Nat.le_refl _) _).alloc (by simp) _) _⟩

set_option maxRecDepth 100000 in
set_option maxHeartbeats 2000000 in
theorem eqNodeS_same {va vb : Value} {ss : List Nod} (w : World) (ha : Nds w va ss) (hb : Nds w vb ss) :
    Calls Tryd.prog 71 #[va, vb] w fun e w' => e = .returned (.bool true) ∧ Below w.heap.size w w' := by
  have hal := ha.len
  obtain ⟨a, capa, rfl, hla, hma, hca⟩ := ha
  obtain ⟨b, capb, rfl, hlb, hmb, hcb⟩ := hb
  have HCA := Shh.mk hca
  have HCB := Shh.mk hcb
  clear hca hcb
  go_enter Tryd.func71, Tryd.ntmps71
  go_wp2
  go_loopw [5] (fun i w' => ∃ k : Nat, k ≤ ss.length ∧ i = .int .i64 k ∧ Below w.heap.size w w') (fun i _ => ss.length - (intOf i).toNat)
  case atStart => exact ⟨0, Nat.zero_le _, rfl, Below.refl _ _⟩
  case round =>
    obtain ⟨k, hk, rfl, hB⟩ := hrel
    by_cases hlt : k < ss.length
    · obtain ⟨ba, oa, rfl, hba, hca'⟩ := HCA.out (by omega)
      obtain ⟨bb, ob, rfl, hbb, hcb'⟩ := HCB.out (by omega)
      have hA := NodIs.below (hca' k hlt) hB hba
      have hC := NodIs.below (hcb' k hlt) hB hbb
      obtain ⟨x, hx⟩ : ∃ x, nodG ss k = x := ⟨_, rfl⟩
      rw [hx] at hA hC
      obtain ⟨f, n, us⟩ := x
      obtain ⟨k0, k1, u, k2, hu⟩ := hA
      obtain ⟨l0, l1, v, l2, hv⟩ := hC
      simp only at k0 k1 k2 l0 l1 l2 hu hv
      have HU := Shh.mk hu
      have HV := Shh.mk hv
      obtain ⟨ua, uc, rfl, -⟩ := hu
      obtain ⟨va, vc, rfl, -⟩ := hv
      clear hca' hcb' hx
      go_wp2
      go_region_with (go_at_call 111; refine (eqNode_same f n us _ (HU.out.drewN 1) (HV.out.drewN 1)).mono ?_; rintro e w2 ⟨rfl, hb2⟩; have hB2 := Below.trans (Below.drew hB) (Below.mono hb2 hB.size))
      all_goals
        go_wp2
        go_roundw
        case rel => exact ⟨k + 1, by omega, by go_num, by first | exact hB2 | exact hB2.drew⟩
        case measure => simp [intOf]; omega
    · go_wp2
      go_ret
      exact ⟨rfl, hB⟩

set_option maxHeartbeats 1000000 in
theorem eqDawg_same {va vb : Value} {xs : List Nod} (W : World) (hx : Nds W va xs) (hy : Nds W vb xs) :
    Calls Tryd.prog 23 #[.agg #[va], .agg #[vb]] W fun e w' => e = .returned (.bool true) ∧ Below W.heap.size W w' := by
  have HX := Shh.mk ((hx.alloc (.cells #[va] 29)).alloc (.cells #[vb] 29))
  have HY := Shh.mk ((hy.alloc (.cells #[va] 29)).alloc (.cells #[vb] 29))
  have hB := Shh.mk (((Below.refl W.heap.size W).alloc (Nat.le_refl _) (.cells #[va] 29)).alloc (by simp) (.cells #[vb] 29))
  obtain ⟨aa, ac, rfl, -⟩ := hx
  obtain ⟨ba, bc, rfl, -⟩ := hy
  go_enter Tryd.func23, Tryd.ntmps23
  go_wp2_with fail
  refine (eqNodeS_same _ HX.out HY.out).mono ?_
  rintro e w1 ⟨rfl, hb1⟩
  go_wp2
  go_ret
  exact ⟨rfl, hB.out.trans (hb1.mono hB.out.size)⟩
end Go.Proofs.YtokfkofclpajfaaDoor

namespace Go.Proofs.YtokfkofclpajfaaDoor
open Go.RowKit

def sameD (x y : Nod) : Bool := (x.f == y.f) && ((x.ls.toList == y.ls.toList) && decide (x.ns = y.ns))
def sameDs (xs ys : List Nod) : Bool := decide (xs.length = ys.length) && allTo (fun j => sameD (nodG xs j) (nodG ys j)) xs.length
theorem sameDs_len {xs ys : List Nod} (h : ¬ xs.length = ys.length) : sameDs xs ys = false := by simp [sameDs, h]
theorem sameDs_all {xs ys : List Nod} (h : xs.length = ys.length) : sameDs xs ys = allTo (fun j => sameD (nodG xs j) (nodG ys j)) xs.length := by simp [sameDs, h]

theorem sameN_on {va vb : Value} {za zb : List Int} {t : Bool} (h : decide (za = zb) = t) (w0 W : World) (hb : Below w0.heap.size w0 W) (ha : Ints .i64 W va za) (hv : Ints .i64 W vb zb) :
    Calls Tryd.prog 137 #[va, vb] W fun e w' => e = .returned (.bool t) ∧ Below w0.heap.size w0 w' :=
  (l00Same_any W ha hv).mono fun _ _ ⟨h1, n, h2⟩ => ⟨by rw [h1, h], by rw [h2]; exact below_drewN hb n⟩
theorem quietL {t : Bool} {va vb : Value} {za zb : List Int} {W : World} {n : Nat} (h : decide (za = zb) = t) (ha : Ints .i64 W va za) (hv : Ints .i64 W vb zb) :
    Calls Tryd.prog 137 #[va, vb] (W.drewN n) fun e w' => e = .returned (.bool t) ∧ ∃ m, w' = W.drewN m := by
  refine (l00Same_any _ (ha.drewN n) (hv.drewN n)).mono ?_
  rintro e w' ⟨rfl, m, rfl⟩
  exact ⟨by rw [h], _, World.drewN_drewN _ _ _⟩
set_option maxRecDepth 100000 in
set_option maxHeartbeats 2000000 in
theorem l06Equal_any {b1 o1 b2 o2 : Nat} {x y : Nod} (W : World) (hx : NodIs W b1 o1 x) (hy : NodIs W b2 o2 y) :
    Calls Tryd.prog 126 #[.pointer (some ⟨b1, o1, none⟩), .pointer (some ⟨b2, o2, none⟩)] W fun e w' => e = .returned (.bool (sameD x y)) ∧ ∃ n, w' = W.drewN n := by
  obtain ⟨f, ls, ns⟩ := x
  obtain ⟨f2, ls2, ns2⟩ := y
  obtain ⟨h0, h1, u, h2, h3⟩ := hx
  obtain ⟨k0, k1, v, k2, k3⟩ := hy
  simp only at h0 h1 h2 h3 k0 k1 k2 k3
  by_cases e0 : f = f2
  · subst e0
    by_cases e1 : ls = ls2
    · subst e1
      obtain ⟨t, ht⟩ : ∃ t, decide (ns = ns2) = t := ⟨_, rfl⟩
      have HR := Shh.mk (show sameD ⟨f, ls, ns⟩ ⟨f, ls, ns2⟩ = t by rw [← ht]; simp [sameD])
      have HT := Shh.mk ht
      have HU := Shh.mk h3
      have HV := Shh.mk k3
      obtain ⟨ua, uc, rfl, -⟩ := h3
      obtain ⟨va, vc, rfl, -⟩ := k3
      clear ht
      go_enter Tryd.func126, Tryd.ntmps126
      go_wp2
      go_quiet ((go_at_call 137; with_reducible exact quietL HT.out HU.out HV.out))
      go_wp2
      go_ret
      exact ⟨ret_bool HR.out.symm, _, by first | rfl | exact World.drewN_drewN _ _ _⟩
    · have hs := strNe e1
      have hs1 : (ls.toList == ls2.toList) = false := hs
      have HR := Shh.mk (show sameD ⟨f, ls, ns⟩ ⟨f, ls2, ns2⟩ = false by simp [sameD, hs])
      obtain ⟨ua, uc, rfl, -⟩ := h3
      obtain ⟨va, vc, rfl, -⟩ := k3
      clear e1 hs
      go_enter Tryd.func126, Tryd.ntmps126
      go_wp2
      go_quiet (fail)
      go_wp2
      go_ret
      exact ⟨ret_bool HR.out.symm, _, by first | rfl | exact World.drewN_drewN _ _ _⟩
  · have hs := beq_eq_false_iff_ne.2 e0
    have hs0 : (f == f2) = false := hs
    have HR := Shh.mk (show sameD ⟨f, ls, ns⟩ ⟨f2, ls2, ns2⟩ = false by simp [sameD, hs])
    obtain ⟨ua, uc, rfl, -⟩ := h3
    obtain ⟨va, vc, rfl, -⟩ := k3
    clear e0 hs
    go_enter Tryd.func126, Tryd.ntmps126
    go_wp2
    go_quiet (fail)
    go_wp2
    go_ret
    exact ⟨ret_bool HR.out.symm, _, by first | rfl | exact World.drewN_drewN _ _ _⟩
end Go.Proofs.YtokfkofclpajfaaDoor

namespace Go.Proofs.YtokfkofclpajfaaDoor
open Go.RowKit

theorem NodIs.drewN {W : World} {b o : Nat} {x : Nod} (h : NodIs W b o x) (n : Nat) : NodIs (W.drewN n) b o x := h
theorem l06Equal_is {b1 o1 b2 o2 : Nat} {x y : Nod} {t : Bool} (h : sameD x y = t) (W : World) (hx : NodIs W b1 o1 x) (hy : NodIs W b2 o2 y) :
    Calls Tryd.prog 126 #[.pointer (some ⟨b1, o1, none⟩), .pointer (some ⟨b2, o2, none⟩)] W fun e w' => e = .returned (.bool t) ∧ ∃ m, w' = W.drewN m := by
  rw [← h]
  exact l06Equal_any W hx hy


set_option maxRecDepth 100000 in
set_option maxHeartbeats 4000000 in
theorem l06Same_any {g1 g2 : Nat} {va vb : Value} {xs ys : List Nod} (w : World) (h1 : Blk w g1 29 #[va]) (h2 : Blk w g2 29 #[vb]) (ha : Nds w va xs) (hb : Nds w vb ys) :
    Calls Tryd.prog 105 #[.pointer (some ⟨g1, 0, none⟩), .pointer (some ⟨g2, 0, none⟩)] w fun e w' => e = .returned (.bool (sameDs xs ys)) ∧ ∃ n, w' = w.drewN n := by
  have hal := ha.len
  have hbl := hb.len
  have c1 := h1.cells 0
  have c2 := h2.cells 0
  obtain ⟨a, capa, rfl, hla, hma, hca⟩ := ha
  obtain ⟨b, capb, rfl, hlb, hmb, hcb⟩ := hb
  have HCA := Shh.mk hca
  have HCB := Shh.mk hcb
  clear hca hcb
  by_cases hne : xs.length = ys.length
  · have hn1 : (xs.length : Int) = (ys.length : Int) := by omega
    have hall := sameDs_all hne
    have HE := hid hne
    obtain ⟨p, hp⟩ : ∃ p : Nat → Bool, (fun j => sameD (nodG xs j) (nodG ys j)) = p := ⟨_, rfl⟩
    have hpk : ∀ k, sameD (nodG xs k) (nodG ys k) = p k := fun k => by rw [← hp]
    rw [hp] at hall
    have HALL := Shh.mk hall
    have HP := Shh.mk hpk
    have HC := Shh.mk (And.intro c1 c2)
    clear hne hall hpk hp
    go_enter Tryd.func105, Tryd.ntmps105
    go_wp2
    go_quiet (fail)
    go_wp2
    clear hn1
    rename_i nq _
    go_loopw [5] (fun i w' => ∃ k n : Nat, k ≤ xs.length ∧ i = .int .i64 k ∧ w' = w.drewN n ∧ Hid (allTo p k = true)) (fun i _ => xs.length - (intOf i).toNat)
    case atStart => exact ⟨0, _, Nat.zero_le _, rfl, rfl, allTo_zero _⟩
    case round =>
      obtain ⟨k, m, hk, rfl, hw', ht⟩ := hrel
      have HW := Shh.mk hw'
      have d1 : wr.cell? ⟨g1, 0, none⟩ = some (.slice a xs.length capa) := by rw [hw']; exact HC.out.1
      have d2 : wr.cell? ⟨g2, 0, none⟩ = some (.slice b ys.length capb) := by rw [hw']; exact HC.out.2
      by_cases hlt : k < xs.length
      · have hltb : k < ys.length := by rw [← HE.out]; exact hlt
        obtain ⟨ba, oa, rfl, hba, hca'⟩ := HCA.out (by omega)
        obtain ⟨bb, ob, rfl, hbb, hcb'⟩ := HCB.out (by omega)
        have HXA := Shh.mk (show NodIs wr ba (oa + k * 3) (nodG xs k) by rw [hw']; exact hca' k hlt)
        have HYB := Shh.mk (show NodIs wr bb (ob + k * 3) (nodG ys k) by rw [hw']; exact hcb' k hltb)
        have HK1 := Shh.mk (HP.out k)
        have HS := Shh.mk (allTo_succ p k)
        have HNO := Shh.mk (fun h => HALL.out.trans (allTo_not (p := p) (n := xs.length) hlt h))
        clear hca' hcb' hw'
        cases hpk : p k
        · have HN := Shh.mk (HNO.out hpk)
          have HK2 := Shh.mk (HK1.out.trans hpk)
          clear hpk
          go_wp2
          go_quiet ((go_at_call 126; exact Calls.quiet_of (l06Equal_is HK2.out _ (HXA.out.drewN _) (HYB.out.drewN _))))
          go_wp2
          go_ret
          exact ⟨ret_bool HN.out.symm, _, by rw [HW.out]; exact World.drewN_drewN _ _ _⟩
        · have HK := Shh.mk hpk
          have HK2 := Shh.mk (HK1.out.trans hpk)
          clear hpk
          go_wp2
          go_quiet ((go_at_call 126; exact Calls.quiet_of (l06Equal_is HK2.out _ (HXA.out.drewN _) (HYB.out.drewN _))))
          go_wp2
          go_roundw
          case rel => exact ⟨k + 1, _, by omega, by go_num, by rw [HW.out]; exact World.drewN_drewN _ _ _, by rw [Hid, HS.out, ht.out, HK.out]; rfl⟩
          case measure => simp [intOf]; omega
      · obtain rfl : k = xs.length := by omega
        have HD := Shh.mk (HALL.out.trans ht.out)
        clear hw'
        go_wp2
        go_ret
        exact ⟨ret_bool HD.out.symm, _, HW.out⟩
  · have HD := Shh.mk (sameDs_len hne)
    have hn1 : ¬ (xs.length : Int) = (ys.length : Int) := by omega
    have hn2 : ((xs.length : Int) != (ys.length : Int)) = true := by simp; omega
    clear hne
    go_enter Tryd.func105, Tryd.ntmps105
    go_wp2
    go_quiet (fail)
    go_wp2
    go_ret
    exact ⟨ret_bool HD.out.symm, _, by first | rfl | exact World.drewN_drewN _ _ _⟩

theorem toDawgL_any {v : Value} {xs : List Nod} (w : World) (h : Nds w v xs) (hs : SmallD xs) :
    Calls Tryd.prog 21 #[.agg #[v]] w fun e w' => ∃ a s, e = .returned (.agg #[.slice a xs.length s]) ∧ Nds w' (.slice a xs.length s) xs ∧ Below w.heap.size w w' :=
  (toDawg_any w h hs).mono fun _ _ ⟨_, h1, h2, _, h4⟩ => ⟨_, _, h1, h2.nds hs.len, h4⟩
theorem toD_on {v : Value} {xs : List Nod} (w0 W : World) (hb : Below w0.heap.size w0 W) (h : Nds w0 v xs) (hs : SmallD xs) :
    Calls Tryd.prog 21 #[.agg #[v]] W fun e w' => ∃ a s, e = .returned (.agg #[.slice a xs.length s]) ∧ Nds w' (.slice a xs.length s) xs ∧ Below w0.heap.size w0 w' ∧ Below W.heap.size W w' :=
  (toDawgL_any W (h.below hb) hs).mono fun _ _ ⟨a, s, h1, h2, h3⟩ => ⟨a, s, h1, h2, hb.trans (h3.mono hb.size), h3⟩
theorem eqD_on {va vb : Value} {xs : List Nod} (w0 W : World) (hb : Below w0.heap.size w0 W) (hx : Nds W va xs) (hy : Nds W vb xs) :
    Calls Tryd.prog 23 #[.agg #[va], .agg #[vb]] W fun e w' => e = .returned (.bool true) ∧ Below w0.heap.size w0 w' :=
  (eqDawg_same W hx hy).mono fun _ _ ⟨h1, h2⟩ => ⟨h1, hb.trans (h2.mono hb.size)⟩
theorem twoDaw {b1 b2 : Nat} {t1 t2 : TypeId} {x1 x2 : Value} {w w' : World} (p1 : Blk w b1 t1 #[x1]) (p2 : Blk w b2 t2 #[x2]) (hb : Below w.heap.size w w') : w'.cell? ⟨b1, 0, none⟩ = some x1 ∧ w'.cell? ⟨b2, 0, none⟩ = some x2 :=
  ⟨(p1.kept hb p1.lt).cells 0, (p2.kept hb p2.lt).cells 0⟩
end Go.Proofs.YtokfkofclpajfaaDoor
