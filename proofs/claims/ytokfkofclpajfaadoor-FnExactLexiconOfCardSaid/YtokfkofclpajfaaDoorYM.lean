/-
  The laws' marks on an automaton and on a list of numbers: what they leave alone, and what they find.
-/
import Derived.Test.YtokfkofclpajfaaDoorNB
import Derived.Test.YtokfkofclpajfaaDoorJ1
import Derived.Test.YtokfkofclpajfaaDoorVO
namespace Go.Proofs.YtokfkofclpajfaaDoor
open Go.ChangeShapes Go.WideShapes Go.ChangeAt Go.RowKit Go.Joins Go.Deep

/-- Nothing has changed but blocks from lo up to hi, and those keep their types and sizes. -/
structure KeptD (lo hi : Nat) (w w' : World) : Prop where
  apart : Apart (fun b => lo ≤ b ∧ b < hi) w w'
  blk : ∀ g t cur, Blk w g t cur → ∃ cur', Blk w' g t cur' ∧ cur'.size = cur.size
theorem KeptD.refl (lo hi : Nat) (w : World) : KeptD lo hi w w := ⟨Apart.refl _ w, fun _ _ cur h => ⟨cur, h, rfl⟩⟩
theorem KeptD.quiet {lo hi : Nat} {w w1 w2 : World} (h : KeptD lo hi w w1) (hb : Below w1.heap.size w1 w2) : KeptD lo hi w w2 :=
  ⟨h.apart.belowA hb, fun g t cur hc => by obtain ⟨c, h1, h2⟩ := h.blk g t cur hc; exact ⟨c, h1.kept hb h1.lt, h2⟩⟩
theorem KeptD.trans {lo hi : Nat} {w w1 w2 : World} (h : KeptD lo hi w w1) (k : KeptD lo hi w1 w2) : KeptD lo hi w w2 :=
  ⟨h.apart.trans k.apart (fun _ _ h => h), fun g t cur hc => by obtain ⟨c, h1, h2⟩ := h.blk g t cur hc; obtain ⟨d, h3, h4⟩ := k.blk g t c h1; exact ⟨d, h3, h4.trans h2⟩⟩
theorem KeptD.store {lo hi g : Nat} {w w1 : World} (h : KeptD lo hi w w1) (hl : lo ≤ g) (hh : g < hi) (j : Nat) (u : Value) : KeptD lo hi w (w1.setCell ⟨g, j, none⟩ u) := by
  refine ⟨h.apart.setCell (p := ⟨g, j, none⟩) (fun _ => ⟨hl, hh⟩) u, fun g' t cur hc => ?_⟩
  obtain ⟨c, h1, h2⟩ := h.blk g' t cur hc
  by_cases hx : g' = g
  · subst hx
    exact ⟨_, h1.stored j u, by simpa using h2⟩
  · exact ⟨c, h1.other (p := ⟨g, j, none⟩) hx u, h2⟩
theorem KeptD.free {lo hi g n : Nat} {t : TypeId} {cur : Array Value} {w w1 : World} (h : KeptD lo hi w w1) (hc : Blk w g t cur) (hs : cur.size = n) {j : Nat} (hj : j < n) : (∃ y, w1.cell? ⟨g, j, none⟩ = some y) ∧ w1.frozen? ⟨g, j, none⟩ = false := by
  obtain ⟨c, h1, h2⟩ := h.blk g t cur hc
  exact ⟨⟨_, (h1.cells j).trans (Array.getElem?_eq_getElem (by omega))⟩, h1.marks j⟩
/-- A slice of n numbers that may be written, in a block of that stretch. -/
def RmI (lo hi : Nat) (w : World) (u : Value) (n : Nat) : Prop :=
  ∃ (a : Option Addr) (cap : Nat), u = .slice a n cap ∧ n ≤ cap ∧ cap ≤ maxLen ∧ (0 < n → ∃ g cur, a = some ⟨g, 0, none⟩ ∧ lo ≤ g ∧ g < hi ∧ Blk w g 2 cur ∧ n ≤ cur.size)
theorem RmI.kept {lo hi n : Nat} {w w' : World} {u : Value} (h : RmI lo hi w u n) (k : KeptD lo hi w w') : RmI lo hi w' u n := by
  obtain ⟨a, cap, h1, h2, h3, h4⟩ := h
  refine ⟨a, cap, h1, h2, h3, fun hp => ?_⟩
  obtain ⟨g, cur, e, hl, hh, hb, hs⟩ := h4 hp
  obtain ⟨c, hb2, hs2⟩ := k.blk g _ cur hb
  exact ⟨g, c, e, hl, hh, hb2, by omega⟩
set_option maxHeartbeats 2000000 in
theorem markInt_room {lo hi n : Nat} {v : Value} (x : Int) (k : Nat) (w : World) (hx : x = (k : Int)) (h : RmI lo hi w v n) (hkn : k + n ≤ 4000000000) :
    Calls Tryd.prog 50 #[v, .int .i64 x] w fun e w' => e = .returned (.int .i64 ((k + n : Nat) : Int)) ∧ KeptD lo hi w w' ∧ Apart (fun b => 0 < n ∧ v.ownBlock = some b) w w' := by
  subst hx
  obtain ⟨a, cap, rfl, h1, h2, h3⟩ := h
  unfold maxLen at h2
  have HAT := Shh.mk h3
  have HK0 := Shh.mk (KeptD.refl lo hi w)
  have HA0 := Shh.mk (Apart.refl (fun b => 0 < n ∧ (Value.slice a n cap).ownBlock = some b) w)
  clear h3
  go_enter Tryd.func50, Tryd.ntmps50
  go_wp2
  go_loopw [1, 5] (fun x i wr => ∃ j K : Nat, j ≤ n ∧ i = .int .i64 j ∧ x = .int .i64 K ∧ Shh (K = k + j) ∧ Shh (KeptD lo hi w wr) ∧ Shh (Apart (fun b => 0 < n ∧ (Value.slice a n cap).ownBlock = some b) w wr)) (fun _ i _ => n - (intOf i).toNat)
  case atStart => exact ⟨0, k, Nat.zero_le _, rfl, rfl, ⟨rfl⟩, HK0, HA0⟩
  case round =>
    clear HK0 HA0
    obtain ⟨j, K, hj, rfl, rfl, hK, hB, hA⟩ := hrel
    by_cases hlt : j < n
    · obtain ⟨g, cur, rfl, hl, hh, hb, hs⟩ := HAT.out (by omega)
      have hKK := hK.out
      have hK2 : K + 1 ≤ 4000000000 := by omega
      have HK3 := Shh.mk (show K + 1 = k + (j + 1) by omega)
      obtain ⟨⟨y, c0⟩, cf⟩ := hB.out.free hb (n := cur.size) rfl (j := j) (by omega)
      have HK4 := Shh.mk (hB.out.store hl hh j (.int .i64 K))
      have HA4 := Shh.mk (hA.out.setCell (p := ⟨g, j, none⟩) (fun _ => ⟨by omega, rfl⟩) (.int .i64 K))
      clear hKK hb
      go_wp2
      go_roundw
      case rel => exact ⟨j + 1, K + 1, by omega, by go_num, by first | rfl | go_num, HK3, HK4, HA4⟩
      case measure => simp [intOf]; omega
    · obtain rfl : j = n := by omega
      have HE := hK.out
      go_wp2
      go_ret
      exact ⟨by rw [HE]; rfl, hB.out, hA.out⟩
/-- How many marks the first nodes take. -/
def mkD (ss : List Nod) (k : Nat) : Nat := sumTo (fun j => 2 + (nodG ss j).ns.length) k
theorem mkD_succ (ss : List Nod) (k : Nat) : mkD ss (k + 1) = mkD ss k + (2 + (nodG ss k).ns.length) := rfl
theorem mkD_mono (ss : List Nod) {j n : Nat} (h : j ≤ n) : mkD ss j ≤ mkD ss n := by
  induction n with
  | zero => obtain rfl : j = 0 := by omega
            exact Nat.le_refl _
  | succ n ih =>
    rcases Nat.lt_or_ge j (n + 1) with h1 | h1
    · rw [mkD_succ]
      have := ih (by omega)
      omega
    · obtain rfl : j = n + 1 := by omega
      exact Nat.le_refl _
theorem mkD_le (ss : List Nod) : ∀ k, mkD ss k ≤ 2 * k + sumTo (fun j => nodW (nodG ss j)) k
  | 0 => Nat.le_refl _
  | k + 1 => by
    have h1 := mkD_le ss k
    have h2 : sumTo (fun j => nodW (nodG ss j)) (k + 1) = sumTo (fun j => nodW (nodG ss j)) k + nodW (nodG ss k) := rfl
    have h3 : nodW (nodG ss k) = (nodG ss k).ls.size + (nodG ss k).ns.length := rfl
    rw [mkD_succ, h2, h3]
    omega
theorem mkD_small {ss : List Nod} (h : nodsW ss ≤ 1048576) : mkD ss ss.length ≤ 2097152 := by
  have := mkD_le ss ss.length
  unfold nodsW at h
  omega
/-- An automaton whose rows may be written, all in one stretch of the heap. -/
def DRm (lo hi : Nat) (w : World) (g : Nat) (ss : List Nod) : Prop :=
  ∃ (cur : Array Value) (U : Nat → Value), Blk w g 71 cur ∧ cur.size = ss.length * 3 ∧ lo ≤ g ∧ g < hi ∧
    ∀ j, j < ss.length → cur[j * 3 + 2]? = some (U j) ∧ RmI lo hi w (U j) (nodG ss j).ns.length
theorem DRm.quiet {lo hi g : Nat} {w w' : World} {ss : List Nod} (h : DRm lo hi w g ss) (hb : Below w.heap.size w w') : DRm lo hi w' g ss := by
  obtain ⟨ca, U, h1, h2, h3, h4, h5⟩ := h
  exact ⟨ca, U, h1.kept hb h1.lt, h2, h3, h4, fun j hj => ⟨(h5 j hj).1, (h5 j hj).2.kept ((KeptD.refl lo hi w).quiet hb)⟩⟩
theorem DRm.of_row {lo g : Nat} {w : World} {ss : List Nod} (h : NodRow w g ss ss.length) (h1 : lo ≤ g) : DRm lo w.heap.size w g ss := by
  obtain ⟨cur, b, s, hc⟩ := h
  refine ⟨cur, fun j => (cur[j * 3 + 2]?).getD .nilFunc, b, s, h1, b.lt, fun j hj => ?_⟩
  obtain ⟨-, -, u, e, ho, -⟩ := hc j hj
  have hU : ((cur[j * 3 + 2]?).getD .nilFunc) = u := by rw [e]; rfl
  show cur[j * 3 + 2]? = some ((cur[j * 3 + 2]?).getD .nilFunc) ∧ RmI lo w.heap.size w ((cur[j * 3 + 2]?).getD .nilFunc) _
  rw [hU]
  refine ⟨e, ?_⟩
  obtain ⟨g2, e2, ho, hn⟩ := ho
  have ho' := ho
  rw [e2] at ho'
  obtain ⟨c2, hb2, hs2⟩ := own_blkN ho'
  have hlt := World.ownsRow.lt ho g2 (by rw [e2]; rfl)
  refine ⟨_, _, e2, Nat.le_refl _, by unfold maxLen; omega, fun hp => ⟨g2, c2, rfl, by omega, hlt.2, hb2, by omega⟩⟩
set_option maxRecDepth 100000 in
set_option maxHeartbeats 4000000 in
theorem markNode_room {lo hi g : Nat} {cur : Array Value} {ss : List Nod} {U : Nat → Value} (x : Int) (k : Nat) (w : World) (hx : x = (k : Int)) (hb : Blk w g 71 cur) (hs : cur.size = ss.length * 3) (hl : lo ≤ g) (hh : g < hi)
    (hu : ∀ j, j < ss.length → cur[j * 3 + 2]? = some (U j) ∧ RmI lo hi w (U j) (nodG ss j).ns.length) (hk : 0 < k) (hkn : k + mkD ss ss.length ≤ 4000000000) (hsl : ss.length ≤ 4000000000) :
    Calls Tryd.prog 81 #[.slice (some ⟨g, 0, none⟩) ss.length ss.length, .int .i64 x] w fun e w' => e = .returned (.int .i64 ((k + mkD ss ss.length : Nat) : Int)) ∧ KeptD lo hi w w' := by
  subst hx
  have HBB := Shh.mk hb
  have HSS := Shh.mk hs
  have HU := Shh.mk hu
  have HK0 := Shh.mk (KeptD.refl lo hi w)
  have HC0 := Shh.mk (fun j (hj : j < ss.length) => (hb.cells (j * 3 + 2)).trans (hu j hj).1)
  have HMX := Shh.mk (fun {j : Nat} (hj : j ≤ ss.length) => mkD_mono ss hj)
  clear hb hs hu
  go_enter Tryd.func81, Tryd.ntmps81
  go_wp2
  go_loopw [1, 5] (fun x i wr => ∃ j K : Nat, j ≤ ss.length ∧ i = .int .i64 j ∧ x = .int .i64 K ∧ Shh (K = k + mkD ss j) ∧ Shh (KeptD lo hi w wr) ∧ Shh (∀ j, j < ss.length → wr.cell? ⟨g, j * 3 + 2, none⟩ = some (U j))) (fun _ i _ => ss.length - (intOf i).toNat)
  case atStart => exact ⟨0, k, Nat.zero_le _, rfl, rfl, ⟨rfl⟩, HK0, HC0⟩
  case round =>
    clear HK0 HC0
    obtain ⟨j, K, hj, rfl, rfl, hK, hB, hC⟩ := hrel
    by_cases hlt : j < ss.length
    · have hKK := hK.out
      have hle := HMX.out (j := j + 1) (by omega)
      rw [mkD_succ] at hle
      have hK1 : 0 < K := by omega
      have hK2 : K + (2 + (nodG ss j).ns.length) ≤ 4000000000 := by omega
      have HS := Shh.mk (show K + 2 + (nodG ss j).ns.length = k + mkD ss (j + 1) by rw [mkD_succ]; omega)
      have hrm := (HU.out j hlt).2
      obtain ⟨N, hN⟩ : ∃ N, (nodG ss j).ns.length = N := ⟨_, rfl⟩
      rw [hN] at hK2 HS hrm
      have HRM := Shh.mk hrm
      clear hKK hle hN hrm
      obtain ⟨⟨y0, c0⟩, f0⟩ := hB.out.free HBB.out HSS.out (j := j * 3) (by omega)
      have hgl : g < wr.heap.size := by obtain ⟨c, h1, -⟩ := hB.out.blk g _ _ HBB.out; exact h1.lt
      go_wp2_with fail
      refine (markText_int _ (K + 1) _ (by first | rfl | omega) (by omega) (by omega)).mono ?_
      rintro e w1 ⟨rfl, hb1⟩
      have k1 := (hB.out.store hl hh (j * 3) _).quiet hb1
      obtain ⟨⟨y1, c1⟩, f1⟩ := k1.free HBB.out HSS.out (j := j * 3 + 1) (by omega)
      have HK2 := Shh.mk (k1.store hl hh (j * 3 + 1) (.string ⟨(109 :: digits (K + 1)).toArray⟩))
      have HC2 := Shh.mk (fun i (hi : i < ss.length) => show (w1.setCell ⟨g, j * 3 + 1, none⟩ (.string ⟨(109 :: digits (K + 1)).toArray⟩)).cell? ⟨g, i * 3 + 2, none⟩ = some (U i) by
        obtain ⟨c0', q1, q2⟩ := hB.out.blk g _ _ HBB.out
        obtain ⟨c, h1, h2⟩ := k1.blk g _ _ HBB.out
        have h3 := h1.cells (i * 3 + 2)
        have h5 := (q1.cells (i * 3 + 2)).symm.trans (hC.out i hi)
        have h4 := (hb1.cell (p := ⟨g, i * 3 + 2, none⟩) (by simpa [World.setCell] using hgl)).trans (((q1.stored (j * 3) _).cells (i * 3 + 2)).trans ((Array.getElem?_setIfInBounds_ne (by omega)).trans h5))
        rw [(h1.stored _ _).cells, Array.getElem?_setIfInBounds_ne (by omega), ← h3]
        exact h4)
      have c2 := HC2.out j hlt
      have HR2 := Shh.mk (HRM.out.kept HK2.out)
      obtain ⟨la, lc, huv, -⟩ := HRM.out
      have HUV := Shh.mk huv
      rw [huv] at c2 HR2
      obtain ⟨X, hX⟩ : ∃ X : ByteArray, ⟨(109 :: digits (K + 1)).toArray⟩ = X := ⟨_, rfl⟩
      rw [hX] at c2 HK2 HR2 HC2 ⊢
      clear k1 hb1 huv hX c0 f0
      go_wp2_with fail
      refine (markInt_room _ (K + 2) _ (by first | rfl | omega) HR2.out (by omega)).mono ?_
      rintro e w3 ⟨rfl, hk3, ha3⟩
      have HK3 := Shh.mk (HK2.out.trans hk3)
      have HC3 := Shh.mk (fun i (hi : i < ss.length) => show w3.cell? ⟨g, i * 3 + 2, none⟩ = some (U i) by
        obtain ⟨c, h1, h2⟩ := HK2.out.blk g _ _ HBB.out
        have h5 : Blk w3 g 71 c := h1.apart ha3 (fun ⟨h6, h7⟩ => by
          obtain ⟨a', cap', e1, -, -, h8⟩ := HR2.out
          injection e1 with e1 _ _
          obtain ⟨g', cur', e2, -, -, h9, -⟩ := h8 h6
          subst e1
          subst e2
          simp [Value.ownBlock] at h7
          subst h7
          have := h9.symm.trans h1
          injection this with this
          injection this with _ this
          exact absurd this (by decide))
        rw [h5.cells, ← h1.cells]
        exact HC2.out i hi)
      clear hk3 ha3 c1 f1 c2
      go_wp2
      go_roundw
      case rel => exact ⟨j + 1, K + 2 + N, by omega, by go_num, by first | rfl | go_num, HS, HK3, HC3⟩
      case measure => simp [intOf]; omega
    · obtain rfl : j = ss.length := by omega
      have HE := hK.out
      go_wp2
      go_ret
      exact ⟨by rw [HE]; rfl, hB.out⟩
set_option maxHeartbeats 2000000 in
theorem markDawg_room {lo hi g : Nat} {ss : List Nod} (k : Nat) (w : World) (h : DRm lo hi w g ss) (hk : 0 < k) (hkn : k + mkD ss ss.length ≤ 4000000000) (hsl : ss.length ≤ 4000000000) :
    Calls Tryd.prog 33 #[.agg #[.slice (some ⟨g, 0, none⟩) ss.length ss.length], .int .i64 k] w fun e w' => e = .returned (.int .i64 ((k + mkD ss ss.length : Nat) : Int)) ∧ Apart (fun b => lo ≤ b ∧ b < hi) w w' := by
  have HP := Shh.mk (Blk.made w 29 #[.slice (some ⟨g, 0, none⟩) ss.length ss.length])
  have HB := Shh.mk ((Below.refl w.heap.size w).alloc (Nat.le_refl _) (.cells #[.slice (some ⟨g, 0, none⟩) ss.length ss.length] 29))
  obtain ⟨cur, U, a1, a2, a3, a4, a5⟩ := h.quiet HB.out
  have hp := HP.out.cells
  go_enter Tryd.func33, Tryd.ntmps33
  go_wp2_with fail
  refine (markNode_room _ k _ rfl a1 a2 a3 a4 a5 hk hkn hsl).mono ?_
  rintro e w1 ⟨rfl, hk1⟩
  go_wp2
  go_ret
  exact ⟨rfl, ((Apart.refl _ w).belowA HB.out).trans hk1.apart (fun _ _ h => h)⟩
theorem heldInt_any {v : Value} (k n : Nat) (w : World) (h : Ints .i64 w v ((List.range n).map fun j => ((k + j : Nat) : Int))) (hkn : k + n ≤ 4000000000) :
    Calls Tryd.prog 51 #[v, .int .i64 k] w fun e w' => e = .returned (.int .i64 ((k + n : Nat) : Int)) ∧ ∃ m, w' = w.drewN m := by
  obtain ⟨a, cap, rfl, h1, h2, h3, -⟩ := h
  simp only [List.length_map, List.length_range] at h1 h3 ⊢
  unfold maxLen at h2
  have HC := Shh.mk h3
  clear h3
  go_enter Tryd.func51, Tryd.ntmps51
  go_wp2
  go_loopw [1, 5] (fun x i wr => ∃ j m : Nat, j ≤ n ∧ i = .int .i64 j ∧ x = .int .i64 ((k : Int) + (j : Int)) ∧ wr = w.drewN m) (fun _ i _ => n - (intOf i).toNat)
  case atStart => exact ⟨0, 0, Nat.zero_le _, rfl, by simp, rfl⟩
  case round =>
    obtain ⟨j, m, hj, rfl, rfl, hw⟩ := hrel
    have HW := Shh.mk hw
    by_cases hlt : j < n
    · obtain ⟨bb, off, rfl, hbl, hc⟩ := HC.out (by omega)
      have ca : wr.cell? ⟨bb, off + j, none⟩ = some (.int .i64 ((k : Int) + (j : Int))) := by
        rw [hw]
        refine (hc j hlt).trans ?_
        simp [List.getD_eq_getElem?_getD, hlt]
      clear hc hw
      go_wp2
      go_roundw
      case rel => exact ⟨j + 1, _, by omega, by go_num, by rw [Int.add_assoc]; rfl, by first | exact HW.out | (rw [HW.out]; exact World.drewN_drewN _ _ _)⟩
      case measure => simp [intOf]; omega
    · obtain rfl : j = n := by omega
      clear hw
      go_wp2
      go_ret
      exact ⟨by first | rfl | (congr 2), _, by rw [HW.out]⟩
end Go.Proofs.YtokfkofclpajfaaDoor
