/-
  Rows of squares that a law compares, marks and reads back.
-/
import Derived.Test.YtmkdbahdhobdjaaDoorNT
import Derived.Test.YtmkdbahdhobdjaaDoorPL
import Derived.Deep.RegionHeld3
namespace Go.Proofs.YtmkdbahdhobdjaaDoor
open Go.RowKit Go.Deep

set_option maxRecDepth 100000 in
set_option maxHeartbeats 4000000 in
theorem eqSquareS_same {B1 B2 : Nat} {v1 v2 : Value} {ls : List Sq} (W : World) (h1 : OwnQ B1 W v1 ls) (h2 : OwnQ B2 W v2 ls) (hl : ls.length ≤ 1000) :
    Calls Tryd.prog 33 #[v1, v2] W fun e w' => e = .returned (.bool true) ∧ Below W.heap.size W w' := by
  obtain ⟨a1, c1, rfl, -, -, f1⟩ := h1.form
  obtain ⟨a2, c2, rfl, -, -, f2⟩ := h2.form
  have F1 := ShO.mk f1
  have F2 := ShO.mk f2
  obtain ⟨n, hn⟩ : ∃ n, ls.length = n := ⟨_, rfl⟩
  rw [hn] at F1 F2 hl
  rw [hn]
  clear f1 f2 h1 h2 hn
  go_enter Tryd.func33, Tryd.ntmps33
  go_wp2
  go_loopw [5] (fun i wr => ∃ (j : Nat), j ≤ n ∧ i = .int .i64 (j : Int) ∧ ShO (Below W.heap.size W wr)) (fun i _ => n - (intOf i).toNat)
  case atStart => exact ⟨0, Nat.zero_le _, rfl, ⟨Below.refl _ _⟩⟩
  case round =>
    obtain ⟨j, hj, rfl, hb⟩ := hrel
    by_cases hlt : j < n
    · obtain ⟨g1, rfl, -, hg1, k1⟩ := F1.out (by omega)
      obtain ⟨g2, rfl, -, hg2, k2⟩ := F2.out (by omega)
      obtain ⟨p0, p1⟩ := k1 j hlt
      obtain ⟨q0, q1⟩ := k2 j hlt
      obtain ⟨a, ha⟩ : ∃ a, (sqAt ls j).1 = a := ⟨_, rfl⟩
      obtain ⟨b, hbb⟩ : ∃ b, (sqAt ls j).2 = b := ⟨_, rfl⟩
      rw [ha] at p0 q0
      rw [hbb] at p1 q1
      have HK := ShO.mk (show ∀ w', Below wr.heap.size wr w' → (w'.cell? ⟨g1, j * 2, none⟩ = some (.int .i64 a) ∧ w'.cell? ⟨g1, j * 2 + 1, none⟩ = some (.int .i64 b)) ∧ w'.cell? ⟨g2, j * 2, none⟩ = some (.int .i64 a) ∧ w'.cell? ⟨g2, j * 2 + 1, none⟩ = some (.int .i64 b) from fun w' hw => by
        have hW := hb.out.trans (hw.mono hb.out.size)
        exact ⟨⟨(World.cell?_of_block (hW.block g1 hg1)).trans p0, (World.cell?_of_block (hW.block g1 hg1)).trans p1⟩, (World.cell?_of_block (hW.block g2 hg2)).trans q0, (World.cell?_of_block (hW.block g2 hg2)).trans q1⟩)
      have hj0 : (0 : Int) ≤ (j : Int) := by omega
      have hj1 : (j : Int) < (n : Int) := by omega
      have HLT := ShO.mk hlt
      clear k1 k2 p0 p1 q0 q1 ha hbb hg1 hg2
      go_wp2
      go_region_held3 (fun w' => (w'.cell? ⟨g1, j * 2, none⟩ = some (.int .i64 a) ∧ w'.cell? ⟨g1, j * 2 + 1, none⟩ = some (.int .i64 b)) ∧ w'.cell? ⟨g2, j * 2, none⟩ = some (.int .i64 a) ∧ w'.cell? ⟨g2, j * 2 + 1, none⟩ = some (.int .i64 b))
        (with_reducible exact HK.out _ (by first | assumption | exact (Below.refl _ _).drew))
        (first | (go_at_call 74; with_reducible refine (callsB (w0 := wr) (by first | assumption | exact (Below.refl _ _).drew) (eqSquare_same a b _)).mono ?_; rintro e w3 ⟨rfl, hb3⟩))
      all_goals
        have HB3 := ShO.mk (hb.out.trans (hb3.mono hb.out.size))
        clear HK hb hb3
        go_wp2
        go_roundw
        case rel => exact ⟨j + 1, HLT.out, by go_num, HB3⟩
        case measure => simp [intOf]; have := HLT.out; omega
    · obtain rfl : j = n := by omega
      go_wp2
      go_ret
      exact ⟨rfl, hb.out⟩
/-- The first j squares of a row bear the marks. -/
def MarkQ (w : World) (g n j : Nat) : Prop := ∃ cur, Blk w g 104 cur ∧ n * 2 ≤ cur.size ∧ ∀ i, i < j → cur[i * 2]? = some (.int .i64 ((1 + i * 2 : Nat) : Int)) ∧ cur[i * 2 + 1]? = some (.int .i64 ((2 + i * 2 : Nat) : Int))
theorem MarkQ.kept {w w' : World} {g n j : Nat} (h : MarkQ w g n j) (hb : Below w.heap.size w w') : MarkQ w' g n j := by
  obtain ⟨cur, h1, h2⟩ := h
  exact ⟨cur, h1.kept hb h1.lt, h2⟩
theorem MarkQ.more {w : World} {g n j : Nat} (h : MarkQ w g n j) (hj : j < n) :
    MarkQ ((w.setCell ⟨g, j * 2, none⟩ (.int .i64 ((1 + j * 2 : Nat) : Int))).setCell ⟨g, j * 2 + 1, none⟩ (.int .i64 ((2 + j * 2 : Nat) : Int))) g n (j + 1) := by
  obtain ⟨cur, h1, h2, h3⟩ := h
  refine ⟨_, (h1.stored _ _).stored _ _, by simpa using h2, fun i hi => ?_⟩
  simp only [Array.getElem?_setIfInBounds, Array.size_setIfInBounds]
  by_cases e : i = j
  · subst e
    rw [if_neg (by omega), if_pos rfl, if_pos (by omega), if_pos rfl, if_pos (by omega)]
    exact ⟨rfl, rfl⟩
  · rw [if_neg (by omega), if_neg (by omega), if_neg (by omega), if_neg (by omega)]
    exact h3 i (by omega)
theorem OwnQ.mark {B : Nat} {w : World} {a : Option Addr} {n cap : Nat} {ls : List Sq} (h : OwnQ B w (.slice a n cap) ls) (hn : 0 < n) : ∃ g, a = some ⟨g, 0, none⟩ ∧ B ≤ g ∧ g < w.heap.size ∧ MarkQ w g n 0 := by
  have hl : n = ls.length := by obtain ⟨_, _, e, -⟩ := h.form; injection e
  rcases h.2 with ⟨e, h0⟩ | ⟨g, cap', cur, e, hB, hg, hc, hm, hs, ht⟩
  · injection e with _ e2
    omega
  · injection e with e1 e2 e3
    subst e1
    exact ⟨g, rfl, hB, (Array.getElem?_eq_some_iff.1 hg).1, cur, hg, by rw [hs]; omega, fun i hi => absurd hi (by omega)⟩
set_option maxRecDepth 100000 in
set_option maxHeartbeats 4000000 in
theorem markSquareS_any {B n cap : Nat} {a : Option Addr} (W : World) (hl : n ≤ 1000) (hm : 0 < n → ∃ g, a = some ⟨g, 0, none⟩ ∧ B ≤ g ∧ g < W.heap.size ∧ MarkQ W g n 0) :
    Calls Tryd.prog 34 #[.slice a n cap, .int .i64 1] W fun e w' => e = .returned (.int .i64 ((1 + n * 2 : Nat) : Int)) ∧ (0 < n → ∃ g, a = some ⟨g, 0, none⟩ ∧ B ≤ g ∧ g < W.heap.size ∧ MarkQ w' g n n) ∧ Below B W w' := by
  have HM := ShO.mk hm
  clear hm
  go_enter Tryd.func34, Tryd.ntmps34
  go_wp2
  go_loopw [1, 5] (fun m i wr => ∃ (j : Nat), j ≤ n ∧ i = .int .i64 (j : Int) ∧ m = .int .i64 ((1 + j * 2 : Nat) : Int) ∧ ShO (0 < n → ∃ g, a = some ⟨g, 0, none⟩ ∧ B ≤ g ∧ g < W.heap.size ∧ MarkQ wr g n j) ∧ ShO (Below B W wr)) (fun _ i _ => n - (intOf i).toNat)
  case atStart => exact ⟨0, Nat.zero_le _, rfl, rfl, HM, ⟨Below.refl _ _⟩⟩
  case round =>
    obtain ⟨j, hj, rfl, rfl, hq, hb⟩ := hrel
    by_cases hlt : j < n
    · obtain ⟨g, rfl, hB, hg, hM⟩ := hq.out (by omega)
      have HNX := ShO.mk (hM.more hlt)
      obtain ⟨cur, x1, x2, -⟩ := hM
      have k0 : wr.cell? ⟨g, j * 2, none⟩ = some cur[j * 2] := (x1.cells _).trans (Array.getElem?_eq_getElem (by omega))
      have m0 := x1.marks
      have y1 := x1.stored (j * 2) (.int .i64 ((1 + j * 2 : Nat) : Int))
      obtain ⟨p, hp⟩ : ∃ p, ((1 + j * 2 : Nat) : Int) = p := ⟨_, rfl⟩
      have hp2 : IntKind.i64.wrap (p + 1) = ((2 + j * 2 : Nat) : Int) := by rw [← hp, show ((1 + j * 2 : Nat) : Int) + 1 = ((2 + j * 2 : Nat) : Int) by omega]; exact IntWalk.i64_in _ (by omega)
      obtain ⟨q, hq2⟩ : ∃ q, ((2 + j * 2 : Nat) : Int) = q := ⟨_, rfl⟩
      have hq3 : IntKind.i64.wrap (q + 1) = ((1 + (j + 1) * 2 : Nat) : Int) := by rw [← hq2, show ((2 + j * 2 : Nat) : Int) + 1 = ((1 + (j + 1) * 2 : Nat) : Int) by omega]; exact IntWalk.i64_in _ (by omega)
      obtain ⟨r, hr2⟩ : ∃ r, ((1 + (j + 1) * 2 : Nat) : Int) = r := ⟨_, rfl⟩
      rw [hp, hq2] at HNX
      rw [hp] at y1
      rw [hq2] at hp2
      rw [hr2] at hq3
      obtain ⟨w1, hw1⟩ : ∃ w1, wr.setCell ⟨g, j * 2, none⟩ (.int .i64 p) = w1 := ⟨_, rfl⟩
      rw [hw1] at y1 HNX
      have k1 : w1.cell? ⟨g, j * 2 + 1, none⟩ = some cur[j * 2 + 1] := by
        rw [y1.cells, Array.getElem?_setIfInBounds, if_neg (by omega)]
        exact Array.getElem?_eq_getElem (by omega)
      have m1 := y1.marks
      have HB1 := ShO.mk (show Below B W w1 by rw [← hw1]; exact hb.out.setCell (p := ⟨g, j * 2, none⟩) hB _)
      have HB2 := ShO.mk (HB1.out.setCell (p := ⟨g, j * 2 + 1, none⟩) hB (.int .i64 q))
      have hj0 : (0 : Int) ≤ (j : Int) := by omega
      have hj1 : (j : Int) < (n : Int) := by omega
      have HLT := ShO.mk hlt
      have HGG := ShO.mk (And.intro hB hg)
      rw [hp]
      obtain ⟨z0, hz0⟩ : ∃ z, cur[j * 2] = z := ⟨_, rfl⟩
      obtain ⟨z1, hz1⟩ : ∃ z, cur[j * 2 + 1] = z := ⟨_, rfl⟩
      rw [hz0] at k0
      rw [hz1] at k1
      clear x1 x2 y1 hz0 hz1 hp hq2 hq hb
      go_wp2
      go_roundw
      case rel => exact ⟨j + 1, HLT.out, by go_num, by rw [hr2], ⟨fun _ => ⟨g, rfl, HGG.out.1, HGG.out.2, HNX.out⟩⟩, HB2⟩
      case measure => simp [intOf]; have := HLT.out; omega
    · obtain rfl : j = n := by omega
      go_wp2
      go_ret
      exact ⟨rfl, hq.out, hb.out⟩
set_option maxRecDepth 100000 in
set_option maxHeartbeats 4000000 in
theorem heldSquareS_any {n cap : Nat} {a : Option Addr} (W : World) (hl : n ≤ 1000) (hm : 0 < n → ∃ g, a = some ⟨g, 0, none⟩ ∧ MarkQ W g n n) :
    Calls Tryd.prog 35 #[.slice a n cap, .int .i64 1] W fun e w' => e = .returned (.int .i64 ((1 + n * 2 : Nat) : Int)) ∧ W = w' := by
  have HM := ShO.mk hm
  clear hm
  go_enter Tryd.func35, Tryd.ntmps35
  go_wp2
  go_loopw [1, 5] (fun m i wr => ∃ (j : Nat), j ≤ n ∧ i = .int .i64 (j : Int) ∧ m = .int .i64 ((1 + j * 2 : Nat) : Int) ∧ W = wr) (fun _ i _ => n - (intOf i).toNat)
  case atStart => exact ⟨0, Nat.zero_le _, rfl, rfl, rfl⟩
  case round =>
    obtain ⟨j, hj, rfl, rfl, rfl⟩ := hrel
    by_cases hlt : j < n
    · obtain ⟨g, rfl, cur, x1, x2, x3⟩ := HM.out (by omega)
      obtain ⟨e0, e1⟩ := x3 j hlt
      have k0 := (x1.cells (j * 2)).trans e0
      have k1 := (x1.cells (j * 2 + 1)).trans e1
      obtain ⟨p, hp⟩ : ∃ p, ((1 + j * 2 : Nat) : Int) = p := ⟨_, rfl⟩
      have hp2 : IntKind.i64.wrap (p + 1) = ((2 + j * 2 : Nat) : Int) := by rw [← hp, show ((1 + j * 2 : Nat) : Int) + 1 = ((2 + j * 2 : Nat) : Int) by omega]; exact IntWalk.i64_in _ (by omega)
      obtain ⟨q, hq2⟩ : ∃ q, ((2 + j * 2 : Nat) : Int) = q := ⟨_, rfl⟩
      have hq3 : IntKind.i64.wrap (q + 1) = ((1 + (j + 1) * 2 : Nat) : Int) := by rw [← hq2, show ((2 + j * 2 : Nat) : Int) + 1 = ((1 + (j + 1) * 2 : Nat) : Int) by omega]; exact IntWalk.i64_in _ (by omega)
      obtain ⟨r, hr2⟩ : ∃ r, ((1 + (j + 1) * 2 : Nat) : Int) = r := ⟨_, rfl⟩
      rw [hp] at k0
      rw [hq2] at k1 hp2
      rw [hr2] at hq3
      rw [hp]
      have s0 : (p != p) = false := by simp
      have s1 : (q != q) = false := by simp
      have hj0 : (0 : Int) ≤ (j : Int) := by omega
      have hj1 : (j : Int) < (n : Int) := by omega
      have HLT := ShO.mk hlt
      clear x1 x2 x3 e0 e1 hp hq2
      go_wp2
      go_roundw
      case rel => exact ⟨j + 1, HLT.out, by go_num, by rw [hr2], trivial⟩
      case measure => simp [intOf]; have := HLT.out; omega
    · obtain rfl : j = n := by omega
      go_wp2
      go_ret
      exact ⟨rfl, rfl⟩
theorem callsQ {P : Program} {f : FuncId} {args : Array Value} {code : Int} {ls : List Sq} {w0 W : World} (hb : Below w0.heap.size w0 W)
    (h : Calls P f args W fun e w' => ∃ v, e = .returned (.tuple #[v, .int .i64 code]) ∧ OwnQ W.heap.size w' v ls ∧ Below W.heap.size W w') : Calls P f args W fun e w' => ∃ v, e = .returned (.tuple #[v, .int .i64 code]) ∧ OwnQ w0.heap.size w' v ls ∧ Below w0.heap.size w0 w' :=
  h.mono fun _ _ ⟨v, h1, h2, h3⟩ => ⟨v, h1, h2.lowerN hb.size, hb.trans (h3.mono hb.size)⟩
theorem newOut_len (n : Int) (p c : ByteArray) (r k : Int) (d : Bool) (s : ByteArray) : (newOut n p c r k d s).1.length ≤ 1000 := by
  cases hok : okPl n p c r k d s
  · rw [newOut_no hok]
    exact Nat.zero_le _
  · obtain ⟨N, A, B, f, rfl, h5, h15, hp, hc, hz⟩ := okPl_fits hok
    rw [newOut_yes hz]
    show (newL d A B _).length ≤ 1000
    rw [newL_len]
    have h1 := frL_len f (A * N + B) s.size
    have h2 := hz.hn
    omega
end Go.Proofs.YtmkdbahdhobdjaaDoor
