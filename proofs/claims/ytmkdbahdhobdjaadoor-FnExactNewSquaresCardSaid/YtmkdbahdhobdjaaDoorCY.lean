/-
  Placements: small functions of the program, directions, place, what is deferred, the frame of placementOf.
-/
import Derived.Test.YtmkdbahdhobdjaaDoorCX
import Derived.Test.YtmkdbahdhobdjaaDoorBF
import Derived.Test.YtmkdbahdhobdjaaDoorBI
import Derived.Test.YtmkdbahdhobdjaaDoorD5
import Derived.Test.YtmkdbahdhobdjaaDoorL0
import Derived.Test.YtmkdbahdhobdjaaDoorJ1
import Derived.Test.YtmkdbahdhobdjaaDoorRM
import Derived.Deep.AppendLies
import Derived.Defers
import Derived.Recover
import Derived.Tactics2
import Derived.Laws.Rows
namespace Go.Proofs.YtmkdbahdhobdjaaDoor
open Go.RowKit

theorem cellOn_any {N : Nat} (p c : ByteArray) (x : Sq) (W : World) (h5 : 5 ≤ N) (h15 : N ≤ 15) (hc : c.size = N * N) :
    Calls Tryd.prog 122 #[.agg #[.int .i64 (N : Int), .string p, .string c], .agg #[.int .i64 x.1, .int .i64 x.2]] W fun e w' => e = .returned (.int .u8 (seeC c N x.1 x.2)) ∧ Below W.heap.size W w' := by
  obtain ⟨a, b⟩ := x
  have HB0 := ShO.mk (below_two (W := W) (.cells #[.int .i64 (N : Int), .string p, .string c] 27) (.cells #[.int .i64 a, .int .i64 b] 104))
  have HZ := ShO.mk (show sizB (N : Int) = true from sizB_iff.2 ⟨by omega, by omega⟩)
  have HC := ShO.mk (show (c.size : Int) = (N : Int) * (N : Int) by rw [hc, Int.natCast_mul])
  clear hc
  go_enter Tryd.func122, Tryd.ntmps122
  go_wp2_with fail
  refine (at_any c N p c a b _ HZ.out HC.out).mono ?_
  rintro e w1 ⟨rfl, hb1⟩
  go_wp2
  go_ret
  exact ⟨rfl, HB0.out.trans (hb1.mono HB0.out.size)⟩
theorem see_full {N : Nat} {p c : ByteArray} (hok : okBd (N : Int) p c = true) (a b : Int) : ltrI (seeC c N a b) = fullB N c a b := by
  unfold fullB
  cases hi : inBd (N : Int) a b
  · rw [seeC_no hi]; rfl
  · rw [seeC_yes hi]
    obtain ⟨⟨h0, h1⟩, h2, h3⟩ := inBd_iff.1 hi
    obtain ⟨A, rfl⟩ := Int.eq_ofNat_of_zero_le h0
    obtain ⟨B, rfl⟩ := Int.eq_ofNat_of_zero_le h2
    have hA : A < N := by omega
    have hB : B < N := by omega
    have hlt : A * N + B < c.size := by
      obtain ⟨M, hM, -, -, -, hc⟩ := okBd_nat hok
      have : N = M := by omega
      rw [hc, ← this]; exact row_lt hA hB
    have hv := (okBd_iff.1 hok).cell
    have hk : cellI ((atB c (A * N + B)).toNat : Int) = true := by
      rw [atB_get hlt]
      have := List.all_eq_true.1 hv (c[A * N + B]) (by rw [Array.mem_toList_iff]; exact Array.getElem_mem _)
      exact this
    rw [nat_at]
    obtain ⟨u, hu⟩ : ∃ u, atB c (A * N + B) = u := ⟨_, rfl⟩
    rw [hu] at hk ⊢
    cases hd : (u == 46)
    · unfold cellI at hk
      rw [Bool.or_eq_true, decide_eq_true_eq] at hk
      rcases hk with hk | hk
      · rw [beq_eq_false_iff_ne] at hd
        exact absurd (UInt8.toNat_inj.1 (by show u.toNat = 46; omega)) hd
      · rw [hk]; rfl
    · rw [beq_iff_eq] at hd
      subst hd; rfl
theorem hasLetterOn_any {N : Nat} {p c : ByteArray} {v : Bool} (x : Sq) (W : World) (hok : okBd (N : Int) p c = true) (hv : fullB N c x.1 x.2 = v) :
    Calls Tryd.prog 124 #[.agg #[.int .i64 (N : Int), .string p, .string c], .agg #[.int .i64 x.1, .int .i64 x.2]] W fun e w' => e = .returned (.bool v) ∧ Below W.heap.size W w' := by
  obtain ⟨M, hM, h5, h15, -, hc⟩ := okBd_nat hok
  obtain rfl : N = M := by omega
  have HB0 := ShO.mk (below_two (W := W) (.cells #[.int .i64 (N : Int), .string p, .string c] 27) (.cells #[.int .i64 x.1, .int .i64 x.2] 104))
  have HS := ShO.mk ((see_full hok x.1 x.2).trans hv)
  have hr : 0 ≤ seeC c N x.1 x.2 ∧ seeC c N x.1 x.2 ≤ 255 := by
    unfold seeC
    split
    · have := (atB c (x.1 * N + x.2).toNat).toNat_lt; omega
    · omega
  have hw : IntKind.i32.wrap (seeC c N x.1 x.2) = seeC c N x.1 x.2 := IntWalk.i32_in _ (by omega)
  have HC := ShO.mk hc
  have H5 := ShO.mk h5
  have H15 := ShO.mk h15
  have HQ := ShO.mk (fun W => cellOn_any (N := N) p c x W H5.out H15.out HC.out)
  obtain ⟨y, hy⟩ : ∃ y, seeC c N x.1 x.2 = y := ⟨_, rfl⟩
  rw [hy] at HS HQ hw hr
  clear hc h5 h15 hM hy hv hok
  obtain ⟨a, b⟩ := x
  go_enter Tryd.func124, Tryd.ntmps124
  go_wp2_with fail
  refine (HQ.out _).mono ?_
  rintro e w1 ⟨rfl, hb1⟩
  have HB1 := ShO.mk (HB0.out.trans (hb1.mono HB0.out.size))
  clear hb1
  go_wp2_with fail
  refine (isLetter_any y _).mono ?_
  rintro e w2 ⟨rfl, rfl⟩
  go_wp2
  go_ret
  exact ⟨ret_bool HS.out, HB1.out⟩

/-! Steps and directions. -/
def dirV (d : Bool) : Value := if d = true then .iface 166 (.agg #[]) else .iface 167 (.agg #[])
theorem stepR_any {z : Int} (x : Sq) (n : Int) (W : World) (hz : IntKind.i64.wrap (x.2 + n) = z) :
    Calls Tryd.prog 225 #[.agg #[], .agg #[.int .i64 x.1, .int .i64 x.2], .int .i64 n] W fun e w' => e = .returned (.agg #[.int .i64 x.1, .int .i64 z]) ∧ Below W.heap.size W w' := by
  obtain ⟨a, b⟩ := x
  have hz' : IntKind.i64.wrap (b + n) = z := hz
  clear hz
  go_enter Tryd.func225, Tryd.ntmps225
  go_wp2
  have p1 := Blk.made ((W.alloc (.cells #[] 167)).alloc (.cells #[.int .i64 a, .int .i64 b] 104)) 104 #[.int .i64 a, .int .i64 z]
  simp only [World.size_alloc] at p1
  have c1 := p1.cells
  refine bodyPost_ret (v := .agg #[.int .i64 a, .int .i64 z]) (by simp [results, Tryd.results225, go_sem, c1]) rfl ?_
  exact ⟨rfl, (((Below.refl _ _).alloc (Nat.le_refl _) _).alloc (by simp) _).alloc (by simp; omega) _⟩
theorem stepD_any {z : Int} (x : Sq) (n : Int) (W : World) (hz : IntKind.i64.wrap (x.1 + n) = z) :
    Calls Tryd.prog 223 #[.agg #[], .agg #[.int .i64 x.1, .int .i64 x.2], .int .i64 n] W fun e w' => e = .returned (.agg #[.int .i64 z, .int .i64 x.2]) ∧ Below W.heap.size W w' := by
  obtain ⟨a, b⟩ := x
  have hz' : IntKind.i64.wrap (a + n) = z := hz
  clear hz
  go_enter Tryd.func223, Tryd.ntmps223
  go_wp2
  have p1 := Blk.made ((W.alloc (.cells #[] 166)).alloc (.cells #[.int .i64 a, .int .i64 b] 104)) 104 #[.int .i64 z, .int .i64 b]
  simp only [World.size_alloc] at p1
  have c1 := p1.cells
  refine bodyPost_ret (v := .agg #[.int .i64 z, .int .i64 b]) (by simp [results, Tryd.results223, go_sem, c1]) rfl ?_
  exact ⟨rfl, (((Below.refl _ _).alloc (Nat.le_refl _) _).alloc (by simp) _).alloc (by simp; omega) _⟩
theorem direction_any (r k : Int) (d : Bool) (s : ByteArray) (W : World) :
    Calls Tryd.prog 121 #[.agg #[.int .i64 r, .int .i64 k, .bool d, .string s]] W fun e w' => e = .returned (dirV d) ∧ Below W.heap.size W w' := by
  have HB0 : Below W.heap.size W (W.alloc (.cells #[.int .i64 r, .int .i64 k, .bool d, .string s] 44)) := (Below.refl _ _).alloc (Nat.le_refl _) _
  cases d
  · go_enter Tryd.func121, Tryd.ntmps121
    go_wp2
    go_ret
    exact ⟨rfl, HB0⟩
  · go_enter Tryd.func121, Tryd.ntmps121
    go_wp2
    go_ret
    exact ⟨rfl, HB0⟩
theorem acrossR_any (W : World) : Calls Tryd.prog 224 #[.agg #[]] W fun e w' => e = .returned (dirV true) ∧ Below W.heap.size W w' := by
  go_enter Tryd.func224, Tryd.ntmps224
  go_wp2
  go_ret
  exact ⟨rfl, (Below.refl _ _).alloc (Nat.le_refl _) _⟩
theorem acrossD_any (W : World) : Calls Tryd.prog 222 #[.agg #[]] W fun e w' => e = .returned (dirV false) ∧ Below W.heap.size W w' := by
  go_enter Tryd.func222, Tryd.ntmps222
  go_wp2
  go_ret
  exact ⟨rfl, (Below.refl _ _).alloc (Nat.le_refl _) _⟩

/-! Words that may be placed. -/
theorem longP_is (s : ByteArray) : longB (txt (Lib.mapD smallF s.data.toList)) = longP s := by
  have h1 := word_placed s.data.toList
  unfold longP longB
  rw [show (txt (Lib.mapD smallF s.data.toList)).data.toList = Lib.mapD smallF s.data.toList from txt_list _, h1]
  cases hp : placedL s.data.toList
  · rw [Bool.and_false, Bool.false_and]
  · rw [Bool.and_true, Bool.true_and, txt_size, mapD_low smallF smallF_range _ (let_low (placed_let hp)), List.length_map, list_size]
theorem isLongPlaced_any (s : ByteArray) (w : World) (hs : s.size ≤ 1048576) (hT : Tabs w) :
    Calls Tryd.prog 120 #[.string s] w fun e w' => e = .returned (.bool (longP s)) ∧ Below w.heap.size w w' := by
  have HR := ShO.mk (longP_is s)
  have HL := ShO.mk (show (txt (Lib.mapD smallF s.data.toList)).size ≤ maxLen by
    rw [txt_size]
    have := map_len s.data.toList.length smallF s.data.toList (Nat.le_refl _)
    rw [list_size] at this
    unfold maxLen; omega)
  have HM := ShO.mk (map_small_any s w hs hT)
  clear hT
  go_enter Tryd.func120, Tryd.ntmps120
  go_wp2_with fail
  refine HM.out.mono ?_
  rintro e w1 ⟨rfl, hb1⟩
  have HB1 := ShO.mk hb1
  clear hb1
  go_wp2_with fail
  refine (longI HR.out _ HL.out).mono ?_
  rintro e w2 ⟨rfl, hb2⟩
  go_wp2
  go_ret
  exact ⟨rfl, HB1.out.trans (hb2.mono HB1.out.size)⟩
end Go.Proofs.YtmkdbahdhobdjaaDoor

namespace Go.Proofs.YtmkdbahdhobdjaaDoor
open Go.RowKit Go.Maps

theorem info_sq : (Tryd.prog.info? 104).map (fun i => (i.zero, i.size, i.bytes)) = some (some (.agg #[.int .i64 0, .int .i64 0]), 2, 16) := by kernel_rfl
theorem ownQ_apart {B : Nat} {w w' : World} {v : Value} {ls : List Sq} {S : Nat → Prop} (h : OwnQ B w v ls) (hk : Apart S w w') (hv : ∀ k, v.ownBlock = some k → ¬ S k) : OwnQ B w' v ls := by
  refine ⟨h.1, ?_⟩
  rcases h.2 with h | ⟨g', cap, cur, rfl, hg1, hg, r⟩
  · exact .inl h
  · exact .inr ⟨g', cap, cur, rfl, hg1, (hk.block g' (Array.getElem?_eq_some_iff.1 hg).1 (hv g' rfl)).trans hg, r⟩
theorem LetM.apart {w w' : World} {g : Nat} {d : Bool} {A B : Nat} {s : ByteArray} {fr : List Nat} {D : DataW Unit} {S : Nat → Prop} (h : LetM w g d A B s fr D) (hk : Apart S w w') (hg : ¬ S g) : LetM w' g d A B s fr D := by
  refine ⟨?_, h.has, h.here⟩
  obtain ⟨es, clock, hm, r⟩ := h.own
  exact ⟨es, clock, (hk.block g (Array.getElem?_eq_some_iff.1 hm).1 hg).trans hm, r⟩
theorem ownQ_lt {B : Nat} {w : World} {v : Value} {ls : List Sq} (h : OwnQ B w v ls) : ∀ k, v.ownBlock = some k → B ≤ k ∧ k < w.heap.size := World.ownsRow.lt h
/-- A square more on a row of the call's own, as a step of a region that draws. -/
theorem step_append_sq {ops : Array Oper} {o : Oper} {a : Act} {K : Act → World → Prop} {Q : Exit → Act → World → Prop} {E : Prop} {B H : Nat} {W : World} (hgd : o.guard = none) (s x : Operand)
    (ho : o.op = .call { callee := .builtin .append, args := #[s, x], argTypes := #[47, 47] })
    (v : Value) (ls : List Sq) (c : Sq) (hs : a.eval s = v) (hx : a.eval x = .slice (some ⟨H, 0, none⟩) 1 1) (hc : Blk W H 104 #[.int .i64 c.1, .int .i64 c.2])
    (hown : OwnQ B W v ls) (hlen : ls.length ≤ 1000) (hB : B ≤ W.heap.size)
    (h : ∀ g cap w', OwnQ B w' (.slice (some ⟨g, 0, none⟩) (ls.length + 1) cap) (ls ++ [c]) → Apart (fun b => v.ownBlock = some b) W w' → (v.ownBlock = some g ∨ W.heap.size ≤ g) → K (a.put o.dst (.slice (some ⟨g, 0, none⟩) (ls.length + 1) cap)) w') :
    if Region.wanted o (yielded ops a.tmps) = true then Oper.wp Tryd.prog o a W K Q else E := by
  obtain ⟨i0, hi, hz0, hz1, hz2⟩ := info_parts info_sq
  refine step_append_lies _ hgd s x 47 ho B 104 i0 (.agg #[.int .i64 0, .int .i64 0]) 2 16 Tryd.underlying47 hi hz0 hz1 hz2 rfl (by decide) v ls.length (sqCells ls) hs hown ⟨H, 0, none⟩ 1 1 [.int .i64 c.1, .int .i64 c.2] hx rfl (World.news_of_block hc) ?_ (by decide) ?_ ?_ hB _ rfl ?_
  · intro u hu
    simp at hu
    rcases hu with rfl | rfl <;> rfl
  · simp [maxLen]; omega
  · omega
  · intro g cap w' ho' hg hl _
    refine h g cap w' ?_ ((Apart.refl _ W).grown hg (fun _ hk _ => hk)) (hl.imp id fun e => by omega)
    unfold OwnQ
    rw [List.length_append, sqCells_app]
    exact ho'
/-- The cells of a placement. -/
def plX (r k : Int) (d : Bool) (s : ByteArray) (n : Int) (p c : ByteArray) (v : Value) (m : Value) : Array Value := #[.int .i64 r, .int .i64 k, .bool d, .string s, .int .i64 n, .string p, .string c, v, m]
theorem plX_set (r k : Int) (d : Bool) (s : ByteArray) (n : Int) (p c : ByteArray) (v v' m : Value) : (plX r k d s n p c v m).setIfInBounds 7 v' = plX r k d s n p c v' m := rfl
/-- What may change while a play is placed: the placement, its map, and new memory. -/
def Chg (B gx gm : Nat) (i : Nat) : Prop := i = gx ∨ i = gm ∨ B ≤ i
set_option maxRecDepth 100000 in
set_option maxHeartbeats 4000000 in
theorem place_any {gx gm B : Nat} {r k : Int} {d e : Bool} {s p c : ByteArray} {n : Int} {v : Value} {ls : List Sq} {A C i : Nat} {fr : List Nat} {D : DataW Unit} {u : ByteArray} (w : World)
    (hx : Blk w gx 96 (plX r k d s n p c v (.map (some gm)))) (ho : OwnQ B w v ls) (hls : ls.length ≤ 20) (hm : LetM w gm e A C u fr D)
    (hA : A ≤ 100) (hC : ∀ j ∈ i :: fr, C + j ≤ 100) (hi : i ∉ fr) (hf : fr.length ≤ 20) (hB : B ≤ w.heap.size) (hgx : gx < B) (hgm : gm < B) (hne : gm ≠ gx) :
    Calls Tryd.prog 123 #[.pointer (some ⟨gx, 0, none⟩), .agg #[.int .i64 (sqOf e A C i).1, .int .i64 (sqOf e A C i).2], .int .u8 ((atB u i).toNat : Int)] w fun e' w' =>
      e' = .returned (.tuple #[]) ∧ ∃ v', Blk w' gx 96 (plX r k d s n p c v' (.map (some gm))) ∧ OwnQ B w' v' (ls ++ [sqOf e A C i]) ∧ (∃ D', LetM w' gm e A C u (fr ++ [i]) D') ∧ Apart (Chg B gx gm) w w' := by
  have hok := sqOf_ok (d := e) hA (hC i (by simp))
  obtain ⟨x, hxx⟩ : ∃ x, sqOf e A C i = x := ⟨_, rfl⟩
  have HXX := ShO.mk hxx
  rw [hxx] at hok ⊢
  have HKEY := ShO.mk (sq_key w hok)
  obtain ⟨x0, x1⟩ := x
  -- the box of the square
  have X1 := ShO.mk (hx.alloc (.cells #[.int .i64 x0, .int .i64 x1] 104))
  have O1 := ShO.mk (ownQ_apart ho (Apart.alloc (Apart.refl (fun _ => False) w) (.cells #[.int .i64 x0, .int .i64 x1] 104)) (fun _ _ h => h))
  have M1 := ShO.mk (hm.kept (World.grownBy_alloc w (.cells #[.int .i64 x0, .int .i64 x1] 104) none) (by simp))
  have Q1 := ShO.mk (Blk.made w 104 #[.int .i64 x0, .int .i64 x1])
  have A1 := ShO.mk (Apart.alloc (Apart.refl (Chg B gx gm) w) (.cells #[.int .i64 x0, .int .i64 x1] 104))
  have HS1 : (w.alloc (.cells #[.int .i64 x0, .int .i64 x1] 104)).heap.size = w.heap.size + 1 := World.size_alloc _ _
  obtain ⟨w1, hw1⟩ : ∃ w1, w.alloc (.cells #[.int .i64 x0, .int .i64 x1] 104) = w1 := ⟨_, rfl⟩
  rw [hw1] at X1 O1 M1 Q1 A1 HS1
  have HSZ1 := ShO.mk HS1
  have HB := ShO.mk hB
  have HGX := ShO.mk hgx
  have HGM := ShO.mk hgm
  have HNE := ShO.mk hne
  have HLS := ShO.mk hls
  have HI := ShO.mk (⟨hA, hC, hi, hf⟩ : A ≤ 100 ∧ (∀ j ∈ i :: fr, C + j ≤ 100) ∧ i ∉ fr ∧ fr.length ≤ 20)
  have HMM := ShO.mk hm
  have HOL := ShO.mk (ownQ_lt ho)
  have K1 := ShO.mk (fun wx (hb : Below w1.heap.size w1 wx) => (⟨(X1.out.kept hb X1.out.lt).cells 7, (Q1.out.kept hb Q1.out.lt).cells 0, (Q1.out.kept hb Q1.out.lt).cells 1⟩ : wx.cell? ⟨gx, 7, none⟩ = some v ∧ wx.cell? ⟨w.heap.size, 0, none⟩ = some (.int .i64 x0) ∧ wx.cell? ⟨w.heap.size, 1, none⟩ = some (.int .i64 x1)))
  obtain ⟨av, cv, rfl, -⟩ := ho.form
  clear hx ho hm hok hxx HS1 hB hgx hgm hne hls hA hC hi hf
  go_enter Tryd.func123, Tryd.ntmps123
  go_wp2
  (try rw [hw1])
  clear hw1
  refine wp_region_M 8 (fun wx => wx.cell? ⟨gx, 7, none⟩ = some (.slice av ls.length cv) ∧ wx.cell? ⟨w.heap.size, 0, none⟩ = some (.int .i64 x0) ∧ wx.cell? ⟨w.heap.size, 1, none⟩ = some (.int .i64 x1)) (by kernel_rfl) (K1.out _ (Below.refl _ _).drew) (fun hHeld => ?_)
  refine wpAnyM_take (i := 0) (oi := _) (v := ?v0) rfl (by kernel_rfl) (fun _ _ _ h => h) (Or.inl ⟨by rfl, ?y0⟩) (by assumption) ?r0
  case y0 => (intro wS hSw; obtain ⟨hs0, hs1, hs2⟩ := hSw; go_simp; try with_reducible rfl)
  simp only [Act.put]
  refine wpAnyM_take (i := 1) (oi := _) (v := ?v1) rfl (by kernel_rfl) (fun _ _ _ h => h) (Or.inl ⟨by rfl, ?y1⟩) (by assumption) ?r1
  case y1 => (intro wS hSw; obtain ⟨hs0, hs1, hs2⟩ := hSw; go_simp; try with_reducible rfl)
  simp only [Act.put]
  refine wpAnyM_take (i := 2) (oi := _) (v := ?v2) rfl (by kernel_rfl) (fun _ _ _ h => h) (Or.inl ⟨by rfl, ?y2⟩) (by assumption) ?r2
  case y2 => (intro wS hSw; obtain ⟨hs0, hs1, hs2⟩ := hSw; go_simp; try with_reducible rfl)
  simp only [Act.put]
  refine wpAnyM_take (i := 3) (oi := _) (v := ?v3) rfl (by kernel_rfl) (fun _ _ _ h => h) (Or.inl ⟨by rfl, ?y3⟩) (by assumption) ?r3
  case y3 => (intro wS hSw; obtain ⟨hs0, hs1, hs2⟩ := hSw; go_simp; try with_reducible rfl)
  simp only [Act.put]
  refine wpAnyM_take (i := 4) (oi := _) (v := ?v4) rfl (by kernel_rfl) (fun _ _ _ h => h) (Or.inl ⟨by rfl, ?y4⟩) (by assumption) ?r4
  case y4 => (intro wS hSw; obtain ⟨hs0, hs1, hs2⟩ := hSw; go_simp; try with_reducible rfl)
  simp only [Act.put]
  refine wpAnyM_take (i := 5) (oi := _) (v := ?v5) rfl (by kernel_rfl) (fun _ _ _ h => h) (Or.inl ⟨by rfl, ?y5⟩) (by assumption) ?r5
  case y5 => (intro wS hSw; obtain ⟨hs0, hs1, hs2⟩ := hSw; go_simp; try with_reducible rfl)
  simp only [Act.put]
  refine wpAnyM_one (i := 6) (o := _) (by kernel_rfl) rfl (fun K hK => ?_)
  go_simp
  refine hK.out _ _ (fun _ => K1.out _ ((Below.refl _ _).alloc (Nat.le_refl _) _).drew) (fun hHeld2 => ?_)
  (try simp only [Act.put])
  clear hHeld K hK
  refine wpAnyM_one (i := 7) (o := _) (by kernel_rfl) rfl (fun K hK => ?_)
  refine step_append_sq (B := B) (H := w1.heap.size) (by rfl) _ _ (by rfl) (.slice av ls.length cv) ls (x0, x1) (by rfl) (by rfl) (Blk.made w1 104 #[.int .i64 x0, .int .i64 x1]).drew (ownQ_apart O1.out (Apart.drew (Apart.alloc (Apart.refl (fun _ => False) w1) (.cells #[.int .i64 x0, .int .i64 x1] 104))) (fun _ _ h => h)) (by have := HLS.out; omega) (by have h1 := HSZ1.out; have h2 := HB.out; simp [World.drew]; omega) ?_
  intro g7 c7 w7 ho7 hk7 hl7
  have hfar : ∀ b, b < B → ¬ (Value.slice av ls.length cv).ownBlock = some b := fun b hb e => by have := (ownQ_lt O1.out b e).1; omega
  have hk8 := (Apart.drew (Apart.alloc (Apart.refl (fun b => (Value.slice av ls.length cv).ownBlock = some b) w1) (.cells #[.int .i64 x0, .int .i64 x1] 104))).trans hk7 (fun _ _ h => h)
  have X7 := ShO.mk (X1.out.apart hk8 (hfar gx HGX.out))
  have Q7 := ShO.mk (Q1.out.apart hk8 (fun e => by have := (HOL.out _ e).2; omega))
  have M7 := ShO.mk (M1.out.apart hk8 (hfar gm HGM.out))
  have O7 := ShO.mk ho7
  have A7 := ShO.mk (A1.out.trans hk8 (fun j hj e => Or.inr (Or.inr (ownQ_lt O1.out j e).1)))
  have n7 := X7.out.cells 7
  have m7 := X7.out.marks 7
  have K7 := ShO.mk (show w7.cell? ⟨gx, 7, none⟩ = some (.slice av ls.length cv) ∧ w7.cell? ⟨w.heap.size, 0, none⟩ = some (.int .i64 x0) ∧ w7.cell? ⟨w.heap.size, 1, none⟩ = some (.int .i64 x1) from ⟨n7, Q7.out.cells 0, Q7.out.cells 1⟩)
  clear ho7 hk7 hk8 hfar
  refine hK.out _ _ (fun _ => K7.out) (fun _ => ?_)
  (try simp only [Act.put])
  clear hHeld2 K hK
  refine wpAnyM_one (i := 8) (o := _) (by kernel_rfl) rfl (fun K hK => ?_)
  go_simp
  refine hK.out _ _ (fun h => absurd h (by decide)) (fun _ => ?_)
  (try simp only [Act.put])
  clear K hK
  refine wpAnyM_one (i := 9) (o := _) (by kernel_rfl) rfl (fun K hK => ?_)
  go_simp
  refine hK.out _ _ (fun h => absurd h (by decide)) (fun _ => ?_)
  (try simp only [Act.put])
  clear K hK
  refine wpAnyM_one (i := 10) (o := _) (by kernel_rfl) rfl (fun K hK => ?_)
  go_simp
  refine hK.out _ _ (fun h => absurd h (by decide)) (fun _ => ?_)
  refine wpAnyM_done (by kernel_rfl) ?_ _
  (try simp only [Act.put])
  clear K hK
  have X8 := ShO.mk (show Blk (w7.setCell ⟨gx, 7, none⟩ (.slice (some ⟨g7, 0, none⟩) (ls.length + 1) c7)) gx 96 (plX r k d s n p c (.slice (some ⟨g7, 0, none⟩) (ls.length + 1) c7) (.map (some gm))) from plX_set r k d s n p c _ (.slice (some ⟨g7, 0, none⟩) (ls.length + 1) c7) (.map (some gm)) ▸ X7.out.stored 7 (.slice (some ⟨g7, 0, none⟩) (ls.length + 1) c7))
  have AS := ShO.mk (Apart.setCell (p := ⟨gx, 7, none⟩) (Apart.refl (fun b => b = gx) w7) (fun _ => rfl) (.slice (some ⟨g7, 0, none⟩) (ls.length + 1) c7))
  have Q8 := ShO.mk (Q7.out.apart AS.out (fun e => by have := HB.out; have := HGX.out; omega))
  have M8 := ShO.mk (M7.out.apart AS.out HNE.out)
  have O8 := ShO.mk (ownQ_apart O7.out AS.out (fun j hj e => by have := (ownQ_lt O7.out j hj).1; have := HGX.out; omega))
  have A8 := ShO.mk (A7.out.trans AS.out (fun j hj e => Or.inl e))
  obtain ⟨w8, hw8⟩ : ∃ w8, w7.setCell ⟨gx, 7, none⟩ (.slice (some ⟨g7, 0, none⟩) (ls.length + 1) c7) = w8 := ⟨_, rfl⟩
  rw [hw8] at X8 Q8 M8 O8 A8
  (try rw [hw8])
  have K8 := ShO.mk (fun wx (hb : Below w8.heap.size w8 wx) => (⟨(X8.out.kept hb X8.out.lt).cells 8, (Q8.out.kept hb Q8.out.lt).cells 0, (Q8.out.kept hb Q8.out.lt).cells 1⟩ : wx.cell? ⟨gx, 8, none⟩ = some (.map (some gm)) ∧ wx.cell? ⟨w.heap.size, 0, none⟩ = some (.int .i64 x0) ∧ wx.cell? ⟨w.heap.size, 1, none⟩ = some (.int .i64 x1)))
  have hmap := M8.out.own
  have hm8 : w8.drew.ownsMap Tryd.prog 104 (plainElem Tryd.prog 5) gm fr.length D := hmap
  obtain ⟨w9, hrun9, ho9, hg9⟩ := hm8.update sq_law Tryd.underlying94 (by have := HI.out.2.2.2; unfold maxLen; omega) (key := .agg #[.int .i64 x0, .int .i64 x1]) HKEY.out (val := .int .u8 ((atB u i).toNat : Int)) (plainElem_int (H := Unit) Tryd.underlying5 (by have := (atB u i).toNat_lt; simp [Lit.wf, IntKind.min, IntKind.max, IntKind.bits, IntKind.signed]; omega))
  have HO9 := ShO.mk ho9
  have HG9 := ShO.mk hg9
  obtain ⟨y, hy⟩ : ∃ y : Int, ((atB u i).toNat : Int) = y := ⟨_, rfl⟩
  have HY := ShO.mk hy
  rw [hy] at hrun9
  rw [hy]
  clear n7 m7 K7 X7 Q7 M7 A7 AS O7 hw8 hmap hm8 ho9 hg9 hy K1
  go_wp2_with fail
  refine wp_region_M 6 (fun wx => wx.cell? ⟨gx, 8, none⟩ = some (.map (some gm)) ∧ wx.cell? ⟨w.heap.size, 0, none⟩ = some (.int .i64 x0) ∧ wx.cell? ⟨w.heap.size, 1, none⟩ = some (.int .i64 x1)) (by kernel_rfl) (K8.out _ (Below.refl _ _).drew) (fun hHeld => ?_)
  refine wpAnyM_take (i := 0) (oi := _) (v := ?vb0) rfl (by kernel_rfl) (fun _ _ _ h => h) (Or.inl ⟨by rfl, ?yb0⟩) (by assumption) ?rb0
  case yb0 => (intro wS hSw; obtain ⟨hs0, hs1, hs2⟩ := hSw; go_simp; try with_reducible rfl)
  simp only [Act.put]
  refine wpAnyM_take (i := 1) (oi := _) (v := ?vb1) rfl (by kernel_rfl) (fun _ _ _ h => h) (Or.inl ⟨by rfl, ?yb1⟩) (by assumption) ?rb1
  case yb1 => (intro wS hSw; obtain ⟨hs0, hs1, hs2⟩ := hSw; go_simp; try with_reducible rfl)
  simp only [Act.put]
  refine wpAnyM_take (i := 2) (oi := _) (v := ?vb2) rfl (by kernel_rfl) (fun _ _ _ h => h) (Or.inl ⟨by rfl, ?yb2⟩) (by assumption) ?rb2
  case yb2 => (intro wS hSw; obtain ⟨hs0, hs1, hs2⟩ := hSw; go_simp; try with_reducible rfl)
  simp only [Act.put]
  refine wpAnyM_take (i := 3) (oi := _) (v := ?vb3) rfl (by kernel_rfl) (fun _ _ _ h => h) (Or.inl ⟨by rfl, ?yb3⟩) (by assumption) ?rb3
  case yb3 => (intro wS hSw; obtain ⟨hs0, hs1, hs2⟩ := hSw; go_simp; try with_reducible rfl)
  simp only [Act.put]
  refine wpAnyM_take (i := 4) (oi := _) (v := ?vb4) rfl (by kernel_rfl) (fun _ _ _ h => h) (Or.inl ⟨by rfl, ?yb4⟩) (by assumption) ?rb4
  case yb4 => (intro wS hSw; obtain ⟨hs0, hs1, hs2⟩ := hSw; go_simp; try with_reducible rfl)
  simp only [Act.put]
  refine wpAnyM_take (i := 5) (oi := _) (v := ?vb5) rfl (by kernel_rfl) (fun _ _ _ h => h) (Or.inl ⟨by rfl, ?yb5⟩) (by assumption) ?rb5
  case yb5 => (intro wS hSw; obtain ⟨hs0, hs1, hs2⟩ := hSw; go_simp; try with_reducible rfl)
  simp only [Act.put]
  refine wpAnyM_one (i := 6) (o := _) (by kernel_rfl) rfl (fun K hK => ?_)
  go_simp
  refine hK.out _ _ (fun h => absurd h (by decide)) (fun _ => ?_)
  refine wpAnyM_done (by kernel_rfl) ?_ _
  (try simp only [Act.put])
  clear K hK
  go_wp2
  go_end0
  have AG := (Apart.refl (fun b => b = gm) w8).drew.grown HG9.out (fun j hj _ => (Option.some.inj hj).symm)
  refine ⟨rfl, .slice (some ⟨g7, 0, none⟩) (ls.length + 1) c7, ?_, ?_, ⟨D.put (kq (x0, x1)) (.lit (.int .u8 ((atB u i).toNat : Int))), ?_⟩, ?_⟩
  · exact X8.out.apart AG (fun e => HNE.out e.symm)
  · exact ownQ_apart O8.out AG (fun j hj e => by have := (ownQ_lt O8.out j hj).1; have := HGM.out; omega)
  · have hM := M8.out.put (w' := w9) HI.out.1 HI.out.2.1 HI.out.2.2.1
    rw [HXX.out] at hM
    exact hM HO9.out
  · exact A8.out.trans AG (fun j hj e => Or.inr (Or.inl e))
end Go.Proofs.YtmkdbahdhobdjaaDoor

namespace Go.Proofs.YtmkdbahdhobdjaaDoor
open Go.RowKit

def noX : Array Value := plX 0 0 false ⟨#[]⟩ 0 ⟨#[]⟩ ⟨#[]⟩ (.slice none 0 0) (.map none)
theorem plX_info (r k : Int) (d : Bool) (s : ByteArray) (n : Int) (p c : ByteArray) (v m : Value) : (Tryd.prog.info? 96).map (·.size) = some (plX r k d s n p c v m).size := by
  show _ = some 9
  kernel_rfl
theorem plX_one {r k : Int} {d : Bool} {s : ByteArray} {n : Int} {p c : ByteArray} {v m : Value} (hv : v.oneCell' = true) (hm : m.oneCell' = true) : (plX r k d s n p c v m).all (·.oneCell') = true := by
  unfold plX
  simp [hv, hm]
  exact ⟨rfl, rfl, rfl, rfl, rfl, rfl, rfl⟩
theorem noX_one : noX.all (·.oneCell') = true := plX_one rfl rfl
/-- The deferred function, when no fault was found, and when one was. -/
theorem placed_idle (gc gx : Nat) (w : World) (u : FrameMode) (hc : w.cell? ⟨gc, 0, none⟩ = some (.int .i64 0)) :
    CallsD Tryd.prog 119 #[.pointer (some ⟨gc, 0, none⟩), .pointer (some ⟨gx, 0, none⟩)] u w fun e u' w' => u' = u ∧ (e = .returned (.tuple #[]) ∧ w' = w) := by
  go_enter_d Tryd.func119, Tryd.ntmps119
  go_wp2
  go_end0
  exact ⟨rfl, rfl⟩
theorem placed_clear {cs : Array Value} (gc gx : Nat) (w : World) (u : FrameMode) (hc : w.cell? ⟨gc, 0, none⟩ = some (.int .i64 1)) (hx : Blk w gx 96 cs) (hs : cs.size = 9) :
    CallsD Tryd.prog 119 #[.pointer (some ⟨gc, 0, none⟩), .pointer (some ⟨gx, 0, none⟩)] u w fun e u' w' => u' = u ∧ (e = .returned (.tuple #[]) ∧ w' = w.setRow gx noX) := by
  go_enter_d Tryd.func119, Tryd.ntmps119
  go_wp2_with (refine wpList_store_row rfl 96 _ _ rfl gx noX (by rfl) (by rfl) 96 cs hx (plX_info _ _ _ _ _ _ _ _ _) hs noX_one ?_)
  go_end0
  exact ⟨rfl, rfl⟩
/-- What the variables of a call hold: the board, the play, the placement, the code. -/
structure Boxes (w : World) (H : Nat) (n : Int) (p c : ByteArray) (r k : Int) (d : Bool) (s : ByteArray) (X : Array Value) (code : Int) : Prop where
  b : Blk w H 27 #[.int .i64 n, .string p, .string c]
  p : Blk w (H + 1) 44 #[.int .i64 r, .int .i64 k, .bool d, .string s]
  x : Blk w (H + 1 + 1) 96 X
  c : Blk w (H + 1 + 1 + 1) 2 #[.int .i64 code]
theorem Boxes.kept {w w' : World} {H : Nat} {n : Int} {p c : ByteArray} {r k : Int} {d : Bool} {s : ByteArray} {X : Array Value} {code : Int} (h : Boxes w H n p c r k d s X code) (hb : Below w.heap.size w w') : Boxes w' H n p c r k d s X code :=
  ⟨h.b.kept hb h.b.lt, h.p.kept hb h.p.lt, h.x.kept hb h.x.lt, h.c.kept hb h.c.lt⟩
theorem boxes_made (W : World) (n : Int) (p c : ByteArray) (r k : Int) (d : Bool) (s : ByteArray) (X : Array Value) :
    Boxes ((((W.alloc (.cells #[.int .i64 n, .string p, .string c] 27)).alloc (.cells #[.int .i64 r, .int .i64 k, .bool d, .string s] 44)).alloc (.cells X 96)).alloc (.cells #[.int .i64 0] 2)) W.heap.size n p c r k d s X 0 := by
  obtain ⟨w1, h1⟩ : ∃ w1, W.alloc (.cells #[.int .i64 n, .string p, .string c] 27) = w1 := ⟨_, rfl⟩
  have b1 := Blk.made W 27 #[.int .i64 n, .string p, .string c]
  have s1 : w1.heap.size = W.heap.size + 1 := by rw [← h1, World.size_alloc]
  rw [h1] at b1 ⊢
  have b2 := Blk.made w1 44 #[.int .i64 r, .int .i64 k, .bool d, .string s]
  rw [s1] at b2
  obtain ⟨w2, h2⟩ : ∃ w2, w1.alloc (.cells #[.int .i64 r, .int .i64 k, .bool d, .string s] 44) = w2 := ⟨_, rfl⟩
  have s2 : w2.heap.size = W.heap.size + 2 := by rw [← h2, World.size_alloc, s1]
  rw [h2] at b2 ⊢
  have b3 := Blk.made w2 96 X
  rw [s2] at b3
  obtain ⟨w3, h3⟩ : ∃ w3, w2.alloc (.cells X 96) = w3 := ⟨_, rfl⟩
  have s3 : w3.heap.size = W.heap.size + 3 := by rw [← h3, World.size_alloc, s2]
  have b4 := Blk.made w3 2 #[.int .i64 0]
  rw [s3] at b4
  have c1 : Blk w2 W.heap.size 27 #[.int .i64 n, .string p, .string c] := by rw [← h2]; exact b1.alloc _
  have c1' : Blk w3 W.heap.size 27 #[.int .i64 n, .string p, .string c] := by rw [← h3]; exact c1.alloc _
  have c2' : Blk w3 (W.heap.size + 1) 44 #[.int .i64 r, .int .i64 k, .bool d, .string s] := by rw [← h3]; exact b2.alloc _
  rw [h3] at b3 ⊢
  exact ⟨c1'.alloc _, c2'.alloc _, b3.alloc _, b4⟩
theorem below_four {W : World} (o1 o2 o3 o4 : Obj) : Below W.heap.size W ((((W.alloc o1).alloc o2).alloc o3).alloc o4) :=
  ((((Below.refl _ _).alloc (Nat.le_refl _) _).alloc (by simp) _).alloc (by simp; omega) _).alloc (by simp; omega) _
theorem results_placed {tmps : Array Value} {w : World} {gx gc : Nat} {X : Array Value} {code : Int} (h4 : tmps.getD 4 undef = .pointer (some ⟨gx, 0, none⟩)) (h5 : tmps.getD 5 undef = .pointer (some ⟨gc, 0, none⟩)) (hx : Blk w gx 96 X) (hs : (Tryd.prog.info? 96).map (·.size) = some X.size) (hc : w.cell? ⟨gc, 0, none⟩ = some (.int .i64 code)) :
    (results Tryd.f71 tmps).run Tryd.prog w = .ok (.tuple #[.agg X, .int .i64 code]) w := by
  have hl := run_loadVar_row (P := Tryd.prog) w gx 96 96 X (0, 0) _ hx Tryd.underlying96 rfl hs
  have h4' : tmps[4]?.getD undef = .pointer (some ⟨gx, 0, none⟩) := by simpa using h4
  have h5' : tmps[5]?.getD undef = .pointer (some ⟨gc, 0, none⟩) := by simpa using h5
  simp [results, Tryd.results71, h4', h5', asAddr, hl]
  simp [go_sem, hc]
set_option maxRecDepth 100000 in
set_option maxHeartbeats 4000000 in
theorem placementOf_word {n : Int} {p c s : ByteArray} {r k : Int} {d : Bool} (W : World) (hs : s.size ≤ 1048576) (hT : Tabs W) (hok : okBd n p c = true) (hw : longP s = false) :
    Calls Tryd.prog 71 #[.agg #[.int .i64 n, .string p, .string c], .agg #[.int .i64 r, .int .i64 k, .bool d, .string s]] W fun e w' => e = .returned (.tuple #[.agg noX, .int .i64 1]) ∧ Below W.heap.size W w' := by
  have hmf : ∀ (fn : Fn) (first cap : Array Value) (w : World), (Instr.makeFunc fn first cap).run Tryd.prog w = .ok (.func fn first cap) w := fun _ _ _ _ => rfl
  have bx := boxes_made W n p c r k d s #[.int .i64 0, .int .i64 0, .bool false, .string ⟨#[]⟩, .int .i64 0, .string ⟨#[]⟩, .string ⟨#[]⟩, .slice none 0 0, .map none]
  have b0 := below_four (W := W) (.cells #[.int .i64 n, .string p, .string c] 27) (.cells #[.int .i64 r, .int .i64 k, .bool d, .string s] 44) (.cells #[.int .i64 0, .int .i64 0, .bool false, .string ⟨#[]⟩, .int .i64 0, .string ⟨#[]⟩, .string ⟨#[]⟩, .slice none 0 0, .map none] 96) (.cells #[.int .i64 0] 2)
  obtain ⟨w0, hw0⟩ : ∃ w0, ((((W.alloc (.cells #[.int .i64 n, .string p, .string c] 27)).alloc (.cells #[.int .i64 r, .int .i64 k, .bool d, .string s] 44)).alloc (.cells #[.int .i64 0, .int .i64 0, .bool false, .string ⟨#[]⟩, .int .i64 0, .string ⟨#[]⟩, .string ⟨#[]⟩, .slice none 0 0, .map none] 96)).alloc (.cells #[.int .i64 0] 2)) = w0 := ⟨_, rfl⟩
  rw [hw0] at bx b0
  have BX := ShO.mk bx
  have B0 := ShO.mk b0
  have c0 := bx.b.cells
  have HT := ShO.mk hT
  have HOK := ShO.mk hok
  have HW := ShO.mk hw
  clear hok hw hT bx b0
  go_enter_defers Tryd.func71, Tryd.ntmps71
  go_wp2_with fail
  (try rw [hw0])
  clear hw0
  go_step3
  go_wp2_with fail
  refine (validO HOK.out _).mono ?_
  rintro e w1 ⟨rfl, hb1⟩
  have BX1 := ShO.mk (BX.out.kept hb1)
  have B1 := ShO.mk (B0.out.trans (hb1.mono B0.out.size))
  have c1 := BX1.out.p.cells
  clear hb1 c0
  go_wp2_with fail
  have HP := isLongPlaced_any s w1 hs (HT.out.on B1.out)
  rw [HW.out] at HP
  refine HP.mono ?_
  rintro e w2 ⟨rfl, hb2⟩
  have BX2 := ShO.mk (BX1.out.kept hb2)
  have B2 := ShO.mk (B1.out.trans (hb2.mono B1.out.size))
  clear hb2 c1 HP
  have m3 := (BX2.out.c.row_other (Nat.succ_ne_self _) noX).marks 0
  have e3 : (w2.setRow (W.heap.size + 1 + 1) noX).cell? ⟨W.heap.size + 1 + 1 + 1, 0, none⟩ = some (.int .i64 0) := (BX2.out.c.row_other (Nat.succ_ne_self _) noX).cells 0
  go_wp2_with (first
    | (refine wpList_load_row rfl 96 _ rfl (W.heap.size + 1 + 1) (by rfl) 96 noX (0, 0) _ BX2.out.x Tryd.underlying96 rfl (plX_info _ _ _ _ _ _ _ _ _) ?_)
    | (refine wpList_store_row rfl 96 _ _ rfl (W.heap.size + 1 + 1) noX (by rfl) (by rfl) 96 noX BX2.out.x (plX_info _ _ _ _ _ _ _ _ _) rfl noX_one ?_))
  rw [Exit.noGoto_ret]
  have X3 := ShO.mk ((BX2.out.x.row noX).other (p := ⟨W.heap.size + 1 + 1 + 1, 0, none⟩) (Nat.ne_of_lt (Nat.lt_succ_self _)) (.int .i64 1))
  have C3 := ShO.mk ((BX2.out.c.row_other (Nat.succ_ne_self _) noX).stored 0 (.int .i64 1))
  have B3 := ShO.mk ((below_row B2.out (show W.heap.size ≤ W.heap.size + 1 + 1 by omega) noX).setCell (p := ⟨W.heap.size + 1 + 1 + 1, 0, none⟩) (show W.heap.size ≤ W.heap.size + 1 + 1 + 1 by omega) (.int .i64 1))
  obtain ⟨w3, hw3⟩ : ∃ w3, (w2.setRow (W.heap.size + 1 + 1) noX).setCell ⟨W.heap.size + 1 + 1 + 1, 0, none⟩ (.int .i64 1) = w3 := ⟨_, rfl⟩
  rw [hw3] at X3 C3 B3 ⊢
  clear m3 e3 hw3
  refine leaves_cons (f := 119) (args := #[.pointer (some ⟨W.heap.size + 1 + 1 + 1, 0, none⟩), .pointer (some ⟨W.heap.size + 1 + 1, 0, none⟩)]) (by simp) (by simp [go_sem]) ?_
  refine (placed_clear (W.heap.size + 1 + 1 + 1) (W.heap.size + 1 + 1) w3 .returning (C3.out.cells 0) X3.out rfl).mono ?_
  rintro e u' w'' ⟨rfl, rfl, rfl⟩
  refine ⟨_, results_placed rfl rfl (X3.out.row noX) (plX_info _ _ _ _ _ _ _ _ _) ((C3.out.row_other (Nat.succ_ne_self _) noX).cells 0), rfl, below_row B3.out (show W.heap.size ≤ W.heap.size + 1 + 1 by omega) noX⟩
end Go.Proofs.YtmkdbahdhobdjaaDoor
