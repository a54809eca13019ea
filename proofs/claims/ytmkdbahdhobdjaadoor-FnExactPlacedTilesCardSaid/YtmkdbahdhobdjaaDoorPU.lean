/-
  Placements: the tiles that a play places: the program's tiles, PlacedTiles of both sides.
-/
import Derived.Test.YtmkdbahdhobdjaaDoorPT
import Derived.Test.YtmkdbahdhobdjaaDoorCZ
import Derived.Test.YtmkdbahdhobdjaaDoorBG
namespace Go.Proofs.YtmkdbahdhobdjaaDoor
open Go.RowKit Go.Joins Go.Deep Go.Maps

theorem litU8_injP {a b : Int} (h : (DataW.lit (.int .u8 a) : DataW Unit) = .lit (.int .u8 b)) : a = b := by
  injection h with h
  injection h
theorem zeroU8P (w : World) : (zeroValue 5).run Tryd.prog w = .ok (.int .u8 0) w := by kernel_rfl
theorem plc_let {s : ByteArray} {fr : List Nat} (h : allLet s.data.toList = true) (hm : ∀ i ∈ fr, i < s.size) : allLet (plcL s fr) = true := by
  unfold allLet at h ⊢
  rw [List.all_eq_true] at h ⊢
  intro x hx
  unfold plcL at hx
  obtain ⟨i, hi, rfl⟩ := List.mem_map.1 hx
  refine h _ ?_
  rw [atB_get (hm i hi)]
  exact Array.mem_toList_iff.2 (Array.getElem_mem _)
theorem plc_placed {s : ByteArray} {fr : List Nat} (h : allLet s.data.toList = true) (hm : ∀ i ∈ fr, i < s.size) (h0 : 0 < fr.length) (h12 : fr.length ≤ 12) : placedL (plcL s fr) = true := by
  unfold placedL
  rw [plc_let h hm]
  have hl : (plcL s fr).length = fr.length := by unfold plcL; rw [List.length_map]
  rw [hl, decide_eq_true (by omega : 1 ≤ fr.length), decide_eq_true h12]
  rfl
/-- What PlacedTiles answers. -/
def placedOut (n : Int) (p c : ByteArray) (r k : Int) (d : Bool) (s : ByteArray) : ByteArray × Int :=
  if okPl n p c r k d s = true then (txt (sortL ((plcL s (frL (flS d n.toNat c) ((flR d r k).toNat * n.toNat + (flC d r k).toNat) s.size)).map tileU)), 0) else (⟨#[]⟩, 1)
abbrev stRes (o : ByteArray × Int) : Value := .tuple #[.string o.1, .int .i64 o.2]
theorem placedOut_no {n : Int} {p c s : ByteArray} {r k : Int} {d : Bool} (h : okPl n p c r k d s = false) : placedOut n p c r k d s = (⟨#[]⟩, 1) := by
  unfold placedOut
  rw [if_neg (by rw [h]; decide)]
theorem placedOut_yes {N A B : Nat} {p c s f : ByteArray} {r k : Int} {d : Bool} (h : Fits N p c r k d s A B f) : placedOut (N : Int) p c r k d s = (txt (sortL ((plcL s (frL f (A * N + B) s.size)).map tileU)), 0) := by
  unfold placedOut
  rw [if_pos h.okP, h.r_is, h.k_is, flR_flR, flC_flC, h.f_is]
  simp
set_option maxRecDepth 100000 in
set_option maxHeartbeats 4000000 in
theorem specPlacedTiles_any (n : Int) (p c s : ByteArray) (r k : Int) (d : Bool) (W : World) (hs : s.size ≤ 1048576) :
    Calls Tryd.prog 36 #[.agg #[.int .i64 n, .string p, .string c], .agg #[.int .i64 r, .int .i64 k, .bool d, .string s]] W fun e w' => e = .returned (stRes (placedOut n p c r k d s)) ∧ Below W.heap.size W w' := by
  have b0 := below_two (W := W) (.cells #[.int .i64 n, .string p, .string c] 27) (.cells #[.int .i64 r, .int .i64 k, .bool d, .string s] 44)
  have g0 := (Blk.made W 27 #[.int .i64 n, .string p, .string c]).alloc (.cells #[.int .i64 r, .int .i64 k, .bool d, .string s] 44)
  have q0 := Blk.made (W.alloc (.cells #[.int .i64 n, .string p, .string c] 27)) 44 #[.int .i64 r, .int .i64 k, .bool d, .string s]
  simp only [World.size_alloc] at q0
  have B0 := ShO.mk b0
  have G0 := ShO.mk g0
  have Q0 := ShO.mk q0
  clear b0 g0 q0
  go_enter Tryd.func36, Tryd.ntmps36
  go_wp2_with fail
  refine (l12Ok_any r k d s _ hs G0.out).mono ?_
  rintro e w1 ⟨rfl, hb1⟩
  have B1 := ShO.mk (B0.out.trans (hb1.mono B0.out.size))
  have g1 := G0.out.kept hb1 G0.out.lt
  have q1 := Q0.out.kept hb1 Q0.out.lt
  have c1 := q1.cells
  clear hb1
  cases hok : okPl n p c r k d s
  · have HR := ShO.mk (placedOut_no hok)
    clear hok g1 q1
    go_wp2
    refine bodyPost_ret (v := .tuple #[.string ⟨#[]⟩, .int .i64 1]) (by simp [results, Tryd.results36, go_sem]) rfl ?_
    rw [HR.out]
    exact ⟨rfl, B1.out⟩
  · obtain ⟨N, A, B, f, rfl, h5, h15, hp, hc, hz⟩ := okPl_fits hok
    have HR := ShO.mk (placedOut_yes hz)
    have e1 : flR d r k = (A : Int) := by rw [hz.r_is, hz.k_is, flR_flR]
    have e2 : flC d r k = (B : Int) := by rw [hz.r_is, hz.k_is, flC_flC]
    have HFL := ShO.mk (fun w hg => l12Flat_any (g := W.heap.size) r k d s w h15 hp hc hg)
    rw [e1, e2, ← hz.f_is] at HFL
    obtain ⟨P', hP'⟩ : ∃ P', flS d N p = P' := ⟨_, rfl⟩
    rw [hP'] at HFL
    have hf := (lay_ok hz hc rfl).2
    have HPL := ShO.mk (fun g w hg => l12Placed_any (g := g) (P' := P') w h5 h15 hf hz.hA hz.hn hz.some hg)
    obtain ⟨hs2, hs12, hlet⟩ := long_size hz.word
    have hmem : ∀ i ∈ frL f (A * N + B) s.size, i < s.size := fun i hi => (frL_mem.1 hi).1
    have hln := frL_len f (A * N + B) s.size
    obtain ⟨fr, hfr⟩ : ∃ fr, frL f (A * N + B) s.size = fr := ⟨_, rfl⟩
    rw [hfr] at HR HPL hmem hln
    have hsz : (⟨(plcL s fr).toArray⟩ : ByteArray).size ≤ 12 := by
      show (plcL s fr).toArray.size ≤ 12
      rw [List.size_toArray]
      unfold plcL
      rw [List.length_map]
      omega
    have HTI := ShO.mk (fun w => l03Tiles_any (Y := sortL ((plcL s fr).map tileU)) (⟨(plcL s fr).toArray⟩ : ByteArray) w hsz (by rw [List.toList_toArray]; exact plc_let hlet hmem) (by rw [List.toList_toArray]))
    obtain ⟨Y, hY⟩ : ∃ Y, sortL ((plcL s fr).map tileU) = Y := ⟨_, rfl⟩
    rw [hY] at HR HTI
    obtain ⟨L, hL⟩ : ∃ L : ByteArray, (⟨(plcL s fr).toArray⟩ : ByteArray) = L := ⟨_, rfl⟩
    rw [hL] at HPL HTI
    have G1 := ShO.mk g1
    clear hok hz h5 h15 hp hc g1 q1 e1 e2 hP' hf hs2 hs12 hlet hmem hln hfr hsz hY hL
    go_wp2_with fail
    refine (HFL.out _ G1.out).mono ?_
    rintro e w2 ⟨rfl, hb2⟩
    have b2 := B1.out.trans (hb2.mono B1.out.size)
    have b3 := (b2.alloc b2.size (.cells #[.int .i64 (N : Int), .string P', .string f] 27)).alloc (by have := b2.size; simp; omega) (.cells #[.int .i64 (A : Int), .int .i64 (B : Int), .bool false, .string s] 44)
    have g3 := (Blk.made w2 27 #[.int .i64 (N : Int), .string P', .string f]).alloc (.cells #[.int .i64 (A : Int), .int .i64 (B : Int), .bool false, .string s] 44)
    have q3 := Blk.made (w2.alloc (.cells #[.int .i64 (N : Int), .string P', .string f] 27)) 44 #[.int .i64 (A : Int), .int .i64 (B : Int), .bool false, .string s]
    rw [World.size_alloc] at q3
    obtain ⟨w3, hw3⟩ : ∃ w3, (w2.alloc (.cells #[.int .i64 (N : Int), .string P', .string f] 27)).alloc (.cells #[.int .i64 (A : Int), .int .i64 (B : Int), .bool false, .string s] 44) = w3 := ⟨_, rfl⟩
    rw [hw3] at b3 g3 q3
    have B3 := ShO.mk b3
    have G3 := ShO.mk g3
    have c3 := q3.cells
    clear b2 b3 g3 q3 hb2 c1
    go_wp2_with fail
    (try rw [hw3])
    clear hw3
    refine (HPL.out _ _ G3.out).mono ?_
    rintro e w4 ⟨rfl, hb4⟩
    have B4 := ShO.mk (B3.out.trans (hb4.mono B3.out.size))
    clear hb4 c3
    go_wp2_with fail
    refine (HTI.out _).mono ?_
    rintro e w5 ⟨rfl, hb5⟩
    go_wp2
    refine bodyPost_ret (v := .tuple #[.string (txt Y), .int .i64 0]) (by simp [results, Tryd.results36, go_sem]) rfl ?_
    rw [HR.out]
    exact ⟨rfl, B4.out.trans (hb5.mono B4.out.size)⟩

/-! ### The program's tiles -/
set_option maxRecDepth 100000 in
set_option maxHeartbeats 4000000 in
theorem tiles_any {d : Bool} {A B gm : Nat} {fr : List Nat} {s p c : ByteArray} {D : DataW Unit} {r k n : Int} {av : Option Addr} {an ac : Nat} (W : World) (hT : Tabs W) (hM : LetM W gm d A B s fr D) (hq : OwnQ 0 W (.slice av an ac) (newL d A B fr)) (hok : ∀ i ∈ fr, SqOk (sqOf d A B i)) (hln : fr.length ≤ 12) :
    Calls Tryd.prog 76 #[.agg #[.int .i64 r, .int .i64 k, .bool d, .string s, .int .i64 n, .string p, .string c, .slice av an ac, .map (some gm)]] W fun e w' => e = .returned (.string (txt (tilesOut (plcL s fr)))) ∧ Below W.heap.size W w' := by
  obtain ⟨a', cap', he, -, -, hcell⟩ := hq.form
  rw [newL_len] at he
  injection he with h1 h2 h3
  subst h1 h2 h3
  have x0 := (Blk.made W 96 #[.int .i64 r, .int .i64 k, .bool d, .string s, .int .i64 n, .string p, .string c, .slice av fr.length ac, .map (some gm)])
  have b0 : Below W.heap.size W (W.alloc (.cells #[.int .i64 r, .int .i64 k, .bool d, .string s, .int .i64 n, .string p, .string c, .slice av fr.length ac, .map (some gm)] 96)) := (Below.refl _ _).alloc (Nat.le_refl _) _
  have s0 : (W.alloc (.cells #[.int .i64 r, .int .i64 k, .bool d, .string s, .int .i64 n, .string p, .string c, .slice av fr.length ac, .map (some gm)] 96)).heap.size = W.heap.size + 1 := World.size_alloc _ _
  obtain ⟨w0, hw0⟩ : ∃ w0, W.alloc (.cells #[.int .i64 r, .int .i64 k, .bool d, .string s, .int .i64 n, .string p, .string c, .slice av fr.length ac, .map (some gm)] 96) = w0 := ⟨_, rfl⟩
  rw [hw0] at x0 b0 s0
  have hfb : IsB w0.heap.size w0.heap.size [] (w0.alloc (.cells #[.pointer none, .slice none 0 0] 81)) := Lib.fresh_isBuilder 81 5 w0
  have b1 := b0.alloc b0.size (.cells #[.pointer none, .slice none 0 0] 81)
  have x1 := x0.alloc (.cells #[.pointer none, .slice none 0 0] 81)
  have s1 : (w0.alloc (.cells #[.pointer none, .slice none 0 0] 81)).heap.size = W.heap.size + 1 + 1 := by rw [World.size_alloc, s0]
  rw [s0] at hfb
  obtain ⟨w1, hw1⟩ : ∃ w1, w0.alloc (.cells #[.pointer none, .slice none 0 0] 81) = w1 := ⟨_, rfl⟩
  rw [hw1] at hfb b1 x1 s1
  have HFB := ShO.mk hfb
  have HT := ShO.mk hT
  have B1 := ShO.mk b1
  have X1 := ShO.mk x1
  have HM := ShO.mk hM
  have HC := ShO.mk hcell
  have HOK := ShO.mk hok
  have S1 := ShO.mk s1
  have c1 := x1.cells
  clear hfb b0 b1 x0 x1 hT hM hq hcell hok
  go_enter Tryd.func76, Tryd.ntmps76
  go_wp2
  (try rw [hw0])
  (try rw [hw1])
  clear c1 s0 s1
  go_loopw [5, 9] (fun _ i wr => ∃ (j : Nat), j ≤ fr.length ∧ i = .int .i64 (j : Int) ∧ ShO (IsB (W.heap.size + 1) (W.heap.size + 1) (plcL s (fr.take j)) wr) ∧ ShO (Below (W.heap.size + 1) w1 wr)) (fun _ i _ => fr.length - (intOf i).toNat)
  case atStart => exact ⟨0, Nat.zero_le _, rfl, HFB, ⟨Below.refl _ _⟩⟩
  case round =>
    obtain ⟨j, hj, rfl, hI, hbw⟩ := hrel
    by_cases hlt : j < fr.length
    · obtain ⟨qg, rfl, -, hqg, hcc⟩ := HC.out (by rw [newL_len]; omega)
      obtain ⟨k0, k1⟩ := hcc j (by rw [newL_len]; exact hlt)
      rw [newL_at hlt] at k0 k1
      have hgd : fr.getD j 0 = fr[j] := by rw [List.getD_eq_getElem?_getD, List.getElem?_eq_getElem hlt]; rfl
      rw [hgd] at k0 k1
      have HTK := ShO.mk (plcL_take (s := s) hlt)
      obtain ⟨i, hi⟩ : ∃ i, fr[j] = i := ⟨_, rfl⟩
      have hmem : i ∈ fr := by rw [← hi]; exact List.getElem_mem hlt
      rw [hi] at k0 k1 HTK
      have hbW : Below W.heap.size W wr := B1.out.trans (hbw.out.mono (Nat.le_succ _))
      have hkey0 := sq_key W (HOK.out i hmem)
      have HAT := ShO.mk (HM.out.here i hmem).2
      unfold sqV at hkey0
      obtain ⟨a, ha⟩ : ∃ a, (sqOf d A B i).1 = a := ⟨_, rfl⟩
      obtain ⟨b, hb⟩ : ∃ b, (sqOf d A B i).2 = b := ⟨_, rfl⟩
      rw [ha] at k0 hkey0
      rw [hb] at k1 hkey0
      obtain ⟨kl, hkl⟩ : ∃ kl, kq (sqOf d A B i) = kl := ⟨_, rfl⟩
      rw [hkl] at hkey0 HAT
      obtain ⟨u, hu⟩ : ∃ u, atB s i = u := ⟨_, rfl⟩
      rw [hu] at HTK HAT
      have hkey : keyOf Tryd.prog 104 (.agg #[.int .i64 a, .int .i64 b]) = some kl := hkey0
      have e0 : wr.cell? ⟨qg, j * 2, none⟩ = some (.int .i64 a) := (World.cell?_of_block (hbW.block qg hqg)).trans k0
      have e1 : wr.cell? ⟨qg, j * 2 + 1, none⟩ = some (.int .i64 b) := (World.cell?_of_block (hbW.block qg hqg)).trans k1
      have hbx : Below (W.heap.size + 1) wr (wr.alloc (.cells #[.int .i64 a, .int .i64 b] 104)) := (Below.refl _ _).alloc (by have := hbw.out.size; rw [S1.out] at this; omega) _
      have hbn : Below wr.heap.size wr (wr.alloc (.cells #[.int .i64 a, .int .i64 b] 104)) := (Below.refl _ _).alloc (Nat.le_refl _) _
      have x2 := X1.out.kept (hbw.out.trans hbx) (Nat.lt_succ_self _)
      have q2 := (Blk.made wr 104 #[.int .i64 a, .int .i64 b]).cells
      have hown := (HM.out.below (hbW.trans (hbn.mono hbW.size))).own
      have hI2 := hI.out.kept hbn
      have hsz2 : W.heap.size + 1 ≤ (wr.alloc (.cells #[.int .i64 a, .int .i64 b] 104)).heap.size := by have := hbw.out.size; rw [S1.out] at this; simp; omega
      obtain ⟨w2, hw2⟩ : ∃ w2, wr.alloc (.cells #[.int .i64 a, .int .i64 b] 104) = w2 := ⟨_, rfl⟩
      rw [hw2] at hbx x2 q2 hown hI2 hsz2
      have c2 := x2.cells
      have HI2 := ShO.mk hI2
      have HB2 := ShO.mk (hbw.out.trans hbx)
      have HLL := ShO.mk (show (plcL s (fr.take j)).length ≤ 1000000 by unfold plcL; rw [List.length_map, List.length_take]; omega)
      have hj0 : (0 : Int) ≤ (j : Int) := by omega
      have hj1 : (j : Int) < (fr.length : Int) := by omega
      have HLT := ShO.mk hlt
      have HSZ := ShO.mk hsz2
      obtain ⟨L, hL⟩ : ∃ L, plcL s (fr.take j) = L := ⟨_, rfl⟩
      rw [hL] at HTK HI2 HLL
      clear k0 k1 hgd hi hmem hbW hkey0 ha hb hkl hu hbx hbn x2 hI2 hsz2 hL hcc hI hbw hqg
      go_wp2_with (first
        | (at_lookup; refine wpList_lookup_own_int _ rfl _ _ 94 rfl 104 5 .u8 sq_law Tryd.underlying94 Tryd.underlying5 (zeroU8P _) gm fr.length D rfl hown _ _ rfl hkey ?_; intro cc hat _; obtain rfl : cc = (u.toNat : Int) := litU8_injP (hat.symm.trans (HAT.out _)); clear hat)
        | (go_at_call 99; refine (writeByte_any (W.heap.size + 1) (W.heap.size + 1) L u _ HI2.out HLL.out HSZ.out).mono ?_; rintro e w3 ⟨rfl, hI3, hb3⟩))
      have HI3 := ShO.mk hI3
      have HB3 := ShO.mk (HB2.out.trans hb3)
      clear hI3 hb3 hown
      go_wp2
      go_roundw
      case rel => exact ⟨j + 1, HLT.out, by go_num, ⟨by rw [HTK.out]; exact HI3.out⟩, HB3⟩
      case measure => simp [intOf]; have := HLT.out; omega
    · obtain rfl : j = fr.length := by omega
      have hbW : Below W.heap.size W wr := B1.out.trans (hbw.out.mono (Nat.le_succ _))
      have hz : W.heap.size + 1 ≤ wr.heap.size := by have := hbw.out.size; rw [S1.out] at this; omega
      rw [List.take_length] at hI
      have HLL := ShO.mk (show (⟨(plcL s fr).toArray⟩ : ByteArray).size ≤ 1048576 by
        show (plcL s fr).toArray.size ≤ 1048576
        rw [List.size_toArray]
        unfold plcL
        rw [List.length_map]
        omega)
      have HBW := ShO.mk hbW
      have HI := ShO.mk hI.out
      have HZ := ShO.mk hz
      clear hI hbw hz hbW
      go_wp2_with (go_at_call 65; refine (Tryd.Builder_String_any (W.heap.size + 1) (W.heap.size + 1) (plcL s fr) _ HI.out HZ.out).mono ?_; rintro e w3 ⟨rfl, hb3⟩)
      have B3 := ShO.mk (HBW.out.trans (hb3.mono (Nat.le_succ _)))
      clear hb3
      refine (implTilesOfWord_any _ _ HLL.out (HT.out.on B3.out)).mono ?_
      rw [List.toList_toArray]
      rintro e w4 ⟨rfl, hb4⟩
      go_wp2
      go_ret
      exact ⟨rfl, B3.out.trans (hb4.mono B3.out.size)⟩
theorem OwnQ.lowerP {B : Nat} {w : World} {v : Value} {ls : List Sq} (h : OwnQ B w v ls) : OwnQ 0 w v ls := by
  refine ⟨h.1, ?_⟩
  rcases h.2 with h | ⟨g, cap, cur, h1, h2, r⟩
  · exact .inl h
  · exact .inr ⟨g, cap, cur, h1, Nat.zero_le _, r⟩
/-! ### PlacedTiles of the program -/
theorem tiles_none (W : World) (hT : Tabs W) :
    Calls Tryd.prog 76 #[.agg #[.int .i64 0, .int .i64 0, .bool false, .string ⟨#[]⟩, .int .i64 0, .string ⟨#[]⟩, .string ⟨#[]⟩, .slice none 0 0, .map none]] W fun e w' => e = .returned (.string ⟨#[]⟩) ∧ Below W.heap.size W w' := by
  have b0 : Below W.heap.size W (W.alloc (.cells #[.int .i64 0, .int .i64 0, .bool false, .string ⟨#[]⟩, .int .i64 0, .string ⟨#[]⟩, .string ⟨#[]⟩, .slice none 0 0, .map none] 96)) := (Below.refl _ _).alloc (Nat.le_refl _) _
  have x0 := (Blk.made W 96 #[.int .i64 0, .int .i64 0, .bool false, .string ⟨#[]⟩, .int .i64 0, .string ⟨#[]⟩, .string ⟨#[]⟩, .slice none 0 0, .map none])
  have s0 : (W.alloc (.cells #[.int .i64 0, .int .i64 0, .bool false, .string ⟨#[]⟩, .int .i64 0, .string ⟨#[]⟩, .string ⟨#[]⟩, .slice none 0 0, .map none] 96)).heap.size = W.heap.size + 1 := World.size_alloc _ _
  obtain ⟨w0, hw0⟩ : ∃ w0, W.alloc (.cells #[.int .i64 0, .int .i64 0, .bool false, .string ⟨#[]⟩, .int .i64 0, .string ⟨#[]⟩, .string ⟨#[]⟩, .slice none 0 0, .map none] 96) = w0 := ⟨_, rfl⟩
  rw [hw0] at x0 b0 s0
  have hfb : IsB w0.heap.size w0.heap.size [] (w0.alloc (.cells #[.pointer none, .slice none 0 0] 81)) := Lib.fresh_isBuilder 81 5 w0
  have b1 := b0.alloc b0.size (.cells #[.pointer none, .slice none 0 0] 81)
  have x1 := x0.alloc (.cells #[.pointer none, .slice none 0 0] 81)
  have z1 : W.heap.size + 1 ≤ (w0.alloc (.cells #[.pointer none, .slice none 0 0] 81)).heap.size := by rw [World.size_alloc, s0]; exact Nat.le_succ _
  rw [s0] at hfb
  obtain ⟨w1, hw1⟩ : ∃ w1, w0.alloc (.cells #[.pointer none, .slice none 0 0] 81) = w1 := ⟨_, rfl⟩
  rw [hw1] at hfb b1 x1 z1
  have HFB := ShO.mk hfb
  have HT := ShO.mk hT
  have B1 := ShO.mk b1
  have Z1 := ShO.mk z1
  have c1 := x1.cells
  clear hfb b0 b1 x0 x1 hT z1
  go_enter Tryd.func76, Tryd.ntmps76
  go_wp2
  (try rw [hw0])
  (try rw [hw1])
  clear c1 s0
  go_loopw [5, 9] (fun _ i wr => i = .int .i64 0 ∧ wr = w1) (fun _ _ _ => 0)
  case atStart => exact ⟨rfl, rfl⟩
  case round =>
    obtain ⟨rfl, rfl⟩ := hrel
    go_wp2_with (go_at_call 65; refine (Tryd.Builder_String_any (W.heap.size + 1) (W.heap.size + 1) [] _ HFB.out Z1.out).mono ?_; rintro e w3 ⟨rfl, hb3⟩)
    have B3 := ShO.mk (B1.out.trans (hb3.mono (Nat.le_succ _)))
    clear hb3
    refine (implTilesOfWord_any _ _ (Nat.zero_le _) (HT.out.on B3.out)).mono ?_
    rintro e w4 ⟨rfl, hb4⟩
    go_wp2
    go_ret
    exact ⟨by rw [tilesOut_no (by rfl)]; rfl, B3.out.trans (hb4.mono B3.out.size)⟩
set_option maxRecDepth 100000 in
set_option maxHeartbeats 4000000 in
theorem implPlacedTiles_any (n : Int) (p c s : ByteArray) (r k : Int) (d : Bool) (W : World) (hs : s.size ≤ 1048576) (hT : Tabs W) :
    Calls Tryd.prog 37 #[.agg #[.int .i64 n, .string p, .string c], .agg #[.int .i64 r, .int .i64 k, .bool d, .string s]] W fun e w' => e = .returned (stRes (placedOut n p c r k d s)) ∧ Below W.heap.size W w' := by
  have B0 := ShO.mk (below_placed (W := W) (n := n) (p := p) (c := c) (r := r) (k := k) (d := d) (s := s))
  have HT := ShO.mk hT
  clear hT
  go_enter Tryd.func37, Tryd.ntmps37
  go_wp2_with fail
  refine (placementOf_any n p c s r k d _ hs (HT.out.on B0.out)).mono ?_
  rintro e w1 ⟨X, code, rfl, h⟩
  have HI := ShO.mk h.info
  have B1 := ShO.mk (B0.out.trans (h.1.mono B0.out.size))
  obtain ⟨-, ⟨hok, rfl, rfl⟩ | ⟨N, A, B, f, v, gm, D, rfl, hz, rfl, rfl, hq, hM, -⟩⟩ := h
  · have HR := ShO.mk (placedOut_no hok)
    clear hok
    go_wp2_with (first
      | (refine wpList_load_row rfl 96 _ rfl w1.heap.size (by rfl) 96 noX (0, 0) _ (Blk.row (Blk.made _ _ _) _) Tryd.underlying96 rfl (plX_info _ _ _ _ _ _ _ _ _) ?_)
      | (refine wpList_store_row rfl 96 _ _ rfl w1.heap.size noX (by rfl) (by rfl) 96 _ (Blk.made _ _ _) HI.out.2.1 (by rw [HI.out.1]; rfl) HI.out.2.2 ?_))
    have b2 := below_row (B1.out.alloc B1.out.size (.cells #[.int .i64 0, .int .i64 0, .bool false, .string ⟨#[]⟩, .int .i64 0, .string ⟨#[]⟩, .string ⟨#[]⟩, .slice none 0 0, .map none] 96)) B1.out.size noX
    have B2 := ShO.mk b2
    clear b2
    refine (tiles_none _ (HT.out.on B2.out)).mono ?_
    rintro e w3 ⟨rfl, hb3⟩
    go_wp2
    refine bodyPost_ret (v := .tuple #[.string ⟨#[]⟩, .int .i64 1]) (by simp [results, Tryd.results37, go_sem]) rfl ?_
    rw [HR.out]
    exact ⟨rfl, B2.out.trans (hb3.mono B2.out.size)⟩
  · obtain ⟨va, vc, rfl, -⟩ := hq.form
    obtain ⟨N', hN, h5, h15, hp, hc⟩ := okBd_nat hz.ok
    obtain rfl : N' = N := by omega
    have HR := ShO.mk (placedOut_yes hz)
    obtain ⟨hs2, hs12, hlet⟩ := long_size hz.word
    have hmem : ∀ i ∈ frL f (A * N' + B) s.size, i < s.size := fun i hi => (frL_mem.1 hi).1
    have hln := frL_len f (A * N' + B) s.size
    have hpl := plc_placed hlet hmem (List.length_pos_iff.2 hz.some) (by omega)
    have HOK := ShO.mk (show ∀ i ∈ frL f (A * N' + B) s.size, SqOk (sqOf d A B i) from fun i hi => sqOf_ok (by have := hz.hA; omega) (by have := hmem i hi; have := hz.hn; omega))
    have HTO := ShO.mk (tilesOut_yes hpl)
    have HLN := ShO.mk (Nat.le_trans hln hs12)
    have HM := ShO.mk hM
    have HQ := ShO.mk hq
    clear hq hz h15 hc hp h5 hN hM hpl hs2 hs12 hlet hmem hln
    obtain ⟨nl, hnl⟩ : ∃ nl, (newL d A B (frL f (A * N' + B) s.size)).length = nl := ⟨_, rfl⟩
    rw [hnl] at HI HQ
    go_wp2_with (first
      | (refine wpList_load_row rfl 96 _ rfl w1.heap.size (by rfl) 96 (plX r k d s (N' : Int) p c (.slice va nl vc) (.map (some gm))) (0, 0) _ (Blk.row (Blk.made _ _ _) _) Tryd.underlying96 rfl (plX_info _ _ _ _ _ _ _ _ _) ?_)
      | (refine wpList_store_row rfl 96 _ _ rfl w1.heap.size (plX r k d s (N' : Int) p c (.slice va nl vc) (.map (some gm))) (by rfl) (by rfl) 96 _ (Blk.made _ _ _) HI.out.2.1 (by rw [HI.out.1]; rfl) HI.out.2.2 ?_))
    have hb2 : Below w1.heap.size w1 ((w1.alloc (.cells #[.int .i64 0, .int .i64 0, .bool false, .string ⟨#[]⟩, .int .i64 0, .string ⟨#[]⟩, .string ⟨#[]⟩, .slice none 0 0, .map none] 96)).setRow w1.heap.size (plX r k d s (N' : Int) p c (.slice va nl vc) (.map (some gm)))) := below_row ((Below.refl _ _).alloc (Nat.le_refl _) _) (Nat.le_refl _) _
    have B2 := ShO.mk (B1.out.trans (hb2.mono B1.out.size))
    refine (tiles_any _ (HT.out.on B2.out) (HM.out.below hb2) (OwnQ.lowerP (HQ.out.kept hb2)) HOK.out HLN.out).mono ?_
    rw [HTO.out]
    rintro e w3 ⟨rfl, hb3⟩
    have B3 := ShO.mk (B2.out.trans (hb3.mono B2.out.size))
    obtain ⟨Y, hY⟩ : ∃ Y, sortL ((plcL s (frL f (A * N' + B) s.size)).map tileU) = Y := ⟨_, rfl⟩
    rw [hY] at HR ⊢
    clear hb2 hb3 hY hnl HI HQ HM
    go_wp2
    refine bodyPost_ret (v := .tuple #[.string (txt Y), .int .i64 0]) (by simp [results, Tryd.results37, go_sem]) rfl ?_
    rw [HR.out]
    exact ⟨rfl, B3.out⟩
end Go.Proofs.YtmkdbahdhobdjaaDoor
