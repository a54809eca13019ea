/-
  Another cell on a square: SetCell of both sides.
-/
import Derived.Test.YtpeobloofofnlaaBE
import Derived.Laws.IdiomStrings
import Derived.Laws.Runes
import Derived.StillTailTactics
namespace Go.Proofs.Ytpeobloofofnlaa
open Go.RowKit

theorem setOut_no1 {n : Int} {p c : ByteArray} {r k : Int} {x : UInt8} (h : okBd n p c = false) : setOut n p c r k x = (noBd, 1) := by unfold setOut; rw [h]; rfl
theorem setOut_no2 {n : Int} {p c : ByteArray} {r k : Int} {x : UInt8} (h : okBd n p c = true) (h2 : inBd n r k = false) : setOut n p c r k x = (noBd, 2) := by unfold setOut; rw [h, h2]; rfl
theorem setOut_no3 {n : Int} {p c : ByteArray} {r k : Int} {x : UInt8} (h : okBd n p c = true) (h2 : inBd n r k = true) (h3 : cellI (x.toNat : Int) = false) : setOut n p c r k x = (noBd, 7) := by unfold setOut; rw [h, h2, h3]; rfl
theorem setOut_yes {n : Int} {p c : ByteArray} {r k : Int} {x : UInt8} (h : okBd n p c = true) (h2 : inBd n r k = true) (h3 : cellI (x.toNat : Int) = true) : setOut n p c r k x = ((n, p, setS c (r * n + k).toNat x), 0) := by unfold setOut; rw [h, h2, h3]; rfl
theorem u8_bounds {x : Int} (h : (Lit.int .u8 x).wf = true) : 0 ≤ x ∧ x ≤ 255 := by
  simp [Lit.wf, IntKind.min, IntKind.max, IntKind.bits, IntKind.signed] at h; omega
theorem u8_of {x : Int} (h0 : 0 ≤ x) (h1 : x ≤ 255) : ∃ u : UInt8, x = (u.toNat : Int) ∧ x.toNat.toUInt8 = u := by
  refine ⟨x.toNat.toUInt8, ?_, rfl⟩
  have : x.toNat.toUInt8.toNat = x.toNat := by simp [Nat.toUInt8]; omega
  rw [this]; omega
theorem setS_cut {c : ByteArray} {I : Nat} (h : I < c.size) (x : UInt8) : c.extract 0 I ++ ⟨#[x]⟩ ++ c.extract (I + 1) c.size = setS c I x := by
  apply Go.WideShapes.bytes_inj
  have hl : c.data.toList.length = c.size := by rw [Array.length_toList]; rfl
  simp only [setS]
  rw [ByteArray.data_append, ByteArray.data_append, Array.toList_append, Array.toList_append, Lib.extract_data, Lib.extract_data, List.set_eq_take_append_cons_drop, if_pos (by omega)]
  simp [List.take_of_length_le, hl]
/-- A row of bytes that a conversion has made, in block g: its first n cells hold l; what lies behind it is frozen. -/
def FrO (w : World) (g n : Nat) (l : List UInt8) : Prop :=
  ∃ cs : Array Value, w.heap[g]? = some (.cells cs 5 (cs.size, cs.size + 1)) ∧ l.length = n ∧ n ≤ cs.size ∧ ∀ (j : Nat) (c : UInt8), l[j]? = some c → cs[j]? = some (Value.int .u8 (c.toNat : Int))
theorem FrO.cell {w : World} {g n : Nat} {l : List UInt8} (h : FrO w g n l) {j : Nat} {c : UInt8} (hj : l[j]? = some c) : w.cell? ⟨g, j, none⟩ = some (.int .u8 (c.toNat : Int)) := by
  obtain ⟨cs, h1, _, _, h4⟩ := h
  rw [cell_of_row w g j cs _ _ h1]
  exact h4 j c hj
theorem FrO.mark {w : World} {g n : Nat} {l : List UInt8} (h : FrO w g n l) {j : Nat} (hj : j < n) : w.frozen? ⟨g, j, none⟩ = false := by
  obtain ⟨cs, h1, _, h3, _⟩ := h
  simp [World.frozen?, h1]
  omega
theorem FrO.store {w : World} {g n : Nat} {l : List UInt8} (h : FrO w g n l) {j : Nat} (hj : j < n) (c : UInt8) : FrO (w.setCell ⟨g, j, none⟩ (.int .u8 (c.toNat : Int))) g n (l.set j c) := by
  obtain ⟨cs, h1, h2, h3, h4⟩ := h
  refine ⟨cs.setIfInBounds j (.int .u8 (c.toNat : Int)), ?_, by rw [List.length_set]; exact h2, by simpa using h3, fun i x hx => ?_⟩
  · simp [World.setCell, Array.getElem?_modify, h1]
  · rw [List.getElem?_set] at hx
    rw [Array.getElem?_setIfInBounds]
    by_cases e : j = i
    · subst e
      rw [if_pos rfl, if_pos (by omega)] at hx
      rw [if_pos rfl, if_pos (by omega), ← Option.some.inj hx]
    · rw [if_neg e] at hx
      rw [if_neg e]
      exact h4 i x hx
theorem fro_made (w : World) (s : ByteArray) (cap : Nat) : FrO (w.drew.alloc (.cells (bytesRow s cap) 5 ((bytesRow s cap).size, (bytesRow s cap).size + 1))) w.heap.size s.size s.data.toList := by
  refine ⟨bytesRow s cap, ?_, by simp, ?_, fun j c hc => ?_⟩
  · exact heap_alloc_new w.drew _
  · have e1 : (bytesRow s cap).size = s.data.size + (cap - s.size) := by
      unfold bytesRow
      rw [Array.size_append, Array.size_map, Array.size_replicate]
    have e2 : s.size = s.data.size := rfl
    omega
  · have hj : j < s.data.size := by
      rcases Nat.lt_or_ge j s.data.size with h | h
      · exact h
      · rw [List.getElem?_eq_none (by simpa using h)] at hc; cases hc
    unfold bytesRow
    rw [Array.getElem?_append_left (by simpa using hj), Array.getElem?_map]
    rw [Array.getElem?_toList] at hc
    rw [hc]
    rfl
theorem conv_frO {w : World} {g n cap : Nat} {l : List UInt8} (h : FrO w g n l) : (convert 22 9 (.slice (some ⟨g, 0, none⟩) n cap)).run Try.prog w = .ok (.string ⟨l.toArray⟩) w := by
  have hl : l.length = n := h.choose_spec.2.1
  subst hl
  exact run_convert_bytes_back w 22 9 5 ⟨g, 0, none⟩ cap l Try.underlying22 Try.underlying5 Try.underlying9 (fun j hj => by
    have e : (⟨g, 0, none⟩ : Addr).add j = ⟨g, j, none⟩ := by unfold Addr.add; split <;> simp_all
    rw [e]
    exact h.cell (List.getElem?_eq_getElem hj))

theorem FrO.kept {w w' : World} {B g n : Nat} {l : List UInt8} (h : FrO w g n l) (hb : Below B w w') (hg : g < B) : FrO w' g n l := by
  obtain ⟨cs, h1, h2⟩ := h
  exact ⟨cs, (hb.block g hg).trans h1, h2⟩
set_option maxRecDepth 100000 in
set_option maxHeartbeats 4000000 in
theorem l11Set_any {g : Nat} {n r k : Int} {p c : ByteArray} (x : UInt8) (W : World) (hz : sizB n = true) (hi : inBd n r k = true) (hc : (c.size : Int) = n * n) (hg : Blk W g 25 #[.int .i64 n, .string p, .string c]) :
    Calls Try.prog 86 #[.pointer (some ⟨g, 0, none⟩), .int .i64 r, .int .i64 k, .int .u8 (x.toNat : Int)] W fun e w' => e = .returned (.agg #[.int .i64 n, .string p, .string (setS c (r * n + k).toNat x)]) ∧ Below W.heap.size W w' := by
  obtain ⟨I, h1, h2, h3, h4, h5, -⟩ := at_facts hz hi
  have hlt : I < c.size := by omega
  have HR := ShO.mk (show setS c (r * n + k).toNat x = setS c I x by rw [h3, Int.toNat_natCast])
  obtain ⟨Q, hQ⟩ : ∃ Q, r * n = Q := ⟨_, rfl⟩
  rw [hQ] at h1 h2
  have hgl := hg.lt
  have g0 : Blk (W.alloc (.cells #[.int .i64 0, .string ⟨#[]⟩, .string ⟨#[]⟩] 25)) g 25 #[.int .i64 n, .string p, .string c] := hg.alloc _
  have r0 := Blk.made W 25 #[.int .i64 0, .string ⟨#[]⟩, .string ⟨#[]⟩]
  have hb0 : Below W.heap.size W (W.alloc (.cells #[.int .i64 0, .string ⟨#[]⟩, .string ⟨#[]⟩] 25)) := (Below.refl _ _).alloc (Nat.le_refl _) _
  have hs0 : (W.alloc (.cells #[.int .i64 0, .string ⟨#[]⟩, .string ⟨#[]⟩] 25)).heap.size = W.heap.size + 1 := World.size_alloc _ _
  have d0 : (W.alloc (.cells #[.int .i64 0, .string ⟨#[]⟩, .string ⟨#[]⟩] 25)).cell? ⟨g, 2, none⟩ = some (.string c) := g0.cells 2
  obtain ⟨w, hw⟩ : ∃ w, W.alloc (.cells #[.int .i64 0, .string ⟨#[]⟩, .string ⟨#[]⟩] 25) = w := ⟨_, rfl⟩
  rw [hw] at g0 r0 hb0 hs0 d0
  have HW0 := ShO.mk hw
  have hcv := run_bytes_of_string (P := Try.prog) w 9 22 5 c Try.underlying9 Try.underlying22 Try.underlying5
  have hfb := fro_made w c (grownCap w c.size 0 5)
  have hB := ((Below.refl w.heap.size w).drew).alloc (Nat.le_refl _) (.cells (bytesRow c (grownCap w c.size 0 5)) 5 ((bytesRow c (grownCap w c.size 0 5)).size, (bytesRow c (grownCap w c.size 0 5)).size + 1))
  obtain ⟨W2, hW2⟩ : ∃ W2, w.drew.alloc (.cells (bytesRow c (grownCap w c.size 0 5)) 5 ((bytesRow c (grownCap w c.size 0 5)).size, (bytesRow c (grownCap w c.size 0 5)).size + 1)) = W2 := ⟨_, rfl⟩
  rw [hW2] at hcv hfb hB
  obtain ⟨cap, hcap⟩ : ∃ cap, grownCap w c.size 0 5 = cap := ⟨_, rfl⟩
  rw [hcap] at hcv
  rw [hs0] at hcv hfb
  have hB2 : Below W.heap.size W W2 := hb0.trans (hB.mono (by omega))
  have g2 := g0.kept hB (by omega)
  have r2 := r0.kept hB (by omega)
  have e0 : W2.cell? ⟨g, 0, none⟩ = some (.int .i64 n) := g2.cells 0
  have hl : c.data.toList.length = c.size := by rw [Array.length_toList]; rfl
  have x0 : W2.cell? ⟨W.heap.size + 1, I, none⟩ = some (.int .u8 ((c[I].toNat : Nat) : Int)) := hfb.cell (List.getElem?_eq_getElem (by omega))
  have m0 := hfb.mark hlt
  have HFS := ShO.mk (hfb.store hlt x)
  have hb3 : Below W.heap.size W (W2.setCell ⟨W.heap.size + 1, I, none⟩ (.int .u8 (x.toNat : Int))) := hB2.setCell (p := ⟨W.heap.size + 1, I, none⟩) (by show W.heap.size ≤ W.heap.size + 1; omega) _
  have g3 := g2.other (p := ⟨W.heap.size + 1, I, none⟩) (by show g ≠ W.heap.size + 1; omega) (.int .u8 (x.toNat : Int))
  have r3 := r2.other (p := ⟨W.heap.size + 1, I, none⟩) (by show W.heap.size ≠ W.heap.size + 1; omega) (.int .u8 (x.toNat : Int))
  obtain ⟨W3, hW3⟩ : ∃ W3, W2.setCell ⟨W.heap.size + 1, I, none⟩ (.int .u8 (x.toNat : Int)) = W3 := ⟨_, rfl⟩
  rw [hW3] at HFS hb3 g3 r3
  have HG3 := ShO.mk g3
  have HR3 := ShO.mk r3
  have HB3 := ShO.mk hb3
  clear hW2 hfb hB hcap g0 r0 g2 r2 hb0 hB2 g3 r3 hb3 hl hg h3 h4 h5 hz hi hc
  go_enter Try.func86, Try.ntmps86
  go_wp2
  have hcf := conv_frO (cap := cap) HFS.out
  have hcf2 : (convert 22 9 (.slice (some ⟨W.heap.size + 1, 0, none⟩) c.size cap)).run Try.prog W3.drew = .ok (.string (setS c I x)) W3.drew := conv_frO (w := W3.drew) (cap := cap) HFS.out
  have k0 : W3.drew.cell? ⟨g, 0, none⟩ = some (.int .i64 n) := HG3.out.cells 0
  have k1 : W3.drew.cell? ⟨g, 1, none⟩ = some (.string p) := HG3.out.cells 1
  have c0 := HR3.out.cells
  have f0 := HR3.out.marks
  clear hcv e0 x0 m0 d0 hcf hw HW0 hW3
  obtain ⟨S, hS⟩ : ∃ S, setS c I x = S := ⟨_, rfl⟩
  rw [hS] at hcf2 HR
  go_region
  go_wp2
  refine bodyPost_ret (v := .agg #[.int .i64 n, .string p, .string S]) (by simp [results, Try.results86, go_sem, c0]) rfl ?_
  rw [HR.out]
  exact ⟨rfl, (below_threeO HB3.out (Nat.le_refl _) _ _ _).drew⟩
theorem encode_low {u : UInt8} (h : u.toNat < 128) : Utf8.encode (u.toNat : Int) = ⟨#[u]⟩ := by
  have hv : Utf8.valid (u.toNat : Int) = true := by simp [Utf8.valid]; omega
  unfold Utf8.encode
  simp [hv, h]
set_option maxRecDepth 100000 in
set_option maxHeartbeats 4000000 in
theorem specSetU_any (n : Int) (p c : ByteArray) (r k : Int) (x : UInt8) (W : World) :
    Calls Try.prog 22 #[.agg #[.int .i64 n, .string p, .string c], .int .i64 r, .int .i64 k, .int .u8 (x.toNat : Int)] W fun e w' => e = .returned (bdRes (setOut n p c r k x)) ∧ Below W.heap.size W w' := by
  have hA : Below W.heap.size W (W.alloc (.cells #[.int .i64 n, .string p, .string c] 25)) := (Below.refl _ _).alloc (Nat.le_refl _) _
  have HBa := ShO.mk (hA.alloc (by simp) (.cells #[.int .i64 0, .string ⟨#[]⟩, .string ⟨#[]⟩] 25))
  have HG := ShO.mk ((Blk.made W 25 #[.int .i64 n, .string p, .string c]).alloc (.cells #[.int .i64 0, .string ⟨#[]⟩, .string ⟨#[]⟩] 25))
  have hr0 := Blk.made (W.alloc (.cells #[.int .i64 n, .string p, .string c] 25)) 25 #[.int .i64 0, .string ⟨#[]⟩, .string ⟨#[]⟩]
  rw [World.size_alloc] at hr0
  have HRB := ShO.mk hr0
  clear hA hr0
  cases hok : okBd n p c
  · have HK := ShO.mk hok
    have HR := ShO.mk (setOut_no1 (r := r) (k := k) (x := x) hok)
    clear hok
    go_enter Try.func22, Try.ntmps22
    go_wp2_with fail
    refine (l11OkO HK.out HG.out).mono ?_
    rintro e w1 ⟨rfl, m, rfl⟩
    have c0 := (HRB.out.drewN m).cells
    have f0 := (HRB.out.drewN m).marks
    go_wp2
    refine bodyPost_ret (v := .tuple #[.agg #[.int .i64 0, .string ⟨#[]⟩, .string ⟨#[]⟩], .int .i64 1]) (by simp [results, Try.results22, go_sem, c0]) rfl ?_
    rw [HR.out]
    exact ⟨rfl, below_threeO (below_drewO HBa.out m) (Nat.le_succ _) _ _ _⟩
  · have HK := ShO.mk hok
    have HZ := ShO.mk (okBd_siz hok)
    have HC := ShO.mk (okBd_iff.1 hok).cs
    cases hi : inBd n r k
    · have HI := ShO.mk hi
      have HR := ShO.mk (setOut_no2 (x := x) hok hi)
      clear hok hi
      go_enter Try.func22, Try.ntmps22
      go_wp2_with fail
      refine (l11OkO HK.out HG.out).mono ?_
      rintro e w1 ⟨rfl, m, rfl⟩
      go_wp2_with fail
      refine (insO HI.out HZ.out (HG.out.drewN m)).mono ?_
      rintro e w1 ⟨rfl, rfl⟩
      have c0 := (HRB.out.drewN m).cells
      have f0 := (HRB.out.drewN m).marks
      go_wp2
      refine bodyPost_ret (v := .tuple #[.agg #[.int .i64 0, .string ⟨#[]⟩, .string ⟨#[]⟩], .int .i64 2]) (by simp [results, Try.results22, go_sem, c0]) rfl ?_
      rw [HR.out]
      exact ⟨rfl, below_threeO (below_drewO HBa.out m) (Nat.le_succ _) _ _ _⟩
    · have HI := ShO.mk hi
      cases hx : cellI (x.toNat : Int)
      · have HX := ShO.mk hx
        have HR := ShO.mk (setOut_no3 hok hi hx)
        clear hok hi hx
        go_enter Try.func22, Try.ntmps22
        go_wp2_with fail
        refine (l11OkO HK.out HG.out).mono ?_
        rintro e w1 ⟨rfl, m, rfl⟩
        go_wp2_with fail
        refine (insO HI.out HZ.out (HG.out.drewN m)).mono ?_
        rintro e w1 ⟨rfl, rfl⟩
        go_wp2_with fail
        refine (cellO HX.out _).mono ?_
        rintro e w1 ⟨rfl, rfl⟩
        have c0 := (HRB.out.drewN m).cells
        have f0 := (HRB.out.drewN m).marks
        go_wp2
        refine bodyPost_ret (v := .tuple #[.agg #[.int .i64 0, .string ⟨#[]⟩, .string ⟨#[]⟩], .int .i64 7]) (by simp [results, Try.results22, go_sem, c0]) rfl ?_
        rw [HR.out]
        exact ⟨rfl, below_threeO (below_drewO HBa.out m) (Nat.le_succ _) _ _ _⟩
      · have HX := ShO.mk hx
        have HR := ShO.mk (setOut_yes hok hi hx)
        clear hok hi hx
        obtain ⟨S, hS⟩ : ∃ S, setS c (r * n + k).toNat x = S := ⟨_, rfl⟩
        have HS := ShO.mk hS
        rw [hS] at HR
        clear hS
        go_enter Try.func22, Try.ntmps22
        go_wp2_with fail
        refine (l11OkO HK.out HG.out).mono ?_
        rintro e w1 ⟨rfl, m, rfl⟩
        go_wp2_with fail
        refine (insO HI.out HZ.out (HG.out.drewN m)).mono ?_
        rintro e w1 ⟨rfl, rfl⟩
        go_wp2_with fail
        refine (cellO HX.out _).mono ?_
        rintro e w1 ⟨rfl, rfl⟩
        have HBm := ShO.mk (below_drewO HBa.out m)
        go_wp2_with fail
        refine (l11Set_any x _ HZ.out HI.out HC.out (HG.out.drewN m)).mono ?_
        rw [HS.out]
        rintro e w2 ⟨rfl, hb2⟩
        have HB2 := ShO.mk (HBm.out.trans (hb2.mono HBm.out.size))
        have HR2 := ShO.mk ((HRB.out.drewN m).kept hb2 (HRB.out.drewN m).lt)
        clear hb2
        have c0 := HR2.out.cells
        have f0 := HR2.out.marks
        go_wp2
        refine bodyPost_ret (v := .tuple #[.agg #[.int .i64 n, .string p, .string S], .int .i64 0]) (by simp [results, Try.results22, go_sem, c0]) rfl ?_
        rw [HR.out]
        exact ⟨rfl, below_threeO HB2.out (Nat.le_succ _) _ _ _⟩
set_option maxRecDepth 100000 in
set_option maxHeartbeats 4000000 in
theorem implSetU_any (n : Int) (p c : ByteArray) (r k : Int) (x : UInt8) (W : World) :
    Calls Try.prog 21 #[.agg #[.int .i64 n, .string p, .string c], .int .i64 r, .int .i64 k, .int .u8 (x.toNat : Int)] W fun e w' => e = .returned (bdRes (setOut n p c r k x)) ∧ Below W.heap.size W w' := by
  have hA : Below W.heap.size W (W.alloc (.cells #[.int .i64 n, .string p, .string c] 25)) := (Below.refl _ _).alloc (Nat.le_refl _) _
  have HBa := ShO.mk (hA.alloc (by simp) (.cells #[.int .i64 0, .string ⟨#[]⟩, .string ⟨#[]⟩] 25))
  have HG := ShO.mk ((Blk.made W 25 #[.int .i64 n, .string p, .string c]).alloc (.cells #[.int .i64 0, .string ⟨#[]⟩, .string ⟨#[]⟩] 25))
  have hr0 := Blk.made (W.alloc (.cells #[.int .i64 n, .string p, .string c] 25)) 25 #[.int .i64 0, .string ⟨#[]⟩, .string ⟨#[]⟩]
  rw [World.size_alloc] at hr0
  have HRB := ShO.mk hr0
  clear hA hr0
  have hxx : x.toNat < 256 := x.toNat_lt
  have hwx : IntKind.i32.wrap (x.toNat : Int) = (x.toNat : Int) := by simp [IntKind.wrap, IntKind.bits, IntKind.signed]; omega
  cases hok : okBd n p c
  · have HK := ShO.mk hok
    have HR := ShO.mk (setOut_no1 (r := r) (k := k) (x := x) hok)
    clear hok
    go_enter Try.func21, Try.ntmps21
    have c11 := HG.out.cells
    go_wp2_with fail
    refine (validO HK.out _).mono ?_
    rintro e w1 ⟨rfl, hb1⟩
    have HB1 := ShO.mk (HBa.out.trans (hb1.mono HBa.out.size))
    have HG1 := ShO.mk (HG.out.kept hb1 HG.out.lt)
    have HRB1 := ShO.mk (HRB.out.kept hb1 HRB.out.lt)
    clear c11 hb1
    have c0 := (HRB1.out).cells
    have f0 := (HRB1.out).marks
    go_wp2
    refine bodyPost_ret (v := .tuple #[.agg #[.int .i64 0, .string ⟨#[]⟩, .string ⟨#[]⟩], .int .i64 1]) (by simp [results, Try.results21, go_sem, c0]) rfl ?_
    rw [HR.out]
    exact ⟨rfl, below_threeO (HB1.out) (Nat.le_succ _) _ _ _⟩
  · have HK := ShO.mk hok
    have HZ := ShO.mk (okBd_siz hok)
    have HC := ShO.mk (okBd_iff.1 hok).cs
    cases hi : inBd n r k
    · have HI := ShO.mk hi
      have HR := ShO.mk (setOut_no2 (x := x) hok hi)
      clear hok hi
      go_enter Try.func21, Try.ntmps21
      have c11 := HG.out.cells
      go_wp2_with fail
      refine (validO HK.out _).mono ?_
      rintro e w1 ⟨rfl, hb1⟩
      have HB1 := ShO.mk (HBa.out.trans (hb1.mono HBa.out.size))
      have HG1 := ShO.mk (HG.out.kept hb1 HG.out.lt)
      have HRB1 := ShO.mk (HRB.out.kept hb1 HRB.out.lt)
      clear c11 hb1
      have c12 := HG1.out.cells
      go_wp2_with fail
      refine (hasSquareO HI.out _).mono ?_
      rintro e w2 ⟨rfl, hb2⟩
      have HB2 := ShO.mk (HB1.out.trans (hb2.mono HB1.out.size))
      have HG2 := ShO.mk (HG1.out.kept hb2 HG1.out.lt)
      have HRB2 := ShO.mk (HRB1.out.kept hb2 HRB1.out.lt)
      clear c12 hb2
      have c0 := (HRB2.out).cells
      have f0 := (HRB2.out).marks
      go_wp2
      refine bodyPost_ret (v := .tuple #[.agg #[.int .i64 0, .string ⟨#[]⟩, .string ⟨#[]⟩], .int .i64 2]) (by simp [results, Try.results21, go_sem, c0]) rfl ?_
      rw [HR.out]
      exact ⟨rfl, below_threeO (HB2.out) (Nat.le_succ _) _ _ _⟩
    · have HI := ShO.mk hi
      cases hx : cellI (x.toNat : Int)
      · have HX := ShO.mk hx
        have HR := ShO.mk (setOut_no3 hok hi hx)
        clear hok hi hx
        go_enter Try.func21, Try.ntmps21
        have c11 := HG.out.cells
        go_wp2_with fail
        refine (validO HK.out _).mono ?_
        rintro e w1 ⟨rfl, hb1⟩
        have HB1 := ShO.mk (HBa.out.trans (hb1.mono HBa.out.size))
        have HG1 := ShO.mk (HG.out.kept hb1 HG.out.lt)
        have HRB1 := ShO.mk (HRB.out.kept hb1 HRB.out.lt)
        clear c11 hb1
        have c12 := HG1.out.cells
        go_wp2_with fail
        refine (hasSquareO HI.out _).mono ?_
        rintro e w2 ⟨rfl, hb2⟩
        have HB2 := ShO.mk (HB1.out.trans (hb2.mono HB1.out.size))
        have HG2 := ShO.mk (HG1.out.kept hb2 HG1.out.lt)
        have HRB2 := ShO.mk (HRB1.out.kept hb2 HRB1.out.lt)
        clear c12 hb2
        go_wp2_with fail
        refine (isCell_any _ _).mono ?_
        rw [HX.out]
        rintro e w3 ⟨rfl, rfl⟩
        have c0 := (HRB2.out).cells
        have f0 := (HRB2.out).marks
        go_wp2
        refine bodyPost_ret (v := .tuple #[.agg #[.int .i64 0, .string ⟨#[]⟩, .string ⟨#[]⟩], .int .i64 7]) (by simp [results, Try.results21, go_sem, c0]) rfl ?_
        rw [HR.out]
        exact ⟨rfl, below_threeO (HB2.out) (Nat.le_succ _) _ _ _⟩
      · have HX := ShO.mk hx
        obtain ⟨I, h1, h2, h3, h4, h5, -⟩ := at_facts HZ.out hi
        have hlt : I < c.size := by have := HC.out; omega
        have hcs : c.size ≤ 225 := by have := HC.out; omega
        have HR := ShO.mk (setOut_yes hok hi hx)
        have hx128 : x.toNat < 128 := by have := cellI_iff.1 hx; omega
        rw [h3, Int.toNat_natCast, ← setS_cut hlt x] at HR
        obtain ⟨Q, hQ⟩ : ∃ Q, r * n = Q := ⟨_, rfl⟩
        rw [hQ] at h1 h2
        have henc : Utf8.encode (x.toNat : Int) = ⟨#[x]⟩ := encode_low hx128
        have hw3 : IntKind.i64.wrap ((I : Int) + 1) = ((I + 1 : Nat) : Int) := (IntWalk.i64_in _ (by omega)).trans (by omega)
        obtain ⟨a, ha⟩ : ∃ a, c.extract 0 I = a := ⟨_, rfl⟩
        obtain ⟨b, hb⟩ : ∃ b : ByteArray, (⟨#[x]⟩ : ByteArray) = b := ⟨_, rfl⟩
        obtain ⟨d, hd⟩ : ∃ d, c.extract (I + 1) c.size = d := ⟨_, rfl⟩
        have hza : a.size ≤ 225 := by rw [← ha, ByteArray.size_extract]; omega
        have hzb : b.size ≤ 1 := by rw [← hb]; exact Nat.le_refl _
        have hzd : d.size ≤ 225 := by rw [← hd, ByteArray.size_extract]; omega
        rw [ha, hb, hd] at HR
        rw [hb] at henc
        clear hok hi hx h3 h4 h5 hb
        go_enter Try.func21, Try.ntmps21
        have c11 := HG.out.cells
        go_wp2_with fail
        refine (validO HK.out _).mono ?_
        rintro e w1 ⟨rfl, hb1⟩
        have HB1 := ShO.mk (HBa.out.trans (hb1.mono HBa.out.size))
        have HG1 := ShO.mk (HG.out.kept hb1 HG.out.lt)
        have HRB1 := ShO.mk (HRB.out.kept hb1 HRB.out.lt)
        clear c11 hb1
        have c12 := HG1.out.cells
        go_wp2_with fail
        refine (hasSquareO HI.out _).mono ?_
        rintro e w2 ⟨rfl, hb2⟩
        have HB2 := ShO.mk (HB1.out.trans (hb2.mono HB1.out.size))
        have HG2 := ShO.mk (HG1.out.kept hb2 HG1.out.lt)
        have HRB2 := ShO.mk (HRB1.out.kept hb2 HRB1.out.lt)
        clear c12 hb2
        go_wp2_with fail
        refine (isCell_any _ _).mono ?_
        rw [HX.out]
        rintro e w3 ⟨rfl, rfl⟩
        have c0 := HRB2.out.cells
        have f0 := HRB2.out.marks
        have e0 : w2.cell? ⟨W.heap.size, 0, none⟩ = some (.int .i64 n) := HG2.out.cells 0
        have e1 : w2.cell? ⟨W.heap.size, 1, none⟩ = some (.string p) := HG2.out.cells 1
        have e2 : w2.cell? ⟨W.heap.size, 2, none⟩ = some (.string c) := HG2.out.cells 2
        have m2 := HG2.out.marks 2
        have hsz1 : ¬ 9223372036854775807 < a.size + b.size := by omega
        have hsz2 : ¬ 9223372036854775807 < (a ++ b).size + d.size := by rw [ByteArray.size_append]; omega
        have hsz3 : ¬ 9223372036854775807 < a.size + b.size + d.size := by omega
        go_wp2
        go_region
        obtain ⟨S, hS⟩ : ∃ S, a ++ b ++ d = S := ⟨_, rfl⟩
        rw [hS] at HR
        rw [hS]
        have HBS := ShO.mk (HB2.out.setCell (p := ⟨W.heap.size, 2, none⟩) (Nat.le_refl _) (.string S))
        have q0 := (HG2.out.stored 2 (.string S)).cells
        have q1 := (HRB2.out.other (p := ⟨W.heap.size, 2, none⟩) (by show W.heap.size + 1 ≠ W.heap.size; omega) (.string S)).cells
        have q2 := (HRB2.out.other (p := ⟨W.heap.size, 2, none⟩) (by show W.heap.size + 1 ≠ W.heap.size; omega) (.string S)).marks
        obtain ⟨w5, hw5⟩ : ∃ w5, w2.setCell ⟨W.heap.size, 2, none⟩ (.string S) = w5 := ⟨_, rfl⟩
        rw [hw5] at HBS q0 q1 q2
        rw [hw5]
        clear c0 f0 e0 e1 e2 m2 hw5 hS hsz1 hsz2 hsz3
        have k0 : w5.cell? ⟨W.heap.size, 0, none⟩ = some (.int .i64 n) := q0 0
        have k1 : w5.cell? ⟨W.heap.size, 1, none⟩ = some (.string p) := q0 1
        have k2 : w5.cell? ⟨W.heap.size, 2, none⟩ = some (.string S) := q0 2
        go_wp2
        refine bodyPost_ret (v := .tuple #[.agg #[.int .i64 n, .string p, .string S], .int .i64 0]) (by simp [results, Try.results21, go_sem, q1]) rfl ?_
        rw [HR.out]
        first
          | exact ⟨rfl, (below_threeO HBS.out (Nat.le_succ _) _ _ _).drew⟩
          | exact ⟨rfl, below_threeO HBS.out.drew (Nat.le_succ _) _ _ _⟩
theorem specSetCell_any (n : Int) (p c : ByteArray) (r k x : Int) (h0 : 0 ≤ x) (h1 : x ≤ 255) (W : World) :
    Calls Try.prog 22 #[.agg #[.int .i64 n, .string p, .string c], .int .i64 r, .int .i64 k, .int .u8 x] W fun e w' => e = .returned (bdRes (setOut n p c r k x.toNat.toUInt8)) ∧ Below W.heap.size W w' := by
  obtain ⟨u, rfl, hu⟩ := u8_of h0 h1
  rw [hu]
  exact specSetU_any n p c r k u W
theorem implSetCell_any (n : Int) (p c : ByteArray) (r k x : Int) (h0 : 0 ≤ x) (h1 : x ≤ 255) (W : World) :
    Calls Try.prog 21 #[.agg #[.int .i64 n, .string p, .string c], .int .i64 r, .int .i64 k, .int .u8 x] W fun e w' => e = .returned (bdRes (setOut n p c r k x.toNat.toUInt8)) ∧ Below W.heap.size W w' := by
  obtain ⟨u, rfl, hu⟩ := u8_of h0 h1
  rw [hu]
  exact implSetU_any n p c r k u W
end Go.Proofs.Ytpeobloofofnlaa
