/-
  The law of DerivationsOf is true of every grammar and every text: the program's answer is the model's and lies in rows of its own, and nothing is changed.
-/
import Derived.Test.YtilagppmljpclaaIR
namespace Go.Proofs.Ytilagppmljpclaa
open Go.ChangeShapes Go.WideShapes Go.ChangeAt Go.RowKit Go.Joins Go.Deep
open Go.ChangeMaps (open_string shut_string)

theorem dW_two {ds : List Stm} (h : ∀ d ∈ ds, d.uses.length ≤ 2) : ∀ {j : Nat}, j ≤ ds.length → dW ds j ≤ 3 * j
  | 0, _ => Nat.le_refl _
  | j + 1, hj => by
    rw [dW_succ]
    have h1 := dW_two h (j := j) (by omega)
    have h2 := h _ (stmG_memK (ds := ds) (j := j) (by omega))
    omega
theorem dW_stms (ss : List Stm) : ∀ j, dW ss j ≤ j + sumTo (fun i => stmW (stmG ss i)) j
  | 0 => Nat.le_refl _
  | j + 1 => by
    rw [dW_succ]
    have h1 := dW_stms ss j
    have h2 := strsW_len (stmG ss j).uses
    show _ ≤ j + 1 + (sumTo (fun i => stmW (stmG ss i)) j + stmW (stmG ss j))
    unfold stmW at h1 ⊢
    omega
theorem derOut_fact {xs : List Aff} {ss : List Stm} {word : ByteArray} {DS : List Stm} {cd : Int} (h : derOut xs ss word = (DS, cd)) : DS.length ≤ 6000 ∧ ∀ d ∈ DS, d.uses.length ≤ 2 := by
  unfold derOut at h
  split at h
  · next hok =>
    split at h
    · injection h with h _
      subst h
      refine ⟨?_, fun d hd => (dersTo_fact hok d (List.mem_filter.1 hd).1).2.1⟩
      have h1 := List.length_filter_le (hitB xs word) (dersTo ss ss.length)
      have h2 := dersTo_len hok (Nat.le_refl ss.length)
      have h3 := (okG_small hok).2
      omega
    · injection h with h _
      subst h
      exact ⟨by simp, fun d hd => by simp at hd⟩
  · injection h with h _
    subst h
    exact ⟨by simp, fun d hd => by simp at hd⟩
theorem specD_is {va vs : Value} {xs : List Aff} {ss : List Stm} {word : ByteArray} {DS : List Stm} {cd : Int} (h : derOut xs ss word = (DS, cd)) (W : World) (hg : Gram W va vs xs ss) (hx : ∀ x ∈ xs, AffFine x) (hs : ∀ x ∈ ss, StmFine x) (hw : word.size ≤ maxLen) :
    Calls Try.prog 28 #[.agg #[va, vs], .string word] W fun e w' => ∃ a c us, e = .returned (.tuple #[.slice a DS.length c, .int .i64 cd]) ∧ Ders W.heap.size w' (.slice a DS.length c) us DS ∧ Below W.heap.size W w' :=
  (specDerivationsOf_any W hg hx hs hw).mono fun _ _ ⟨r, us, h1, h2, h3⟩ => by
    rw [h] at h1 h2
    have hl := h2.len
    obtain ⟨a, c, rfl, -⟩ := own_formN h2.row
    rw [hl] at h1 h2
    exact ⟨a, c, us, h1, h2, h3⟩
theorem implD_is {va vs : Value} {xs : List Aff} {ss : List Stm} {word : ByteArray} {DS : List Stm} {cd : Int} (h : derOut xs ss word = (DS, cd)) (W : World) (hg : Gram W va vs xs ss) (hx : ∀ x ∈ xs, AffFine x) (hs : ∀ x ∈ ss, StmFine x) (hw : word.size ≤ maxLen) :
    Calls Try.prog 29 #[.agg #[va, vs], .string word] W fun e w' => ∃ a c us, e = .returned (.tuple #[.slice a DS.length c, .int .i64 cd]) ∧ Ders W.heap.size w' (.slice a DS.length c) us DS ∧ Below W.heap.size W w' :=
  (implDerivationsOf_any W hg hx hs hw).mono fun _ _ ⟨r, us, h1, h2, h3⟩ => by
    rw [h] at h1 h2
    have hl := h2.len
    obtain ⟨a, c, rfl, -⟩ := own_formN h2.row
    rw [hl] at h1 h2
    exact ⟨a, c, us, h1, h2, h3⟩
theorem markD_is {B m : Nat} {v : Value} {us : List Value} {ds : List Stm} (hm : 1 + dW ds ds.length = m) (w : World) (h : Ders B w v us ds) (hkn : m ≤ 4000000000) :
    Calls Try.prog 32 #[v, .int .i64 1] w fun e w' => e = .returned (.int .i64 (m : Int)) ∧ Ders B w' v us (mTo 1 ds ds.length) ∧ Apart (fun b => B ≤ b) w w' := by
  subst hm
  exact markDerS_any 1 w h (by omega) hkn
theorem heldD_is {m : Nat} {v : Value} {ds : List Stm} (hm : 1 + dW ds ds.length = m) (w : World) (h : Stms w v (mTo 1 ds ds.length)) (hkn : m ≤ 4000000000) :
    Calls Try.prog 33 #[v, .int .i64 1] w fun e w' => e = .returned (.int .i64 (m : Int)) ∧ Below w.heap.size w w' := by
  subst hm
  exact heldDerS_any 1 w h (by omega) hkn
theorem markG_is {lo hi ga gs n m : Nat} {ss : List Stm} (hm : 1 + 5 * n + dW ss ss.length = m) (w : World) (h : GRm lo hi w ga gs n ss) (hkn : m ≤ 4000000000) (hsl : ss.length ≤ 4000000000) :
    Calls Try.prog 31 #[.agg #[.slice (some ⟨ga, 0, none⟩) n n, .slice (some ⟨gs, 0, none⟩) ss.length ss.length], .int .i64 1] w fun e w' => e = .returned (.int .i64 (m : Int)) ∧ Apart (fun b => lo ≤ b ∧ b < hi) w w' := by
  subst hm
  exact markGrammar_room 1 w h (by omega) hkn hsl
theorem dtoG_on {va vs : Value} {xs : List Aff} {ss : List Stm} (w0 W : World) (hb : Below w0.heap.size w0 W) (h : Gram w0 va vs xs ss) (hs : Small xs ss) :
    Calls Try.prog 23 #[.agg #[va, vs]] W fun e w' => ∃ a s, e = .returned (.agg #[.slice a xs.length xs.length, .slice s ss.length ss.length]) ∧ Gram w' (.slice a xs.length xs.length) (.slice s ss.length ss.length) xs ss ∧ Below w0.heap.size w0 w' ∧ Below W.heap.size W w' :=
  (toGrammar_any W (h.below hb) hs).mono fun _ _ ⟨a, s, h1, h2, h3⟩ => ⟨a, s, h1, h2, hb.trans (h3.mono hb.size), h3⟩
theorem deqG_on {va vb vs vt : Value} {xs : List Aff} {ss : List Stm} (w0 W : World) (hb : Below w0.heap.size w0 W) (hx : Gram W va vs xs ss) (hy : Gram W vb vt xs ss) :
    Calls Try.prog 26 #[.agg #[va, vs], .agg #[vb, vt]] W fun e w' => e = .returned (.bool true) ∧ Below w0.heap.size w0 w' :=
  (eqGrammar_same W hx hy).mono fun _ _ ⟨h1, h2⟩ => ⟨h1, hb.trans (h2.mono hb.size)⟩
def FourCells (b1 b2 : Nat) (x1 y1 x2 y2 : Value) (w : World) : Prop :=
  (w.cell? ⟨b1, 0, none⟩ = some x1 ∧ w.cell? ⟨b1, 1, none⟩ = some y1) ∧ (w.cell? ⟨b2, 0, none⟩ = some x2 ∧ w.cell? ⟨b2, 1, none⟩ = some y2)
theorem fourCells {b1 b2 : Nat} {t1 t2 : TypeId} {x1 y1 x2 y2 : Value} {w w' : World} (p1 : Blk w b1 t1 #[x1, y1]) (p2 : Blk w b2 t2 #[x2, y2]) (hb : Below w.heap.size w w') : FourCells b1 b2 x1 y1 x2 y2 w' := by
  have q1 := (p1.kept hb p1.lt).cells
  have q2 := (p2.kept hb p2.lt).cells
  exact ⟨⟨q1 0, q1 1⟩, ⟨q2 0, q2 1⟩⟩

set_option maxRecDepth 100000 in
set_option maxHeartbeats 4000000 in
theorem FnExactDerivationsOf_walk (W : World) (xs : List Aff) (ss : List Stm) (va vs : Value) (hg : Gram W va vs xs ss) (hx : ∀ x ∈ xs, AffFine x) (hs : ∀ x ∈ ss, StmFine x) (word : ByteArray) (hw : word.size ≤ maxLen) :
    Calls Try.prog 7 #[.agg #[va, vs], .string word] W fun e w' => e = .returned (.bool true) ∧ Below W.heap.size W w' := by
  have hB0 := (Below.refl W.heap.size W).alloc (Nat.le_refl _) (.cells #[va, vs] 39)
  have HG := Shh.mk hg
  have P0 := Shh.mk (Blk.made W 39 #[va, vs])
  obtain ⟨⟨aa, ac, rfl, -⟩, ⟨sa, sc, rfl, -⟩⟩ := hg
  have HW := Shh.mk hw
  have hw' := hw
  unfold maxLen at hw'
  by_cases hlong : (1048576 : Int) < (word.size : Int)
  · go_enter Try.func7, Try.ntmps7
    go_wp2
    go_ret
    exact ⟨rfl, hB0⟩
  · clear hw'
    by_cases hsz : (1048576 : Int) < ((gramW xs ss : Nat) : Int)
    · have HS := hid (szN_no hsz)
      clear hsz
      go_enter Try.func7, Try.ntmps7
      go_wp2_with fail
      refine (szGrammar_any xs ss 1048576 _ (HG.out.below hB0).affs (HG.out.below hB0).stms hx hs (by omega) (by omega)).mono ?_
      rw [HS.out]
      rintro e w1 ⟨rfl, hb1⟩
      go_wp2
      go_ret
      exact ⟨rfl, hB0.trans (hb1.mono hB0.size)⟩
    · have HS := hid (szN_yes hsz)
      have hsm : Small xs ss := small_of (by omega)
      have hge : ¬ (1048576 : Int) - ((gramW xs ss : Nat) : Int) < 0 := by omega
      obtain ⟨⟨DS, cd⟩, hdd⟩ : ∃ p, derOut xs ss word = p := ⟨_, rfl⟩
      have HT := Shh.mk hdd
      have HF := Shh.mk (derOut_fact hdd)
      obtain ⟨mg, hmg⟩ : ∃ m, 1 + 5 * xs.length + dW ss ss.length = m := ⟨_, rfl⟩
      obtain ⟨md, hmd⟩ : ∃ m, 1 + dW DS DS.length = m := ⟨_, rfl⟩
      have HMG := Shh.mk hmg
      have HMD := Shh.mk hmd
      have hmg9 : mg ≤ 4000000000 := by
        have h1 := dW_stms ss ss.length
        have h2 : gramW xs ss = affsW xs + stmsW ss := rfl
        have h3 : stmsW ss = ss.length + sumTo (fun j => stmW (stmG ss j)) ss.length := rfl
        have h4 := hsm.xlen
        omega
      have hmd9 : md ≤ 4000000000 := by
        have h1 := dW_two HF.out.2 (Nat.le_refl DS.length)
        have h2 := HF.out.1
        omega
      have hs9 : ss.length ≤ 4000000000 := by have := hsm.slen; omega
      have SM := Shh.mk hsm
      have HM1 := Shh.mk hmg9
      have HM2 := Shh.mk hmd9
      have HS9 := Shh.mk hs9
      have hmn : ¬ ((mg : Nat) : Int) < 0 := by omega
      have hmn2 : ¬ ((md : Nat) : Int) < 0 := by omega
      clear hsz hdd hmg hmd hsm hmg9 hmd9 hs9
      go_enter Try.func7, Try.ntmps7
      go_wp2_with fail
      refine (szGrammar_any xs ss 1048576 _ (HG.out.below hB0).affs (HG.out.below hB0).stms hx hs (by omega) (by omega)).mono ?_
      rw [HS.out]
      rintro e w1 ⟨rfl, hb1⟩
      have hB1 := hB0.trans (hb1.mono hB0.size)
      have Q1 := Shh.mk (P0.out.kept hb1 P0.out.lt)
      have c1 := Q1.out.cells
      go_wp2_with fail
      refine (toGrammar_any _ (HG.out.below hB1) SM.out).mono ?_
      rintro e w2 ⟨a2, s2, rfl, hg2, hb2⟩
      have hB2 := hB1.trans (hb2.mono hB1.size)
      have Q2 := Shh.mk (Q1.out.kept hb2 Q1.out.lt)
      clear c1 hge
      go_wp2_with fail
      refine (specD_is HT.out _ hg2 hx hs HW.out).mono ?_
      rintro e w3 ⟨a3, c3, u3, rfl, hd3, hb3⟩
      have hB3 := hB2.trans (hb3.mono hB2.size)
      have Q3 := Shh.mk (Q2.out.kept hb3 Q2.out.lt)
      have HD3 := Shh.mk hd3
      have HB3 := Shh.mk hB3
      have HQL := Shh.mk Q3.out.lt
      have c3' := Q3.out.cells
      clear hg2 hb1 hb2 hb3 hd3 hB0 hB1 hB2 hB3
      go_wp2_with fail
      refine (toGrammar_row _ (HG.out.below HB3.out) SM.out).mono ?_
      rintro e w4 ⟨ga, gs, rfl, ⟨hra, hrs, hga, hgs⟩, hb4⟩
      have X4 := Shh.mk (Blk.made w4 48 #[.slice (some ⟨ga, 0, none⟩) xs.length xs.length, .slice (some ⟨gs, 0, none⟩) ss.length ss.length])
      have HB4 := Shh.mk ((Below.refl w4.heap.size w4).alloc (Nat.le_refl _) (.cells #[.slice (some ⟨ga, 0, none⟩) xs.length xs.length, .slice (some ⟨gs, 0, none⟩) ss.length ss.length] 48))
      have HR4 := Shh.mk ((GRm.of_rows hra hrs hga hgs).quiet HB4.out)
      have HX4 := Shh.mk (show Gram _ _ _ xs ss from Gram.below ⟨hra.affs SM.out.xlen, hrs.stms SM.out.slen⟩ HB4.out)
      have Q4 := Shh.mk ((Q3.out.kept hb4 Q3.out.lt).kept HB4.out (by have := Q3.out.lt; have := hb4.size; omega))
      have HZ4 := Shh.mk hb4.size
      have HBW4 := Shh.mk ((HB3.out.trans (hb4.mono HB3.out.size)).alloc (Nat.le_trans HB3.out.size hb4.size) (.cells #[.slice (some ⟨ga, 0, none⟩) xs.length xs.length, .slice (some ⟨gs, 0, none⟩) ss.length ss.length] 48))
      have HD4 := Shh.mk ((HD3.out.quiet hb4).quiet HB4.out)
      have HD3S := Shh.mk (fun b hb => (HD3.out.under b hb).2)
      have HD3K := Shh.mk (fun j hj b hb => (HD3.out.kin.under (j := j) hj b hb).2)
      clear hra hrs hga hgs hb4 c3' HD3
      obtain ⟨wx, hwx⟩ : ∃ x, x = w4.alloc (.cells #[.slice (some ⟨ga, 0, none⟩) xs.length xs.length, .slice (some ⟨gs, 0, none⟩) ss.length ss.length] 48) := ⟨_, rfl⟩
      have HZX := Shh.mk (show w4.heap.size < wx.heap.size by rw [hwx]; simp)
      rw [← hwx] at X4 HR4 HX4 Q4 HBW4 HD4
      have cx := X4.out.cells
      rw [hwx] at cx
      go_wp2_with fail
      rw [← hwx]
      refine (implD_is HT.out _ HX4.out hx hs HW.out).mono ?_
      rintro e w5 ⟨a5, c5, u5, rfl, hd5, hb5⟩
      clear cx hwx HB4
      have X5 := Shh.mk (X4.out.kept hb5 X4.out.lt)
      have Q5 := Shh.mk (Q4.out.kept hb5 Q4.out.lt)
      have HR5 := Shh.mk (HR4.out.quiet hb5)
      have HX5 := Shh.mk (HX4.out.below hb5)
      have HB5 := Shh.mk (HBW4.out.trans (hb5.mono HBW4.out.size))
      have HD5 := Shh.mk (HD4.out.quiet hb5)
      have HE5 := Shh.mk hd5
      clear hb5 hd5 X4 Q4 HR4 HX4 HBW4 HD4
      go_wp2_with fail
      refine (eqDerS_same _ HE5.out.stms HD5.out.stms).mono ?_
      rintro e w6 ⟨rfl, hb6⟩
      have X6 := Shh.mk (X5.out.kept hb6 X5.out.lt)
      have Q6 := Shh.mk (Q5.out.kept hb6 Q5.out.lt)
      have HR6 := Shh.mk (HR5.out.quiet hb6)
      have HX6 := Shh.mk (HX5.out.below hb6)
      have HB6 := Shh.mk (HB5.out.trans (hb6.mono HB5.out.size))
      have HD6 := Shh.mk (HD5.out.quiet hb6)
      have HE6 := Shh.mk (HE5.out.quiet hb6)
      have HGW := Shh.mk (HG.out.below HB6.out)
      clear hb6 X5 Q5 HR5 HX5 HB5 HD5 HE5
      go_wp2
      have HK := Shh.mk (fun w' (hb : Below w6.heap.size w6 w') => fourCells X6.out Q6.out hb)
      unfold FourCells at HK
      go_region_held3 (fun w' => (w'.cell? ⟨w4.heap.size, 0, none⟩ = some (.slice (some ⟨ga, 0, none⟩) xs.length xs.length) ∧ w'.cell? ⟨w4.heap.size, 1, none⟩ = some (.slice (some ⟨gs, 0, none⟩) ss.length ss.length)) ∧
          (w'.cell? ⟨W.heap.size, 0, none⟩ = some (.slice aa xs.length ac) ∧ w'.cell? ⟨W.heap.size, 1, none⟩ = some (.slice sa ss.length sc)))
        (exact HK.out _ (by first | assumption | exact (Below.refl _ _).drew))
        (first
          | (go_at_call 23; with_reducible refine (dtoG_on w6 _ (by first | assumption | exact (Below.refl _ _).drew) HGW.out SM.out).mono ?_; rintro e w7 ⟨a7, s7, rfl, hg7, hb7, hc7⟩)
          | (go_at_call 26; refine (deqG_on w6 _ (by assumption) (HX6.out.below (by assumption)) hg7).mono ?_; rintro e w8 ⟨rfl, hb8⟩))
      all_goals
        clear HK
        have X8 := Shh.mk (X6.out.kept hb8 X6.out.lt)
        have Q8 := Shh.mk (Q6.out.kept hb8 Q6.out.lt)
        have HR8 := Shh.mk (HR6.out.quiet hb8)
        have HD8 := Shh.mk (HD6.out.quiet hb8)
        have HE8 := Shh.mk (HE6.out.quiet hb8)
        have HB8 := Shh.mk (HB6.out.trans (hb8.mono HB6.out.size))
        clear hb8 X6 Q6 HR6 HD6 HE6 HB6
        have c8 := X8.out.cells
        go_wp2_with fail
        refine (markG_is HMG.out _ HR8.out HM1.out HS9.out).mono ?_
        rintro e w9 ⟨rfl, hk9⟩
        have HD9 := Shh.mk (HD8.out.apart hk9 (fun b hb e => by have := HD3S.out b hb; omega) (fun j hj b hb e => by have := HD3K.out j hj b hb; omega))
        have HE9 := Shh.mk (HE8.out.apart hk9 (fun b hb e => by have := (HE8.out.under b hb).1; have := HZX.out; omega) (fun j hj b hb e => by have := (HE8.out.kin.under hj b hb).1; have := HZX.out; omega))
        have HB9 := Shh.mk (HB8.out.trans (hk9.below (B := W.heap.size) (fun i hi e => by have := HB3.out.size; omega) HB8.out.size))
        have Q9 := Shh.mk (Q8.out.apart hk9 (fun e => by have := HQL.out; omega))
        clear c8 hk9 X8 Q8 HR8 HD8 HE8 HB8
        go_wp2_with fail
        refine (eqDerS_same _ HE9.out.stms HD9.out.stms).mono ?_
        rintro e w10 ⟨rfl, hb10⟩
        have Q10 := Shh.mk (Q9.out.kept hb10 Q9.out.lt)
        have HD10 := Shh.mk (HD9.out.quiet hb10)
        have HE10 := Shh.mk (HE9.out.quiet hb10)
        have HB10 := Shh.mk (HB9.out.trans (hb10.mono HB9.out.size))
        clear hb10 Q9 HD9 HE9 HB9
        go_wp2_with fail
        refine (markD_is HMD.out _ HE10.out HM2.out).mono ?_
        rintro e w11 ⟨rfl, hm11, hk11⟩
        have HE11 := Shh.mk hm11
        have HD11 := Shh.mk (HD10.out.apart hk11 (fun b hb e => by have := HD3S.out b hb; have := HZ4.out; have := HZX.out; omega) (fun j hj b hb e => by have := HD3K.out j hj b hb; have := HZ4.out; have := HZX.out; omega))
        have HB11 := Shh.mk (HB10.out.trans (hk11.below (B := W.heap.size) (fun i hi e => by have := HB3.out.size; have := HZ4.out; have := HZX.out; omega) HB10.out.size))
        have Q11 := Shh.mk (Q10.out.apart hk11 (fun e => by have := HQL.out; have := HZ4.out; have := HZX.out; omega))
        clear hm11 hk11 HE10 HD10 HB10 Q10
        go_wp2_with fail
        refine (heldD_is HMD.out _ HE11.out.stms HM2.out).mono ?_
        rintro e w12 ⟨rfl, hb12⟩
        have Q12 := Shh.mk (Q11.out.kept hb12 Q11.out.lt)
        have HD12 := Shh.mk (HD11.out.quiet hb12)
        have HE12 := Shh.mk (HE11.out.quiet hb12)
        have HB12 := Shh.mk (HB11.out.trans (hb12.mono HB11.out.size))
        clear hb12 Q11 HD11 HE11 HB11
        have c12 := Q12.out.cells
        go_wp2_with fail
        refine (toGrammar_any _ (HG.out.below HB12.out) SM.out).mono ?_
        rintro e w13 ⟨a13, s13, rfl, hg13, hb13⟩
        have HD13 := Shh.mk (HD12.out.quiet hb13)
        have HE13 := Shh.mk (HE12.out.quiet hb13)
        have HB13 := Shh.mk (HB12.out.trans (hb13.mono HB12.out.size))
        clear hb13 HD12 HE12 HB12
        clear c12 Q12
        go_wp2_with fail
        refine (implD_is HT.out _ hg13 hx hs HW.out).mono ?_
        rintro e w14 ⟨a14, c14, u14, rfl, hd14, hb14⟩
        have HD14 := Shh.mk (HD13.out.quiet hb14)
        have HE14 := Shh.mk (HE13.out.quiet hb14)
        have HB14 := Shh.mk (HB13.out.trans (hb14.mono HB13.out.size))
        clear hb14 HD13 HE13 HB13
        go_wp2_with fail
        refine (eqDerS_same _ hd14.stms HD14.out.stms).mono ?_
        rintro e w15 ⟨rfl, hb15⟩
        have HE15 := Shh.mk (HE14.out.quiet hb15)
        have HB15 := Shh.mk (HB14.out.trans (hb15.mono HB14.out.size))
        clear hb15 HE14 HB14
        clear hd14 hg13
        go_wp2_with fail
        refine (heldD_is HMD.out _ HE15.out.stms HM2.out).mono ?_
        rintro e w16 ⟨rfl, hb16⟩
        go_wp2
        go_ret
        exact ⟨rfl, HB15.out.trans (hb16.mono HB15.out.size)⟩

set_option maxRecDepth 100000 in
theorem FnExactDerivationsOf_lifted (os : Os) (started : os.Started) (H : Type) (enc : TypeId × Value → H) :
    ReturnsInHanded {} Try.checked os 7 .any (Rows.fnExactDerivationsOfSpec.pre6 enc Try.prog Try.f7 Rows.fnExactDerivationsOfRow.domain false) (Rows.fnExactDerivationsOfSpec.post enc Try.prog Try.f7 false true false false) := by
  refine returnsInHanded_of_change (C := Try.checked) prog_own started (by kernel_rfl) Try.func7
    (ChangeSpec.witness6 (enc := enc) (C := Try.checked) false ⟨#[], #[.agg #[.slice none 0 0, .slice none 0 0], .string ByteArray.empty], []⟩ 8 (by kernel_rfl) (by kernel_rfl) (by kernel_rfl) (by kernel_rfl)) ?_
  intro W base args ds gs before hval0 hW hcnd _
  have hval : ∀ (j : Nat) t v, Try.f7.params[j]? = some t → args[j]? = some v → Value.okWide Try.prog W .any base t v := hval0
  have hW' := hW
  obtain ⟨p, q, hA0, hV, rfl, hfz, hnd⟩ := hW
  have hA : DataW.TrodAll enc Try.prog W 0 (fun _ => true) true Try.f7.params.toList args.toList ds p := hA0
  rw [Try.params7] at hA hval
  obtain ⟨v0, vs0, d0, ds0, p0, q0, hargs, rfl, rfl, h0, r0⟩ := trodAll_cons hA
  obtain ⟨v1, vs1, d1, ds1, p1, q1, rfl, rfl, rfl, h1, r1⟩ := trodAll_cons r0
  obtain ⟨rfl, rfl, rfl⟩ := trodAll_nil r1
  obtain rfl : args = #[v0, v1] := by cases args; simp_all
  obtain ⟨rfl, rfl⟩ := trodVars_none hV
  have k0 := h0
  have lt0 : ∀ x ∈ p0, x.block < W.heap.size := by obtain ⟨m, hm⟩ := k0; exact DataW.trod_lt m _ _ _ hm
  obtain ⟨c00, c01, y00, y01, n0, rfl, rfl, rfl, f00, f01⟩ := open_agg2 Try.underlying39 (by kernel_rfl) (by kernel_rfl) (hval 0 39 v0 rfl rfl) h0
  obtain ⟨xs0, hx0, zx0⟩ := affs_cell Try.underlying36 Try.underlying166 (by kernel_rfl) (by kernel_rfl) Try.underlying9 Try.underlying4 Try.underlying9 Try.underlying9 Try.underlying9 f00
  obtain ⟨ss0, hs0, zs0⟩ := stms_cell Try.underlying37 Try.underlying168 (by kernel_rfl) (by kernel_rfl) Try.underlying9 Try.underlying25 Try.underlying9 (by kernel_rfl) f01
  have k1 := h1
  have lt1 : ∀ x ∈ p1, x.block < W.heap.size := by obtain ⟨m, hm⟩ := k1; exact DataW.trod_lt m _ _ _ hm
  obtain ⟨a1, rfl, rfl, rfl, w1⟩ := open_string Try.underlying9 (hval 1 9 v1 rfl rfl) h1
  clear hA0 hval0
  refine (FnExactDerivationsOf_walk W xs0 ss0 _ _ ⟨hx0, hs0⟩ zx0 zs0 a1 w1).mono fun e W' ⟨he, bel⟩ => ?_
  subst he
  exact ⟨_, rfl, _, _, _, [], _, [], hW', trodAll_mk1 (shut_bool Try.underlying4 _), (trodAll_cons_mk (Below.trod prog_laid (by kernel_rfl) (of_decide_eq_true (by kernel_rfl)) k0 bel lt0) (trodAll_cons_mk (Below.trod prog_laid (by kernel_rfl) (of_decide_eq_true (by kernel_rfl)) k1 bel lt1) trodAll_mk0)), rfl, bel.frame _, fun h => by cases h⟩

theorem FnExactDerivationsOf_holds : Rows.FnExactDerivationsOfSaid :=
  OpenClaim.holds_of_wide 7 Try.f7 rfl rfl rfl rfl rfl rfl rfl ⟨rfl, rfl, rfl, rfl, rfl⟩ rfl rfl rfl rfl rfl (by kernel_rfl) Try.func7 (by kernel_rfl)
    (of_decide_eq_true (by kernel_rfl)) (by unfold Func.isWrapper; rw [if_neg (of_decide_eq_false (by kernel_rfl))]; exact ⟨rfl, rfl⟩)
    (fun os started H enc _ => FnExactDerivationsOf_lifted os started H enc)
#print axioms FnExactDerivationsOf_holds
end Go.Proofs.Ytilagppmljpclaa
