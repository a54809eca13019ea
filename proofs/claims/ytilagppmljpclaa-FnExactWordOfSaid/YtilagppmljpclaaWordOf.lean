/-
  The law of WordOf is true of every grammar and every derivation, valid or not: the program's answer is the model's, and nothing is changed.
-/
import Derived.Test.YtilagppmljpclaaIA
import Derived.Test.YtilagppmljpclaaI4
import Derived.Deep.RegionHeld3
namespace Go.Proofs.Ytilagppmljpclaa
open Go.ChangeShapes Go.WideShapes Go.ChangeAt Go.RowKit Go.Joins Go.Deep
open Go.ChangeMaps (open_string shut_string)

theorem wtoG_on {va vs : Value} {xs : List Aff} {ss : List Stm} (w0 W : World) (hb : Below w0.heap.size w0 W) (h : Gram w0 va vs xs ss) (hs : Small xs ss) :
    Calls Try.prog 23 #[.agg #[va, vs]] W fun e w' => ∃ a s, e = .returned (.agg #[.slice a xs.length xs.length, .slice s ss.length ss.length]) ∧ Gram w' (.slice a xs.length xs.length) (.slice s ss.length ss.length) xs ss ∧ Below w0.heap.size w0 w' ∧ Below W.heap.size W w' :=
  (toGrammar_any W (h.below hb) hs).mono fun _ _ ⟨a, s, h1, h2, h3⟩ => ⟨a, s, h1, h2, hb.trans (h3.mono hb.size), h3⟩
theorem toD_on {u : Value} {n : ByteArray} {us : List ByteArray} (w0 W : World) (hb : Below w0.heap.size w0 W) (h : Strs w0 u us) (hn : us.length ≤ 1048576) :
    Calls Try.prog 24 #[.agg #[.string n, u]] W fun e w' => ∃ a cap, e = .returned (.agg #[.string n, .slice a us.length cap]) ∧ Strs w' (.slice a us.length cap) us ∧ Below w0.heap.size w0 w' ∧ Below W.heap.size W w' :=
  (toDer_any n us W (h.below hb) hn).mono fun _ _ ⟨a, c, h1, h2, h3⟩ => ⟨a, c, h1, h2.strs, hb.trans (h3.mono hb.size), h3⟩
theorem specWord_on {va vs v : Value} {xs : List Aff} {ss : List Stm} {n : ByteArray} {us : List ByteArray} {o : ByteArray} {c : Int} (w0 W : World) (hb : Below w0.heap.size w0 W) (h : wordOut xs ss n us = (o, c)) (hg : Gram W va vs xs ss) (hx : ∀ x ∈ xs, AffFine x) (hs : ∀ x ∈ ss, StmFine x) (hu : Strs W v us) :
    Calls Try.prog 22 #[.agg #[va, vs], .agg #[.string n, v]] W fun e w' => e = .returned (.tuple #[.string o, .int .i64 c]) ∧ Below w0.heap.size w0 w' :=
  (specWordOf_any W hg hx hs hu).mono fun _ _ ⟨h1, h2⟩ => ⟨by rw [h1, h]; rfl, hb.trans (h2.mono hb.size)⟩
theorem weqG_on {va vb vs vt : Value} {xs : List Aff} {ss : List Stm} (w0 W : World) (hb : Below w0.heap.size w0 W) (hx : Gram W va vs xs ss) (hy : Gram W vb vt xs ss) :
    Calls Try.prog 26 #[.agg #[va, vs], .agg #[vb, vt]] W fun e w' => e = .returned (.bool true) ∧ Below w0.heap.size w0 w' :=
  (eqGrammar_same W hx hy).mono fun _ _ ⟨h1, h2⟩ => ⟨h1, hb.trans (h2.mono hb.size)⟩
theorem eqD_on {u v : Value} {n : ByteArray} {us : List ByteArray} (w0 W : World) (hb : Below w0.heap.size w0 W) (hu : Strs W u us) (hv : Strs W v us) :
    Calls Try.prog 27 #[.agg #[.string n, u], .agg #[.string n, v]] W fun e w' => e = .returned (.bool true) ∧ Below w0.heap.size w0 w' :=
  (eqDer_same n us W hu hv).mono fun _ _ ⟨h1, h2⟩ => ⟨h1, hb.trans (h2.mono hb.size)⟩
/-- What the cells of two records of two hold. -/
def TwoTwos (b1 b2 : Nat) (x1 y1 x2 y2 : Value) (w : World) : Prop :=
  (w.cell? ⟨b1, 0, none⟩ = some x1 ∧ w.cell? ⟨b1, 1, none⟩ = some y1) ∧ (w.cell? ⟨b2, 0, none⟩ = some x2 ∧ w.cell? ⟨b2, 1, none⟩ = some y2)
theorem twoTwos {b1 b2 : Nat} {t1 t2 : TypeId} {x1 y1 x2 y2 : Value} {w w' : World} (p1 : Blk w b1 t1 #[x1, y1]) (p2 : Blk w b2 t2 #[x2, y2]) (hb : Below w.heap.size w w') : TwoTwos b1 b2 x1 y1 x2 y2 w' := by
  have q1 := (p1.kept hb p1.lt).cells
  have q2 := (p2.kept hb p2.lt).cells
  exact ⟨⟨q1 0, q1 1⟩, ⟨q2 0, q2 1⟩⟩

set_option maxRecDepth 100000 in
set_option maxHeartbeats 2000000 in
theorem FnExactWordOf_walk (W : World) (xs : List Aff) (ss : List Stm) (va vs : Value) (hg : Gram W va vs xs ss) (hx : ∀ x ∈ xs, AffFine x) (hs : ∀ x ∈ ss, StmFine x)
    (st : ByteArray) (us : List ByteArray) (vd : Value) (hh : Strs W vd us) (hst : st.size ≤ maxLen) (hz : ∀ s ∈ us, s.size ≤ maxLen) :
    Calls Try.prog 6 #[.agg #[va, vs], .agg #[.string st, vd]] W fun e w' => e = .returned (.bool true) ∧ Below W.heap.size W w' := by
  have hB0 := ((Below.refl W.heap.size W).alloc (Nat.le_refl _) (.cells #[va, vs] 39)).alloc (by simp) (.cells #[.string st, vd] 41)
  have HG := Shh.mk hg
  have HH := Shh.mk hh
  have p0 := (Blk.made W 39 #[va, vs]).alloc (.cells #[.string st, vd] 41)
  have p1 := Blk.made (W.alloc (.cells #[va, vs] 39)) 41 #[.string st, vd]
  rw [World.size_alloc] at p1
  obtain ⟨⟨aa, ac, rfl, -⟩, ⟨sa, sc, rfl, -⟩⟩ := hg
  obtain ⟨ba, bc, rfl, -⟩ := hh
  have P0 := Shh.mk p0
  have P1 := Shh.mk p1
  clear p0 p1
  by_cases hsz : (1048576 : Int) < ((gramW xs ss : Nat) : Int)
  · have HS := hid (szN_no hsz)
    clear hsz
    go_enter Try.func6, Try.ntmps6
    go_wp2_with fail
    refine (szGrammar_any xs ss 1048576 _ (HG.out.below hB0).affs (HG.out.below hB0).stms hx hs (by omega) (by omega)).mono ?_
    rw [HS.out]
    rintro e w1 ⟨rfl, hb1⟩
    go_wp2
    go_ret
    exact ⟨rfl, hB0.trans (hb1.mono hB0.size)⟩
  · have HS := hid (szN_yes hsz)
    have hsm : Small xs ss := small_of (by omega)
    have hge : ¬ (1048576 : Int) - ((gramW xs ss : Nat) : Int) < 0 := by omega
    by_cases hsz2 : (1048576 : Int) - ((gramW xs ss : Nat) : Int) < ((stmW ⟨st, us⟩ : Nat) : Int)
    · have HS2 := hid (szN_no hsz2)
      clear hsz2
      go_enter Try.func6, Try.ntmps6
      go_wp2_with fail
      refine (szGrammar_any xs ss 1048576 _ (HG.out.below hB0).affs (HG.out.below hB0).stms hx hs (by omega) (by omega)).mono ?_
      rw [HS.out]
      rintro e w1 ⟨rfl, hb1⟩
      have hB1 := hB0.trans (hb1.mono hB0.size)
      have c1 := (P1.out.kept hb1 P1.out.lt).cells
      go_wp2_with fail
      refine (szDer_any st us _ _ (HH.out.below hB1) hst hz (by omega) (by omega)).mono ?_
      rw [HS2.out]
      rintro e w2 ⟨rfl, hb2⟩
      go_wp2
      go_ret
      exact ⟨rfl, hB1.trans (hb2.mono hB1.size)⟩
    · have HS2 := hid (szN_yes hsz2)
      have hsm2 : us.length ≤ 1048576 := by have := strsW_len us; have h9 : stmW ⟨st, us⟩ = st.size + strsW us := rfl; omega
      have hge2 : ¬ (1048576 : Int) - ((gramW xs ss : Nat) : Int) - ((stmW ⟨st, us⟩ : Nat) : Int) < 0 := by omega
      obtain ⟨t, htt⟩ : ∃ t, wordOut xs ss st us = t := ⟨_, rfl⟩
      obtain ⟨o, c⟩ := t
      have sX : (o.toList != o.toList) = false := by simp
      have HT := Shh.mk htt
      have SM := Shh.mk hsm
      have SM2 := Shh.mk hsm2
      clear hsz hsz2 htt hsm hsm2
      go_enter Try.func6, Try.ntmps6
      go_wp2_with fail
      refine (szGrammar_any xs ss 1048576 _ (HG.out.below hB0).affs (HG.out.below hB0).stms hx hs (by omega) (by omega)).mono ?_
      rw [HS.out]
      rintro e w1 ⟨rfl, hb1⟩
      have hB1 := hB0.trans (hb1.mono hB0.size)
      have q1 := P1.out.kept hb1 P1.out.lt
      have q0 := P0.out.kept hb1 P0.out.lt
      have c1 := q1.cells
      go_wp2_with fail
      refine (szDer_any st us _ _ (HH.out.below hB1) hst hz (by omega) (by omega)).mono ?_
      rw [HS2.out]
      rintro e w2 ⟨rfl, hb2⟩
      have hB2 := hB1.trans (hb2.mono hB1.size)
      have Q1 := Shh.mk (q1.kept hb2 q1.lt)
      have Q0 := Shh.mk (q0.kept hb2 q0.lt)
      have HB2 := Shh.mk hB2
      have GA := Shh.mk (HG.out.below hB2)
      have GB := Shh.mk (HH.out.below hB2)
      clear c1 q1 q0 hb1 hb2 hB0 hB1 hB2
      have c0 := Q0.out.cells
      have c1 := Q1.out.cells
      go_wp2
      have HK := Shh.mk (fun w' (hb : Below w2.heap.size w2 w') => twoTwos Q0.out Q1.out hb)
      unfold TwoTwos at HK
      go_region_held3 (fun w' => (w'.cell? ⟨W.heap.size, 0, none⟩ = some (.slice aa xs.length ac) ∧ w'.cell? ⟨W.heap.size, 1, none⟩ = some (.slice sa ss.length sc)) ∧
          (w'.cell? ⟨W.heap.size + 1, 0, none⟩ = some (.string st) ∧ w'.cell? ⟨W.heap.size + 1, 1, none⟩ = some (.slice ba us.length bc)))
        (exact HK.out _ (by first | assumption | exact (Below.refl _ _).drew))
        (first
          | (go_at_call 23; with_reducible refine (wtoG_on w2 _ (by first | assumption | exact (Below.refl _ _).drew) GA.out SM.out).mono ?_; rintro e w3 ⟨a3, s3, rfl, hg3, hb3, hc3⟩)
          | (go_at_call 24; refine (toD_on w2 _ (by first | assumption | exact (Below.refl _ _).drew) GB.out SM2.out).mono ?_; rintro e w4 ⟨a4, k4, rfl, hg4, hb4, hc4⟩)
          | (go_at_call 22; refine (specWord_on w2 _ (by assumption) HT.out (by first | exact hg3 | exact hg3.below hc4) hx hs (by first | exact hg4 | exact hg4.below hc3)).mono ?_; rintro e w5 ⟨rfl, hb5⟩))
      all_goals
        have GA5 := GA.out.below hb5
        have HB5 := Shh.mk (HB2.out.trans (hb5.mono HB2.out.size))
        have GB5 := GB.out.below hb5
        have R0 := Q0.out.kept hb5 Q0.out.lt
        have R1 := Q1.out.kept hb5 Q1.out.lt
        clear HK c0 c1
        have c0 := R0.cells
        have c1 := R1.cells
        go_wp2_with fail
        refine (toGrammar_any _ GA5 SM.out).mono ?_
        rintro e w6 ⟨a6, s6, rfl, hg6, hb6⟩
        have HB6 := Shh.mk (HB5.out.trans (hb6.mono HB5.out.size))
        have X0 := Shh.mk (Blk.made w6 48 #[.slice a6 xs.length xs.length, .slice s6 ss.length ss.length])
        have S0 := Shh.mk ((R0.kept hb6 R0.lt).alloc (.cells #[.slice a6 xs.length xs.length, .slice s6 ss.length ss.length] 48))
        have S1 := Shh.mk ((R1.kept hb6 R1.lt).alloc (.cells #[.slice a6 xs.length xs.length, .slice s6 ss.length ss.length] 48))
        have GA6 := Shh.mk ((GA5.below hb6).alloc (.cells #[.slice a6 xs.length xs.length, .slice s6 ss.length ss.length] 48))
        have GB6 := Shh.mk ((GB5.below hb6).alloc (.cells #[.slice a6 xs.length xs.length, .slice s6 ss.length ss.length] 48))
        have HB6' := Shh.mk (HB6.out.alloc HB6.out.size (.cells #[.slice a6 xs.length xs.length, .slice s6 ss.length ss.length] 48))
        have XG6 := Shh.mk (hg6.alloc (.cells #[.slice a6 xs.length xs.length, .slice s6 ss.length ss.length] 48))
        clear c0 c1 GA5 GB5 R0 R1 hg6 hb6
        have c1 := S1.out.cells
        go_wp2_with fail
        refine (toDer_any st us _ GB6.out SM2.out).mono ?_
        rintro e w7 ⟨a7, k7, rfl, hg7, hb7⟩
        have HB7 := Shh.mk ((HB6'.out.trans (hb7.mono HB6'.out.size)))
        have Y0 := Shh.mk (Blk.made w7 50 #[.string st, .slice a7 us.length k7])
        have X1 := Shh.mk ((X0.out.kept hb7 X0.out.lt).alloc (.cells #[.string st, .slice a7 us.length k7] 50))
        have T0 := Shh.mk ((S0.out.kept hb7 S0.out.lt).alloc (.cells #[.string st, .slice a7 us.length k7] 50))
        have T1 := Shh.mk ((S1.out.kept hb7 S1.out.lt).alloc (.cells #[.string st, .slice a7 us.length k7] 50))
        have GA7 := Shh.mk ((GA6.out.below hb7).alloc (.cells #[.string st, .slice a7 us.length k7] 50))
        have GB7 := Shh.mk ((GB6.out.below hb7).alloc (.cells #[.string st, .slice a7 us.length k7] 50))
        have HB7' := Shh.mk (HB7.out.alloc HB7.out.size (.cells #[.string st, .slice a7 us.length k7] 50))
        have XG7 := Shh.mk ((XG6.out.below hb7).alloc (.cells #[.string st, .slice a7 us.length k7] 50))
        have YG7 := Shh.mk (hg7.strs.alloc (.cells #[.string st, .slice a7 us.length k7] 50))
        clear c1 hg7 hb7 S0 S1 X0 GA6 GB6
        have cx := X1.out.cells
        go_wp2_with fail
        refine (implWordOf_any _ XG7.out hx hs YG7.out).mono ?_
        rw [HT.out]
        rintro e w8 ⟨rfl, hb8⟩
        unfold retX
        have HB8 := Shh.mk (HB7'.out.trans (hb8.mono HB7'.out.size))
        have X8 := Shh.mk (X1.out.kept hb8 X1.out.lt)
        have Y8 := Shh.mk (Y0.out.kept hb8 Y0.out.lt)
        have U0 := Shh.mk (T0.out.kept hb8 T0.out.lt)
        have U1 := Shh.mk (T1.out.kept hb8 T1.out.lt)
        have GA8 := Shh.mk (GA7.out.below hb8)
        have GB8 := Shh.mk (GB7.out.below hb8)
        have XG8 := Shh.mk (XG7.out.below hb8)
        have YG8 := Shh.mk (YG7.out.below hb8)
        clear cx hb8 X1 Y0 T0 T1 GA7 GB7 XG7 YG7
        go_wp2
        have HK := Shh.mk (fun w' (hb : Below w8.heap.size w8 w') => twoTwos X8.out U0.out hb)
        unfold TwoTwos at HK
        go_region_held3 (fun w' => (w'.cell? ⟨w6.heap.size, 0, none⟩ = some (.slice a6 xs.length xs.length) ∧ w'.cell? ⟨w6.heap.size, 1, none⟩ = some (.slice s6 ss.length ss.length)) ∧
            (w'.cell? ⟨W.heap.size, 0, none⟩ = some (.slice aa xs.length ac) ∧ w'.cell? ⟨W.heap.size, 1, none⟩ = some (.slice sa ss.length sc)))
          (exact HK.out _ (by first | assumption | exact (Below.refl _ _).drew))
          (first
            | (go_at_call 23; with_reducible refine (wtoG_on w8 _ (by first | assumption | exact (Below.refl _ _).drew) GA8.out SM.out).mono ?_; rintro e w9 ⟨a9, s9, rfl, hg9, hb9, hc9⟩)
            | (go_at_call 26; refine (weqG_on w8 _ (by assumption) (XG8.out.below (by assumption)) hg9).mono ?_; rintro e w10 ⟨rfl, hb10⟩))
        all_goals
          clear HK
          have GB9 := Shh.mk (GB8.out.below hb10)
          have YG9 := Shh.mk (YG8.out.below hb10)
          have HB9 := Shh.mk (HB8.out.trans (hb10.mono HB8.out.size))
          have Y9 := Shh.mk (Y8.out.kept hb10 Y8.out.lt)
          have U9 := Shh.mk (U1.out.kept hb10 U1.out.lt)
          go_wp2
          have HK := Shh.mk (fun w' (hb : Below w10.heap.size w10 w') => twoTwos Y9.out U9.out hb)
          unfold TwoTwos at HK
          go_region_held3 (fun w' => (w'.cell? ⟨w7.heap.size, 0, none⟩ = some (.string st) ∧ w'.cell? ⟨w7.heap.size, 1, none⟩ = some (.slice a7 us.length k7)) ∧
              (w'.cell? ⟨W.heap.size + 1, 0, none⟩ = some (.string st) ∧ w'.cell? ⟨W.heap.size + 1, 1, none⟩ = some (.slice ba us.length bc)))
            (exact HK.out _ (by first | assumption | exact (Below.refl _ _).drew))
            (first
              | (go_at_call 24; refine (toD_on w10 _ (by first | assumption | exact (Below.refl _ _).drew) GB9.out SM2.out).mono ?_; rintro e w11 ⟨a11, k11, rfl, hg11, hb11, hc11⟩)
              | (go_at_call 27; refine (eqD_on w10 _ (by assumption) (YG9.out.below (by assumption)) hg11).mono ?_; rintro e w12 ⟨rfl, hb12⟩))
          all_goals
            clear HK
            go_wp2
            go_ret
            exact ⟨rfl, HB9.out.trans (hb12.mono HB9.out.size)⟩

set_option maxRecDepth 100000 in
theorem FnExactWordOf_lifted (os : Os) (started : os.Started) (H : Type) (enc : TypeId × Value → H) :
    ReturnsInHanded {} Try.checked os 6 .any (Rows.fnExactWordOfSpec.pre6 enc Try.prog Try.f6 Rows.fnExactWordOfRow.domain false) (Rows.fnExactWordOfSpec.post enc Try.prog Try.f6 false true false false) := by
  refine returnsInHanded_of_change (C := Try.checked) prog_own started (by kernel_rfl) Try.func6
    (ChangeSpec.witness6 (enc := enc) (C := Try.checked) false ⟨#[], #[.agg #[.slice none 0 0, .slice none 0 0], .agg #[.string ByteArray.empty, .slice none 0 0]], []⟩ 8 (by kernel_rfl) (by kernel_rfl) (by kernel_rfl) (by kernel_rfl)) ?_
  intro W base args ds gs before hval0 hW hcnd _
  have hval : ∀ (j : Nat) t v, Try.f6.params[j]? = some t → args[j]? = some v → Value.okWide Try.prog W .any base t v := hval0
  have hW' := hW
  obtain ⟨p, q, hA0, hV, rfl, hfz, hnd⟩ := hW
  have hA : DataW.TrodAll enc Try.prog W 0 (fun _ => true) true Try.f6.params.toList args.toList ds p := hA0
  rw [Try.params6] at hA hval
  obtain ⟨v0, vs0, d0, ds0, p0, q0, hargs, rfl, rfl, h0, r0⟩ := trodAll_cons hA
  obtain ⟨v1, vs1, d1, ds1, p1, q1, rfl, rfl, rfl, h1, r1⟩ := trodAll_cons r0
  obtain ⟨rfl, rfl, rfl⟩ := trodAll_nil r1
  obtain rfl : args = #[v0, v1] := by cases args; simp_all
  obtain ⟨rfl, rfl⟩ := trodVars_none hV
  have k0 := h0
  have lt0 : ∀ x ∈ p0, x.block < W.heap.size := by obtain ⟨m, hm⟩ := k0; exact DataW.trod_lt m _ _ _ hm
  obtain ⟨c00, c01, y00, y01, n0, rfl, rfl, rfl, f00, f01⟩ := open_agg2 Try.underlying39 (by kernel_rfl) (by kernel_rfl) (hval 0 39 v0 rfl rfl) h0
  obtain ⟨xs0, hx0, zx0⟩ := affs_cell Try.underlying36 Try.underlying166 (by kernel_rfl) (by kernel_rfl) Try.underlying9 Try.underlying4 Try.underlying9 Try.underlying9 Try.underlying9 f00
  obtain ⟨ss0, hs0, zs0⟩ := stms_cell Try.underlying37 Try.underlying168 (by kernel_rfl) (by kernel_rfl) Try.underlying9 Try.underlying25 Try.underlying9 (by kernel_rfl) f01
  have k1 := h1
  have lt1 : ∀ x ∈ p1, x.block < W.heap.size := by obtain ⟨m, hm⟩ := k1; exact DataW.trod_lt m _ _ _ hm
  obtain ⟨c10, c11, y10, y11, n1, rfl, rfl, rfl, f10, f11⟩ := open_agg2 Try.underlying41 (by kernel_rfl) (by kernel_rfl) (hval 1 41 v1 rfl rfl) h1
  obtain ⟨st1, rfl, _, ws1⟩ := string_cell Try.underlying9 f10
  obtain ⟨us1, hu1, zu1⟩ := strs_cell Try.underlying25 Try.underlying9 (by kernel_rfl) f11
  clear hA0 hval0
  refine (FnExactWordOf_walk W xs0 ss0 _ _ ⟨hx0, hs0⟩ zx0 zs0 st1 us1 _ hu1 ws1 zu1).mono fun e W' ⟨he, bel⟩ => ?_
  subst he
  exact ⟨_, rfl, _, _, _, [], _, [], hW', trodAll_mk1 (shut_bool Try.underlying4 _), (trodAll_cons_mk (Below.trod prog_laid (by kernel_rfl) (of_decide_eq_true (by kernel_rfl)) k0 bel lt0) (trodAll_cons_mk (Below.trod prog_laid (by kernel_rfl) (of_decide_eq_true (by kernel_rfl)) k1 bel lt1) trodAll_mk0)), rfl, bel.frame _, fun h => by cases h⟩

theorem FnExactWordOf_holds : Rows.FnExactWordOfSaid :=
  OpenClaim.holds_of_wide 6 Try.f6 rfl rfl rfl rfl rfl rfl rfl ⟨rfl, rfl, rfl, rfl, rfl⟩ rfl rfl rfl rfl rfl (by kernel_rfl) Try.func6 (by kernel_rfl)
    (of_decide_eq_true (by kernel_rfl)) (by unfold Func.isWrapper; rw [if_neg (of_decide_eq_false (by kernel_rfl))]; exact ⟨rfl, rfl⟩)
    (fun os started H enc _ => FnExactWordOf_lifted os started H enc)
#print axioms FnExactWordOf_holds
end Go.Proofs.Ytilagppmljpclaa
