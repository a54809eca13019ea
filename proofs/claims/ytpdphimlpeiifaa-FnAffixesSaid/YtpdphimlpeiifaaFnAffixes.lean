/-
  The law of affixes is true of all bytes from which an affix and a word are drawn: what an affix makes of a word can be undone, and what is undone can be made again.
-/
import Derived.Test.YtpdphimlpeiifaaF13
import Derived.Test.YtpdphimlpeiifaaF6
import Derived.Deep.RegionWith
import Derived.Deep.RegionHeld3
namespace Go.Proofs.Ytpdphimlpeiifaa
open Go.ChangeShapes Go.WideShapes Go.ChangeAt Go.RowKit Go.Joins Go.Deep
open Go.ChangeMaps (open_string shut_string)

set_option maxHeartbeats 400000 in
theorem f6big_any (w : World) (v : Value) (zs : List Int) (hz : Ints .u8 w v zs) :
    Calls Try.prog 14 #[v] w fun e w' => e = .returned (.bool (decide (4096 < zs.length))) ∧ w = w' := by
  have hl := hz.len
  obtain ⟨a, cap, rfl, -⟩ := hz
  by_cases h : 4096 < zs.length
  · have h1 : (4096 : Int) < (zs.length : Int) := by omega
    have HR := hid (decide_eq_true h)
    go_enter Try.func14, Try.ntmps14
    go_wp2
    go_ret
    exact ⟨ret_bool HR.out.symm, rfl⟩
  · have h1 : ¬ (4096 : Int) < (zs.length : Int) := by omega
    have HR := hid (decide_eq_false h)
    go_enter Try.func14, Try.ntmps14
    go_wp2
    go_ret
    exact ⟨rfl, rfl⟩

/-- All that the law of affixes asks of an affix and a word. -/
structure AffLaw (f : Bool) (n w s a word : ByteArray) (u p : ByteArray × Int) (m : Bool) : Prop where
  undo : undoOut f n w s a word = u
  make : applyOut f n w s a word = p
  meets : matchB f n w s a word = m
  again : u.2 = 0 → applyOut f n w s a u.1 = (word, 0)
  back : p.2 = 0 → undoOut f n w s a p.1 = (word, 0) ∧ m = true
  none : p.2 = 3 → m = false
theorem affLaw_of (f : Bool) (n w s a word : ByteArray) : ∃ u p m, AffLaw f n w s a word u p m := by
  refine ⟨_, _, _, rfl, rfl, rfl, fun h => ?_, fun h => ?_, fun h => apply_code h⟩
  · exact undo_apply (x := (undoOut f n w s a word).1) (Prod.ext rfl h)
  · exact apply_undo (y := (applyOut f n w s a word).1) (Prod.ext rfl h)
theorem out_size {f : Bool} {n w s a word r : ByteArray} {c : Int} (h : applyOut f n w s a word = (r, c)) (h1 : word.size ≤ 1000) (h2 : a.size ≤ 1000) : r.size ≤ 2000 := by
  cases h3 : affB n w s a
  · rw [applyOut_aff h3] at h
    obtain rfl := (Prod.mk.inj h).1
    show 0 ≤ _
    omega
  · cases h4 : longB word
    · rw [applyOut_long h3 h4] at h
      obtain rfl := (Prod.mk.inj h).1
      show 0 ≤ _
      omega
    · rw [applyOut_yes h3 h4] at h
      have := applyX_size h
      omega
theorem undo_size {f : Bool} {n w s a word r : ByteArray} {c : Int} (h : undoOut f n w s a word = (r, c)) (h1 : word.size ≤ 1000) (h2 : s.size ≤ 1000) : r.size ≤ 2000 := by
  cases h3 : affB n w s a
  · rw [undoOut_aff h3] at h
    obtain rfl := (Prod.mk.inj h).1
    show 0 ≤ _
    omega
  · cases h4 : longB word
    · rw [undoOut_long h3 h4] at h
      obtain rfl := (Prod.mk.inj h).1
      show 0 ≤ _
      omega
    · rw [undoOut_yes h3 h4] at h
      cases h5 : fitX f word a
      · rw [undoX_fit h5] at h
        obtain rfl := (Prod.mk.inj h).1
        show 0 ≤ _
        omega
      · have hsz := fitX_size h5
        cases h6 : (longB (joinX f (restX f word a.size) s) && matchX f w s (joinX f (restX f word a.size) s))
        · rw [undoX_no h5 h6] at h
          obtain rfl := (Prod.mk.inj h).1
          show 0 ≤ _
          omega
        · rw [undoX_yes h5 h6] at h
          obtain rfl := (Prod.mk.inj h).1
          rw [joinX_size, restX_size f word hsz]
          omega
section
variable {f : Bool} {n w s a word : ByteArray} {p : ByteArray × Int} {m : Bool}
theorem iApply (h : applyOut f n w s a word = p) (W : World) (hn : n.size ≤ maxLen) (hw : w.size ≤ maxLen) (hs : s.size ≤ maxLen) (ha : a.size ≤ maxLen) (hwd : word.size ≤ maxLen) :
    Calls Try.prog 18 #[.agg #[.string n, .bool f, .string w, .string s, .string a], .string word] W fun e w' => e = .returned (.tuple #[.string p.1, .int .i64 p.2]) ∧ Below W.heap.size W w' := by rw [← h]; exact implApplyAffix_any f n w s a word W hn hw hs ha hwd
theorem mApply (h : applyOut f n w s a word = p) (W : World) (hn : n.size ≤ maxLen) (hw : w.size ≤ maxLen) (hs : s.size ≤ maxLen) (ha : a.size ≤ maxLen) (hwd : word.size ≤ maxLen) :
    Calls Try.prog 19 #[.agg #[.string n, .bool f, .string w, .string s, .string a], .string word] W fun e w' => e = .returned (.tuple #[.string p.1, .int .i64 p.2]) ∧ Below W.heap.size W w' := by rw [← h]; exact specApplyAffix_any f n w s a word W hn hw hs ha hwd
theorem iUndo (h : undoOut f n w s a word = p) (W : World) (hn : n.size ≤ maxLen) (hw : w.size ≤ maxLen) (hs : s.size ≤ maxLen) (ha : a.size ≤ maxLen) (hwd : word.size ≤ maxLen) :
    Calls Try.prog 16 #[.agg #[.string n, .bool f, .string w, .string s, .string a], .string word] W fun e w' => e = .returned (.tuple #[.string p.1, .int .i64 p.2]) ∧ Below W.heap.size W w' := by rw [← h]; exact implUndoAffix_any f n w s a word W hn hw hs ha hwd
theorem mUndo (h : undoOut f n w s a word = p) (W : World) (hn : n.size ≤ maxLen) (hw : w.size ≤ maxLen) (hs : s.size ≤ maxLen) (ha : a.size ≤ maxLen) (hwd : word.size ≤ maxLen) :
    Calls Try.prog 17 #[.agg #[.string n, .bool f, .string w, .string s, .string a], .string word] W fun e w' => e = .returned (.tuple #[.string p.1, .int .i64 p.2]) ∧ Below W.heap.size W w' := by rw [← h]; exact specUndoAffix_any f n w s a word W hn hw hs ha hwd
/-- Calls in a region that draws: whatever world behind W0 they are made in. -/
theorem iMatchD (h : matchB f n w s a word = m) (W0 W : World) (hb : Below W0.heap.size W0 W) (hn : n.size ≤ maxLen) (hw : w.size ≤ maxLen) (hs : s.size ≤ maxLen) (ha : a.size ≤ maxLen) (hwd : word.size ≤ maxLen) :
    Calls Try.prog 20 #[.agg #[.string n, .bool f, .string w, .string s, .string a], .string word] W fun e w' => e = .returned (.bool m) ∧ Below W0.heap.size W0 w' := by
  rw [← h]
  exact (implMatchesAffix_any f n w s a word W hn hw hs ha hwd).mono fun e w' ⟨h1, h2⟩ => ⟨h1, hb.trans (h2.mono hb.size)⟩
theorem mMatchD (h : matchB f n w s a word = m) (W0 W : World) (hb : Below W0.heap.size W0 W) (hn : n.size ≤ maxLen) (hw : w.size ≤ maxLen) (hs : s.size ≤ maxLen) (ha : a.size ≤ maxLen) (hwd : word.size ≤ maxLen) :
    Calls Try.prog 21 #[.agg #[.string n, .bool f, .string w, .string s, .string a], .string word] W fun e w' => e = .returned (.bool m) ∧ Below W0.heap.size W0 w' := by
  rw [← h]
  exact (specMatchesAffix_any f n w s a word W hn hw hs ha hwd).mono fun e w' ⟨h1, h2⟩ => ⟨h1, hb.trans (h2.mono hb.size)⟩
theorem iValidD (h : affB n w s a = m) (W0 W : World) (hb : Below W0.heap.size W0 W) (hn : n.size ≤ maxLen) (hw : w.size ≤ maxLen) (hs : s.size ≤ maxLen) (ha : a.size ≤ maxLen) :
    Calls Try.prog 22 #[.agg #[.string n, .bool f, .string w, .string s, .string a]] W fun e w' => e = .returned (.bool m) ∧ Below W0.heap.size W0 w' := by
  rw [← h]
  exact (implValidAffix_any f n w s a W hn hw hs ha).mono fun e w' ⟨h1, h2⟩ => ⟨h1, hb.trans (h2.mono hb.size)⟩
theorem mValidD (h : affB n w s a = m) (W0 W : World) (hb : Below W0.heap.size W0 W) (hn : n.size ≤ maxLen) (hw : w.size ≤ maxLen) (hs : s.size ≤ maxLen) (ha : a.size ≤ maxLen) :
    Calls Try.prog 23 #[.agg #[.string n, .bool f, .string w, .string s, .string a]] W fun e w' => e = .returned (.bool m) ∧ Below W0.heap.size W0 w' := by
  rw [← h]
  exact (specValidAffix_any f n w s a W hn hw hs ha).mono fun e w' ⟨h1, h2⟩ => ⟨h1, hb.trans (h2.mono hb.size)⟩
end
/-- The affix's five cells. -/
def FiveAt (b : Nat) (f : Bool) (n w s a : ByteArray) (W : World) : Prop :=
  W.cell? ⟨b, 0, none⟩ = some (.string n) ∧ W.cell? ⟨b, 1, none⟩ = some (.bool f) ∧ W.cell? ⟨b, 2, none⟩ = some (.string w) ∧ W.cell? ⟨b, 3, none⟩ = some (.string s) ∧ W.cell? ⟨b, 4, none⟩ = some (.string a)
theorem fiveAt {b : Nat} {f : Bool} {n w s a : ByteArray} {W W' : World} (p : Blk W b 25 #[.string n, .bool f, .string w, .string s, .string a]) (hb : Below W.heap.size W W') : FiveAt b f n w s a W' := by
  have q := (p.kept hb p.lt).cells
  exact ⟨q 0, q 1, q 2, q 3, q 4⟩

set_option maxRecDepth 100000 in
set_option maxHeartbeats 4000000 in
theorem FnAffixes_walk (W : World) (v : Value) (zs : List Int) (hz : Ints .u8 W v zs) :
    Calls Try.prog 3 #[v] W fun e w' => e = .returned (.bool true) ∧ Below W.heap.size W w' := by
  have HZ := Shh.mk hz
  clear hz
  by_cases hlong : 4096 < zs.length
  · have HL := hid (decide_eq_true hlong)
    clear hlong
    go_enter Try.func3, Try.ntmps3
    go_wp2_with fail
    refine (f6big_any W v zs HZ.out).mono ?_
    rw [HL.out]
    rintro e w1 ⟨rfl, rfl⟩
    go_wp2
    go_ret
    exact ⟨rfl, Below.refl _ _⟩
  · have HL := hid (decide_eq_false hlong)
    clear hlong
    go_enter Try.func3, Try.ntmps3
    go_wp2_with fail
    refine (f6big_any W v zs HZ.out).mono ?_
    rw [HL.out]
    rintro e w1 ⟨rfl, rfl⟩
    go_wp2_with fail
    refine (drawUndo_any W v zs HZ.out).mono ?_
    rintro e w1 ⟨f, n, w, s, a, word, ⟨zn, zw, zs2, za⟩, zwd, rfl, hB⟩
    have hB1 := hB.alloc hB.size (.cells #[.string n, .bool f, .string w, .string s, .string a] 25)
    have P1 := Shh.mk (Blk.made w1 25 #[.string n, .bool f, .string w, .string s, .string a])
    have mn : n.size ≤ maxLen := by unfold maxLen; omega
    have mw : w.size ≤ maxLen := by unfold maxLen; omega
    have ms : s.size ≤ maxLen := by unfold maxLen; omega
    have ma : a.size ≤ maxLen := by unfold maxLen; omega
    have mwd : word.size ≤ maxLen := by unfold maxLen; omega
    obtain ⟨⟨x, c1⟩, ⟨y, c2⟩, m, hA⟩ := affLaw_of f n w s a word
    obtain ⟨q, hq⟩ : ∃ q, affB n w s a = q := ⟨_, rfl⟩
    have mx : x.size ≤ maxLen := by have := undo_size hA.undo (by omega) (by omega); unfold maxLen; omega
    have my : y.size ≤ maxLen := by have := out_size hA.make (by omega) (by omega); unfold maxLen; omega
    have HA := Shh.mk hA
    have HQ := Shh.mk hq
    clear hA hq hB
    have sx : (x.toList != x.toList) = false := by simp
    have sy : (y.toList != y.toList) = false := by simp
    have sw : (word.toList != word.toList) = false := by simp
    go_wp2_with fail
    refine (iUndo HA.out.undo _ mn mw ms ma mwd).mono ?_
    rintro e w2 ⟨rfl, hb2⟩
    have P2 := Shh.mk (P1.out.kept hb2 P1.out.lt)
    have hB2 := hB1.trans (hb2.mono hB1.size)
    have k2 := P2.out.cells
    go_wp2_with fail
    refine (mUndo HA.out.undo _ mn mw ms ma mwd).mono ?_
    rintro e w3 ⟨rfl, hb3⟩
    have P3 := Shh.mk (P2.out.kept hb3 P2.out.lt)
    have hB3 := hB2.trans (hb3.mono hB2.size)
    clear k2
    have k3 := P3.out.cells
    go_wp2_with fail
    refine (iApply HA.out.make _ mn mw ms ma mwd).mono ?_
    rintro e w4 ⟨rfl, hb4⟩
    have P4 := Shh.mk (P3.out.kept hb4 P3.out.lt)
    have hB4 := hB3.trans (hb4.mono hB3.size)
    clear k3
    have k4 := P4.out.cells
    go_wp2_with fail
    refine (mApply HA.out.make _ mn mw ms ma mwd).mono ?_
    rintro e w5 ⟨rfl, hb5⟩
    have P5 := Shh.mk (P4.out.kept hb5 P4.out.lt)
    have hB5 := Shh.mk (hB4.trans (hb5.mono hB4.size))
    clear k4 hB1 hB2 hB3 hB4 hb2 hb3 hb4 hb5 P1 P2 P3 P4
    go_wp2
    have HK := Shh.mk (fun w' (hb : Below w5.heap.size w5 w') => fiveAt P5.out hb)
    unfold FiveAt at HK
    go_region_held3 (fun w' => w'.cell? ⟨w1.heap.size, 0, none⟩ = some (.string n) ∧ w'.cell? ⟨w1.heap.size, 1, none⟩ = some (.bool f) ∧ w'.cell? ⟨w1.heap.size, 2, none⟩ = some (.string w) ∧ w'.cell? ⟨w1.heap.size, 3, none⟩ = some (.string s) ∧ w'.cell? ⟨w1.heap.size, 4, none⟩ = some (.string a))
      (exact HK.out _ (by first | assumption | exact (Below.refl _ _).drew))
      (first
        | (go_at_call 20; refine (iMatchD HA.out.meets w5 _ (by first | assumption | exact (Below.refl _ _).drew) mn mw ms ma mwd).mono ?_; rintro e w6 ⟨rfl, hb6⟩)
        | (go_at_call 21; refine (mMatchD HA.out.meets w5 _ (by first | assumption | exact (Below.refl _ _).drew) mn mw ms ma mwd).mono ?_; rintro e w6 ⟨rfl, hb6⟩)
        | (go_at_call 22; refine (iValidD HQ.out w5 _ (by first | assumption | exact (Below.refl _ _).drew) mn mw ms ma).mono ?_; rintro e w6 ⟨rfl, hb6⟩)
        | (go_at_call 23; refine (mValidD HQ.out w5 _ (by first | assumption | exact (Below.refl _ _).drew) mn mw ms ma).mono ?_; rintro e w6 ⟨rfl, hb6⟩))
    all_goals
      have P6 := Shh.mk (P5.out.kept hb6 P5.out.lt)
      have hB6 := hB5.out.trans (hb6.mono hB5.out.size)
      clear HK
      by_cases hc1 : c1 = 0
      · have hag := HA.out.again hc1
        subst hc1
        have HG := Shh.mk hag
        have kk := P6.out.cells
        clear hag
        go_wp2_with fail
        refine (iApply HG.out _ mn mw ms ma mx).mono ?_
        rintro e w7 ⟨rfl, hb7⟩
        have P7 := Shh.mk (P6.out.kept hb7 P6.out.lt)
        have hB7 := hB6.trans (hb7.mono hB6.size)
        clear kk
        by_cases hc2 : c2 = 0
        · have hbk := HA.out.back hc2
          obtain ⟨hu, hm⟩ := hbk
          subst hc2 hm
          have HU := Shh.mk hu
          clear hu
          have kk := P7.out.cells
          go_wp2_with fail
          refine (iUndo HU.out _ mn mw ms ma my).mono ?_
          rintro e w8 ⟨rfl, hb8⟩
          have P8 := Shh.mk (P7.out.kept hb8 P7.out.lt)
          have hB8 := hB7.trans (hb8.mono hB7.size)
          clear kk
          have kk := P8.out.cells
          go_wp2_with fail
          refine (matchI HA.out.meets _ mn mw ms ma mwd).mono ?_
          rintro e w9 ⟨rfl, hb9⟩
          have hB9 := hB8.trans (hb9.mono hB8.size)
          go_wp2
          go_ret
          exact ⟨rfl, hB9⟩
        · have hc2' : (c2 == 0) = false := beq_eq_false_iff_ne.2 hc2
          by_cases hc3 : c2 = 3
          · have hm := HA.out.none hc3
            subst hc3 hm
            clear hc2
            have kk := P7.out.cells
            go_wp2_with fail
            refine (matchI HA.out.meets _ mn mw ms ma mwd).mono ?_
            rintro e w9 ⟨rfl, hb9⟩
            have hB9 := hB7.trans (hb9.mono hB7.size)
            go_wp2
            go_ret
            exact ⟨rfl, hB9⟩
          · have hc3' : (c2 != 3) = true := by simpa using hc3
            have hc3'' : (c2 == 3) = false := beq_eq_false_iff_ne.2 hc3
            clear hc2 hc3
            go_wp2
            go_ret
            exact ⟨rfl, hB7⟩
      · have hc1' : (c1 == 0) = false := beq_eq_false_iff_ne.2 hc1
        clear hc1
        by_cases hc2 : c2 = 0
        · have hbk := HA.out.back hc2
          obtain ⟨hu, hm⟩ := hbk
          subst hc2 hm
          have HU := Shh.mk hu
          clear hu
          have kk := P6.out.cells
          go_wp2_with fail
          refine (iUndo HU.out _ mn mw ms ma my).mono ?_
          rintro e w8 ⟨rfl, hb8⟩
          have P8 := Shh.mk (P6.out.kept hb8 P6.out.lt)
          have hB8 := hB6.trans (hb8.mono hB6.size)
          clear kk
          have kk := P8.out.cells
          go_wp2_with fail
          refine (matchI HA.out.meets _ mn mw ms ma mwd).mono ?_
          rintro e w9 ⟨rfl, hb9⟩
          have hB9 := hB8.trans (hb9.mono hB8.size)
          go_wp2
          go_ret
          exact ⟨rfl, hB9⟩
        · have hc2' : (c2 == 0) = false := beq_eq_false_iff_ne.2 hc2
          by_cases hc3 : c2 = 3
          · have hm := HA.out.none hc3
            subst hc3 hm
            clear hc2
            have kk := P6.out.cells
            go_wp2_with fail
            refine (matchI HA.out.meets _ mn mw ms ma mwd).mono ?_
            rintro e w9 ⟨rfl, hb9⟩
            have hB9 := hB6.trans (hb9.mono hB6.size)
            go_wp2
            go_ret
            exact ⟨rfl, hB9⟩
          · have hc3' : (c2 != 3) = true := by simpa using hc3
            have hc3'' : (c2 == 3) = false := beq_eq_false_iff_ne.2 hc3
            clear hc2 hc3
            go_wp2
            go_ret
            exact ⟨rfl, hB6⟩

set_option maxRecDepth 100000 in
theorem FnAffixes_lifted (os : Os) (started : os.Started) (H : Type) (enc : TypeId × Value → H) :
    ReturnsInHanded {} Try.checked os 3 .any (Rows.fnAffixesSpec.pre6 enc Try.prog Try.f3 Rows.fnAffixesRow.domain false) (Rows.fnAffixesSpec.post enc Try.prog Try.f3 false true false false) := by
  refine returnsInHanded_of_change (C := Try.checked) prog_own started (by kernel_rfl) Try.func3
    (ChangeSpec.witness6 (enc := enc) (C := Try.checked) false ⟨#[], #[.slice none 0 0], []⟩ 8 (by kernel_rfl) (by kernel_rfl) (by kernel_rfl) (by kernel_rfl)) ?_
  intro W base args ds gs before hval0 hW hcnd _
  have hval : ∀ (j : Nat) t v, Try.f3.params[j]? = some t → args[j]? = some v → Value.okWide Try.prog W .any base t v := hval0
  have hW' := hW
  obtain ⟨p, q, hA0, hV, rfl, hfz, hnd⟩ := hW
  have hA : DataW.TrodAll enc Try.prog W 0 (fun _ => true) true Try.f3.params.toList args.toList ds p := hA0
  rw [Try.params3] at hA hval
  obtain ⟨v0, vs0, d0, ds0, p0, q0, hargs, rfl, rfl, h0, r0⟩ := trodAll_cons hA
  obtain ⟨rfl, rfl, rfl⟩ := trodAll_nil r0
  obtain rfl : args = #[v0] := by cases args; simp_all
  obtain ⟨rfl, rfl⟩ := trodVars_none hV
  have k0 := h0
  have lt0 : ∀ x ∈ p0, x.block < W.heap.size := by obtain ⟨m, hm⟩ := k0; exact DataW.trod_lt m _ _ _ hm
  obtain ⟨fu0, hf0⟩ := h0
  obtain ⟨A0, len0, cap0, rfl⟩ := okWide_slice Try.underlying22 (hval 0 22 v0 rfl rfl)
  obtain ⟨z0, i0⟩ := bytes_cell Try.underlying22 Try.underlying5 (by kernel_rfl) hf0
  clear hA0 hval0
  refine (FnAffixes_walk W _ z0 i0).mono fun e W' ⟨he, bel⟩ => ?_
  subst he
  exact ⟨_, rfl, _, _, _, [], _, [], hW', trodAll_mk1 (shut_bool Try.underlying4 _), (trodAll_cons_mk (Below.trod prog_laid (by kernel_rfl) (of_decide_eq_true (by kernel_rfl)) k0 bel lt0) trodAll_mk0), rfl, bel.frame _, fun h => by cases h⟩

theorem FnAffixes_holds : Rows.FnAffixesSaid :=
  OpenClaim.holds_of_wide 3 Try.f3 rfl rfl rfl rfl rfl rfl rfl ⟨rfl, rfl, rfl, rfl, rfl⟩ rfl rfl rfl rfl rfl (by kernel_rfl) Try.func3 (by kernel_rfl)
    (of_decide_eq_true (by kernel_rfl)) (by unfold Func.isWrapper; rw [if_neg (of_decide_eq_false (by kernel_rfl))]; exact ⟨rfl, rfl⟩)
    (fun os started H enc _ => FnAffixes_lifted os started H enc)
#print axioms FnAffixes_holds
end Go.Proofs.Ytpdphimlpeiifaa
