/-
  A word more: the model's AddWord and the program's.
-/
import Derived.Test.YtomofgebobabnaaLB
import Derived.Test.YtomofgebobabnaaL7
namespace Go.Proofs.Ytomofgebobabnaa
open Go.RowKit Go.Lib

theorem LexAt.alloc {W : World} {g : Nat} {v : Value} {ss : List ByteArray} (h : LexAt W g v ss) (o : Obj) : LexAt (W.alloc o) g v ss := ⟨h.blk.alloc o, h.strs.alloc o⟩
theorem LexAt.below {W W' : World} {g : Nat} {v : Value} {ss : List ByteArray} (h : LexAt W g v ss) (hb : Below W.heap.size W W') : LexAt W' g v ss := ⟨h.blk.kept hb h.blk.lt, h.strs.below hb⟩
theorem OwnS.void (B : Nat) (w : World) : OwnS B w (.slice none 0 0) [] := ⟨rfl, .inl ⟨rfl, rfl⟩⟩
/-- A list of words and a code. -/
def retL (v : Value) (c : Int) : Ending := .returned (.tuple #[.agg #[v], .int .i64 c])
/-- A valid lexicon with a word more. -/
def addOut (us : List ByteArray) (s : ByteArray) : List ByteArray × Int :=
  if okL us = false then ([], 1) else if longB s = false then ([], 7) else if hasL us s = true then ([], 4) else if us.length ≥ 200 then ([], 5) else (insL us s, 0)
theorem addOut_bad {us : List ByteArray} {s : ByteArray} (h : okL us = false) : addOut us s = ([], 1) := by simp [addOut, h]
theorem addOut_short {us : List ByteArray} {s : ByteArray} (h : okL us = true) (h1 : longB s = false) : addOut us s = ([], 7) := by simp [addOut, h, h1]
theorem addOut_has {us : List ByteArray} {s : ByteArray} (h : okL us = true) (h1 : longB s = true) (h2 : hasL us s = true) : addOut us s = ([], 4) := by simp [addOut, h, h1, h2]
theorem addOut_full {us : List ByteArray} {s : ByteArray} (h : okL us = true) (h1 : longB s = true) (h2 : hasL us s = false) (h3 : us.length ≥ 200) : addOut us s = ([], 5) := by simp [addOut, h, h1, h2, h3]
theorem addOut_new {us : List ByteArray} {s : ByteArray} (h : okL us = true) (h1 : longB s = true) (h2 : hasL us s = false) (h3 : ¬ us.length ≥ 200) : addOut us s = (insL us s, 0) := by simp [addOut, h, h1, h2]; omega
theorem addOut_len (us : List ByteArray) (s : ByteArray) : (addOut us s).1.length ≤ us.length + 1 := by
  unfold addOut
  have := insL_len us s
  repeat' split
  all_goals simp
  omega

/-- Three lists, the middle one of one text, laid one behind the other. -/
theorem concat3 {w : World} (s : ByteArray) {u1 u3 : Value} {xs ys : List ByteArray} (h1 : Strs w u1 xs) (h3 : Strs w u3 ys) (hl : xs.length + ys.length ≤ 1000000) :
    Calls Try.prog 62 #[.slice (some ⟨w.heap.size + 1, 0, none⟩) 3 3] (((w.alloc (.cells #[.string s] 9)).alloc (.cells #[u1, .slice (some ⟨w.heap.size, 0, none⟩) 1 1, u3] 22)).drew) fun e w' =>
      ∃ a n c, e = .returned (.slice a n c) ∧ OwnS w.heap.size w' (.slice a n c) (xs ++ s :: ys) ∧ Below w.heap.size w w' := by
  have b1 := (Below.refl w.heap.size w).alloc (Nat.le_refl _) (.cells #[.string s] 9)
  have q := Blk.made (w.alloc (.cells #[.string s] 9)) 22 #[u1, .slice (some ⟨w.heap.size, 0, none⟩) 1 1, u3]
  rw [World.size_alloc] at q
  have b2 := (b1.alloc (by simp) (.cells #[u1, .slice (some ⟨w.heap.size, 0, none⟩) 1 1, u3] 22)).drew
  have e1 : Strs (((w.alloc (.cells #[.string s] 9)).alloc (.cells #[u1, .slice (some ⟨w.heap.size, 0, none⟩) 1 1, u3] 22)).drew) _ [s] := (Strs.made1 w s).alloc _
  refine (concat_any (c := w.heap.size + 1) [xs, [s], ys] (((w.alloc (.cells #[.string s] 9)).alloc (.cells #[u1, .slice (some ⟨w.heap.size, 0, none⟩) 1 1, u3] 22)).drew) ?_ q.lt (by simp) (by simp; omega) rfl).mono ?_
  · intro k hk
    match k, hk with
    | 0, _ => exact ⟨u1, q.cells 0, h1.below b2⟩
    | 1, _ => exact ⟨_, q.cells 1, e1⟩
    | 2, _ => exact ⟨u3, q.cells 2, h3.below b2⟩
  · rintro e w' ⟨v, rfl, ho, hb⟩
    obtain ⟨a, c, rfl, -, -, -⟩ := own_form ho
    refine ⟨a, _, c, rfl, ?_, b2.trans (hb.mono b2.size)⟩
    have := OwnS.lower ho b2.size
    simpa using this
theorem concat2 {w : World} {u1 u3 : Value} {xs ys : List ByteArray} (h1 : Strs w u1 xs) (h3 : Strs w u3 ys) (hl : xs.length + ys.length ≤ 2000000) :
    Calls Try.prog 62 #[.slice (some ⟨w.heap.size, 0, none⟩) 2 2] ((w.alloc (.cells #[u1, u3] 22)).drew) fun e w' =>
      ∃ a n c, e = .returned (.slice a n c) ∧ OwnS w.heap.size w' (.slice a n c) (xs ++ ys) ∧ Below w.heap.size w w' := by
  have q := Blk.made w 22 #[u1, u3]
  have b2 := ((Below.refl w.heap.size w).alloc (Nat.le_refl _) (.cells #[u1, u3] 22)).drew
  refine (concat_any (c := w.heap.size) [xs, ys] ((w.alloc (.cells #[u1, u3] 22)).drew) ?_ q.lt (by simp) (by simp; omega) rfl).mono ?_
  · intro k hk
    match k, hk with
    | 0, _ => exact ⟨u1, q.cells 0, h1.below b2⟩
    | 1, _ => exact ⟨u3, q.cells 1, h3.below b2⟩
  · rintro e w' ⟨v, rfl, ho, hb⟩
    obtain ⟨a, c, rfl, -, -, -⟩ := own_form ho
    refine ⟨a, _, c, rfl, ?_, b2.trans (hb.mono b2.size)⟩
    have := OwnS.lower ho b2.size
    simpa using this
theorem insL_at (us : List ByteArray) (s : ByteArray) : insL us s = us.take (firstG us s) ++ s :: us.drop (firstG us s) := rfl

set_option maxRecDepth 100000 in
set_option maxHeartbeats 1000000 in
theorem specAddWord_any {v : Value} {us : List ByteArray} (s : ByteArray) (W : World) (hu : Strs W v us) (hz : ∀ s ∈ us, s.size ≤ maxLen) (hs : s.size ≤ 1048576) :
    Calls Try.prog 32 #[.agg #[v], .string s] W fun e w' => ∃ v0, e = retL v0 (addOut us s).2 ∧ Strs w' v0 (addOut us s).1 ∧ Below W.heap.size W w' := by
  have hul := hu.len
  have hg := (LexAt.made hu).alloc (.cells #[.slice none 0 0] 27)
  have hr := Blk.made (W.alloc (.cells #[v] 27)) 27 #[.slice none 0 0]
  rw [World.size_alloc] at hr
  have hB := ((Below.refl W.heap.size W).alloc (Nat.le_refl _) (.cells #[v] 27)).alloc (by simp) (.cells #[.slice none 0 0] 27)
  have HG := Shh.mk hg
  have HR := Shh.mk hr
  have HB := Shh.mk hB
  have c0 := hg.blk.cells
  obtain ⟨aa, ac, rfl, -⟩ := hu
  clear hg hr hB
  have hsm : s.size ≤ maxLen := by unfold maxLen; omega
  cases hok : okL us
  · have HA := Shh.mk (addOut_bad (s := s) hok)
    have HO := Shh.mk hok
    clear hok
    go_enter Try.func32, Try.ntmps32
    go_wp2_with fail
    refine (ok_is HO.out _ HG.out hz).mono ?_
    rintro e w1 ⟨rfl, k, hw1⟩
    have G1 := Shh.mk (show LexAt w1 W.heap.size _ us by rw [hw1]; exact HG.out.drewN k)
    have q1 : Blk w1 (W.heap.size + 1) 27 #[.slice none 0 0] := by rw [hw1]; exact HR.out.drewN k
    have HB1 := Shh.mk (show Below W.heap.size W w1 by rw [hw1]; exact below_drewN HB.out k)
    have Q1 := Shh.mk q1
    have c2 := q1.cells
    have m2 := q1.marks
    clear c0 hw1 q1
    have c0 := G1.out.blk.cells
    go_wp2
    refine bodyPost_ret (v := .tuple #[.agg #[.slice none 0 0], .int .i64 1]) (by simp [results, Try.results32, go_sem, c2]) rfl ?_
    rw [HA.out]
    exact ⟨_, rfl, (Strs.void _ _ (Nat.zero_le _)), HB1.out.setCell (by simp) _⟩
  · have HO := Shh.mk hok
    have HRI := Shh.mk (okL_rise hok)
    have hn := okL_size hok
    cases hlo : longB s
    · have HA := Shh.mk (addOut_short (s := s) hok hlo)
      have HL := Shh.mk hlo
      clear hok hlo
      go_enter Try.func32, Try.ntmps32
      go_wp2_with fail
      refine (ok_is HO.out _ HG.out hz).mono ?_
      rintro e w1 ⟨rfl, k, hw1⟩
      have G1 := Shh.mk (show LexAt w1 W.heap.size _ us by rw [hw1]; exact HG.out.drewN k)
      have q1 : Blk w1 (W.heap.size + 1) 27 #[.slice none 0 0] := by rw [hw1]; exact HR.out.drewN k
      have HB1 := Shh.mk (show Below W.heap.size W w1 by rw [hw1]; exact below_drewN HB.out k)
      have Q1 := Shh.mk q1
      have c2 := q1.cells
      have m2 := q1.marks
      clear c0 hw1 q1
      have c0 := G1.out.blk.cells
      go_wp2_with fail
      refine (long_is HL.out _ hsm).mono ?_
      rintro e w2 ⟨rfl, rfl⟩
      go_wp2
      refine bodyPost_ret (v := .tuple #[.agg #[.slice none 0 0], .int .i64 7]) (by simp [results, Try.results32, go_sem, c2]) rfl ?_
      rw [HA.out]
      exact ⟨_, rfl, (Strs.void _ _ (Nat.zero_le _)), HB1.out.setCell (by simp) _⟩
    · have HL := Shh.mk hlo
      cases hha : hasL us s
      · have HH := Shh.mk hha
        by_cases hfu : us.length ≥ 200
        · have HA := Shh.mk (addOut_full (s := s) hok hlo hha hfu)
          have hfi : (200 : Int) ≤ (us.length : Int) := by omega
          clear hok hlo hha
          go_enter Try.func32, Try.ntmps32
          go_wp2_with fail
          refine (ok_is HO.out _ HG.out hz).mono ?_
          rintro e w1 ⟨rfl, k, hw1⟩
          have G1 := Shh.mk (show LexAt w1 W.heap.size _ us by rw [hw1]; exact HG.out.drewN k)
          have q1 : Blk w1 (W.heap.size + 1) 27 #[.slice none 0 0] := by rw [hw1]; exact HR.out.drewN k
          have HB1 := Shh.mk (show Below W.heap.size W w1 by rw [hw1]; exact below_drewN HB.out k)
          have Q1 := Shh.mk q1
          have c2 := q1.cells
          have m2 := q1.marks
          clear c0 hw1 q1
          have c0 := G1.out.blk.cells
          go_wp2_with fail
          refine (long_is HL.out _ hsm).mono ?_
          rintro e w2 ⟨rfl, rfl⟩
          go_wp2_with fail
          refine (l05Has_any _ s G1.out.strs HH.out).mono ?_
          rintro e w2 ⟨rfl, rfl⟩
          go_wp2
          refine bodyPost_ret (v := .tuple #[.agg #[.slice none 0 0], .int .i64 5]) (by simp [results, Try.results32, go_sem, c2]) rfl ?_
          rw [HA.out]
          exact ⟨_, rfl, (Strs.void _ _ (Nat.zero_le _)), HB1.out.setCell (by simp) _⟩
        · have HA := Shh.mk (addOut_new (s := s) hok hlo hha hfu)
          have hfi : ¬ (200 : Int) ≤ (us.length : Int) := by omega
          clear hok hlo hha
          go_enter Try.func32, Try.ntmps32
          go_wp2_with fail
          refine (ok_is HO.out _ HG.out hz).mono ?_
          rintro e w1 ⟨rfl, k, hw1⟩
          have G1 := Shh.mk (show LexAt w1 W.heap.size _ us by rw [hw1]; exact HG.out.drewN k)
          have q1 : Blk w1 (W.heap.size + 1) 27 #[.slice none 0 0] := by rw [hw1]; exact HR.out.drewN k
          have HB1 := Shh.mk (show Below W.heap.size W w1 by rw [hw1]; exact below_drewN HB.out k)
          have Q1 := Shh.mk q1
          have c2 := q1.cells
          have m2 := q1.marks
          clear c0 hw1 q1
          have c0 := G1.out.blk.cells
          go_wp2_with fail
          refine (long_is HL.out _ hsm).mono ?_
          rintro e w2 ⟨rfl, rfl⟩
          go_wp2_with fail
          refine (l05Has_any _ s G1.out.strs HH.out).mono ?_
          rintro e w2 ⟨rfl, rfl⟩
          go_wp2_with fail
          refine (insert_new _ s G1.out.strs HRI.out (by omega) HH.out).mono ?_
          rintro e w2 ⟨v2, rfl, ho2, hb2⟩
          obtain ⟨b2, cp2, rfl, -, -, -⟩ := own_form ho2
          have q2 := Q1.out.kept hb2 Q1.out.lt
          have HO2 := Shh.mk ho2
          have HB2 := Shh.mk (HB1.out.trans (hb2.mono HB1.out.size))
          clear c0 c2 m2 ho2 hb2
          have c2 := q2.cells
          have m2 := q2.marks
          go_wp2
          refine bodyPost_ret (v := .tuple #[.agg #[.slice b2 (insL us s).length cp2], .int .i64 0]) (by simp [results, Try.results32, go_sem, c2]) rfl ?_
          rw [HA.out]
          exact ⟨_, rfl, (HO2.out.off (g := W.heap.size + 1) (j := 0) (Q1.out.lt) _).strs, HB2.out.setCell (by simp) _⟩
      · have HA := Shh.mk (addOut_has (s := s) hok hlo hha)
        have HH := Shh.mk hha
        clear hok hlo hha
        go_enter Try.func32, Try.ntmps32
        go_wp2_with fail
        refine (ok_is HO.out _ HG.out hz).mono ?_
        rintro e w1 ⟨rfl, k, hw1⟩
        have G1 := Shh.mk (show LexAt w1 W.heap.size _ us by rw [hw1]; exact HG.out.drewN k)
        have q1 : Blk w1 (W.heap.size + 1) 27 #[.slice none 0 0] := by rw [hw1]; exact HR.out.drewN k
        have HB1 := Shh.mk (show Below W.heap.size W w1 by rw [hw1]; exact below_drewN HB.out k)
        have Q1 := Shh.mk q1
        have c2 := q1.cells
        have m2 := q1.marks
        clear c0 hw1 q1
        have c0 := G1.out.blk.cells
        go_wp2_with fail
        refine (long_is HL.out _ hsm).mono ?_
        rintro e w2 ⟨rfl, rfl⟩
        go_wp2_with fail
        refine (l05Has_any _ s G1.out.strs HH.out).mono ?_
        rintro e w2 ⟨rfl, rfl⟩
        go_wp2
        refine bodyPost_ret (v := .tuple #[.agg #[.slice none 0 0], .int .i64 4]) (by simp [results, Try.results32, go_sem, c2]) rfl ?_
        rw [HA.out]
        exact ⟨_, rfl, (Strs.void _ _ (Nat.zero_le _)), HB1.out.setCell (by simp) _⟩

set_option maxRecDepth 100000 in
set_option maxHeartbeats 1000000 in
theorem implAddWord_any {v : Value} {us : List ByteArray} (s : ByteArray) (W : World) (hu : Strs W v us) (hz : ∀ s ∈ us, s.size ≤ maxLen) (hs : s.size ≤ 1048576) :
    Calls Try.prog 33 #[.agg #[v], .string s] W fun e w' => ∃ v0, e = retL v0 (addOut us s).2 ∧ OwnS W.heap.size w' v0 (addOut us s).1 ∧ Below W.heap.size W w' := by
  have hul := hu.len
  have hg := (LexAt.made hu).alloc (.cells #[.slice none 0 0] 27)
  have hr := Blk.made (W.alloc (.cells #[v] 27)) 27 #[.slice none 0 0]
  rw [World.size_alloc] at hr
  have hB := ((Below.refl W.heap.size W).alloc (Nat.le_refl _) (.cells #[v] 27)).alloc (by simp) (.cells #[.slice none 0 0] 27)
  have HG := Shh.mk hg
  have HR := Shh.mk hr
  have HB := Shh.mk hB
  have c0 := hg.blk.cells
  obtain ⟨aa, ac, rfl, hl1, hm, hc⟩ := hu
  have HC := Shh.mk hc
  clear hc
  clear hg hr hB
  have hsm : s.size ≤ maxLen := by unfold maxLen; omega
  cases hok : okL us
  · have HA := Shh.mk (addOut_bad (s := s) hok)
    have HO := Shh.mk hok
    clear hok
    go_enter Try.func33, Try.ntmps33
    go_wp2_with fail
    refine (valid_on HO.out _ HG.out.strs hz).mono ?_
    rintro e w1 ⟨rfl, hb1⟩
    have G1 := Shh.mk (HG.out.below hb1)
    have Q1 := Shh.mk (HR.out.kept hb1 HR.out.lt)
    have HB1 := Shh.mk (HB.out.trans (hb1.mono HB.out.size))
    have c2 := Q1.out.cells
    have m2 := Q1.out.marks
    clear c0 hb1
    have c0 := G1.out.blk.cells
    go_wp2
    refine bodyPost_ret (v := .tuple #[.agg #[.slice none 0 0], .int .i64 1]) (by simp [results, Try.results33, go_sem, c2]) rfl ?_
    rw [HA.out]
    exact ⟨_, rfl, (OwnS.void _ _), HB1.out.setCell (by simp) _⟩
  · have HO := Shh.mk hok
    have HRI := Shh.mk (okL_rise hok)
    have hn := okL_size hok
    cases hlo : longB s
    · have HA := Shh.mk (addOut_short (s := s) hok hlo)
      have HL := Shh.mk hlo
      clear hok hlo
      go_enter Try.func33, Try.ntmps33
      go_wp2_with fail
      refine (valid_on HO.out _ HG.out.strs hz).mono ?_
      rintro e w1 ⟨rfl, hb1⟩
      have G1 := Shh.mk (HG.out.below hb1)
      have Q1 := Shh.mk (HR.out.kept hb1 HR.out.lt)
      have HB1 := Shh.mk (HB.out.trans (hb1.mono HB.out.size))
      have c2 := Q1.out.cells
      have m2 := Q1.out.marks
      clear c0 hb1
      have c0 := G1.out.blk.cells
      go_wp2_with fail
      refine (longI HL.out _ hsm).mono ?_
      rintro e w2 ⟨rfl, hb2⟩
      have G2 := Shh.mk (G1.out.below hb2)
      have Q2 := Shh.mk (Q1.out.kept hb2 Q1.out.lt)
      have HB2 := Shh.mk (HB1.out.trans (hb2.mono HB1.out.size))
      clear c0 c2 m2 hb2
      have c2 := Q2.out.cells
      have m2 := Q2.out.marks
      have c0 := G2.out.blk.cells
      go_wp2
      refine bodyPost_ret (v := .tuple #[.agg #[.slice none 0 0], .int .i64 7]) (by simp [results, Try.results33, go_sem, c2]) rfl ?_
      rw [HA.out]
      exact ⟨_, rfl, (OwnS.void _ _), HB2.out.setCell (by simp) _⟩
    · have HL := Shh.mk hlo
      have hF := firstG_le us s
      obtain ⟨F, hFF⟩ : ∃ F, firstG us s = F := ⟨_, rfl⟩
      rw [hFF] at hF
      have HF := Shh.mk hFF
      clear hFF
      cases hha : hasL us s
      · have HH := Shh.mk hha
        by_cases hfu : us.length ≥ 200
        · have HA := Shh.mk (addOut_full (s := s) hok hlo hha hfu)
          have hfe : us.length = 200 := by omega
          have hfi : ((us.length : Int) == (200 : Int)) = true := beq_iff_eq.2 (by omega)
          clear hok hlo hha hfe
          go_enter Try.func33, Try.ntmps33
          go_wp2_with fail
          refine (valid_on HO.out _ HG.out.strs hz).mono ?_
          rintro e w1 ⟨rfl, hb1⟩
          have G1 := Shh.mk (HG.out.below hb1)
          have Q1 := Shh.mk (HR.out.kept hb1 HR.out.lt)
          have HB1 := Shh.mk (HB.out.trans (hb1.mono HB.out.size))
          have c2 := Q1.out.cells
          have m2 := Q1.out.marks
          clear c0 hb1
          have c0 := G1.out.blk.cells
          go_wp2_with fail
          refine (longI HL.out _ hsm).mono ?_
          rintro e w2 ⟨rfl, hb2⟩
          have G2 := Shh.mk (G1.out.below hb2)
          have Q2 := Shh.mk (Q1.out.kept hb2 Q1.out.lt)
          have HB2 := Shh.mk (HB1.out.trans (hb2.mono HB1.out.size))
          clear c0 c2 m2 hb2
          have c2 := Q2.out.cells
          have m2 := Q2.out.marks
          have c0 := G2.out.blk.cells
          go_wp2_with fail
          refine (search_any _ s G2.out.strs HRI.out hn).mono ?_
          rw [HH.out, HF.out]
          rintro e w3 ⟨rfl, q, hw3⟩
          have G3 := Shh.mk (show LexAt w3 W.heap.size _ us by rw [hw3]; exact G2.out.drewN q)
          have Q3 := Shh.mk (show Blk w3 (W.heap.size + 1) 27 #[.slice none 0 0] by rw [hw3]; exact Q2.out.drewN q)
          have HB3 := Shh.mk (show Below W.heap.size W w3 by rw [hw3]; exact below_drewN HB2.out q)
          clear c0 c2 m2 hw3
          have c2 := Q3.out.cells
          have m2 := Q3.out.marks
          have c0 := G3.out.blk.cells
          go_wp2
          refine bodyPost_ret (v := .tuple #[.agg #[.slice none 0 0], .int .i64 5]) (by simp [results, Try.results33, go_sem, c2]) rfl ?_
          rw [HA.out]
          exact ⟨_, rfl, (OwnS.void _ _), HB3.out.setCell (by simp) _⟩
        · have HA := Shh.mk (addOut_new (s := s) hok hlo hha hfu)
          have hfi : ((us.length : Int) == (200 : Int)) = false := beq_eq_false_iff_ne.2 (by omega)
          clear hok hlo hha
          go_enter Try.func33, Try.ntmps33
          go_wp2_with fail
          refine (valid_on HO.out _ HG.out.strs hz).mono ?_
          rintro e w1 ⟨rfl, hb1⟩
          have G1 := Shh.mk (HG.out.below hb1)
          have Q1 := Shh.mk (HR.out.kept hb1 HR.out.lt)
          have HB1 := Shh.mk (HB.out.trans (hb1.mono HB.out.size))
          have c2 := Q1.out.cells
          have m2 := Q1.out.marks
          clear c0 hb1
          have c0 := G1.out.blk.cells
          go_wp2_with fail
          refine (longI HL.out _ hsm).mono ?_
          rintro e w2 ⟨rfl, hb2⟩
          have G2 := Shh.mk (G1.out.below hb2)
          have Q2 := Shh.mk (Q1.out.kept hb2 Q1.out.lt)
          have HB2 := Shh.mk (HB1.out.trans (hb2.mono HB1.out.size))
          clear c0 c2 m2 hb2
          have c2 := Q2.out.cells
          have m2 := Q2.out.marks
          have c0 := G2.out.blk.cells
          go_wp2_with fail
          refine (search_any _ s G2.out.strs HRI.out hn).mono ?_
          rw [HH.out, HF.out]
          rintro e w3 ⟨rfl, q, hw3⟩
          have G3 := Shh.mk (show LexAt w3 W.heap.size _ us by rw [hw3]; exact G2.out.drewN q)
          have Q3 := Shh.mk (show Blk w3 (W.heap.size + 1) 27 #[.slice none 0 0] by rw [hw3]; exact Q2.out.drewN q)
          have HB3 := Shh.mk (show Below W.heap.size W w3 by rw [hw3]; exact below_drewN HB2.out q)
          clear c0 c2 m2 hw3
          have c2 := Q3.out.cells
          have m2 := Q3.out.marks
          have c0 := G3.out.blk.cells
          have hFi : (F : Int) ≤ (us.length : Int) := by omega
          have hFc : (F : Int) ≤ (ac : Int) := by omega
          have HAS := Shh.mk (insL_at us s)
          have HK := Shh.mk (fun w' (hb : Below w3.heap.size w3 w') => (G3.out.below hb).blk.cells 0)
          have HST := Shh.mk G3.out.strs
          clear hfu
          rcases Nat.eq_zero_or_pos us.length with hz0 | hz0
          · have hnil : us = [] := List.eq_nil_of_length_eq_zero hz0
            obtain rfl : F = 0 := by omega
            subst hnil
            rcases Nat.eq_zero_or_pos ac with hc0 | hc0
            · subst hc0
              rcases aa with _ | aa
              · go_wp2
                go_region_held3 (fun w' => w'.cell? ⟨W.heap.size, 0, none⟩ = some (.slice none 0 0))
                  (first | exact HK4.out _ _ (by simp) | exact HK.out _ (by first | assumption | exact (Below.refl _ _).drew | exact ((Below.refl _ _).alloc (Nat.le_refl _) _).drew | exact (((Below.refl _ _).alloc (Nat.le_refl _) _).alloc (by simp) _).drew))
                  ((go_at_call 62; refine (concat3 s (Strs.void _ _ (by first | exact hm | exact Nat.zero_le _)) (Strs.void _ _ (by first | exact hm | exact Nat.zero_le _)) (by simp)).mono ?_; rintro e w4 ⟨b4, n4, cp4, rfl, ho4, hb4⟩; have HK4 := Shh.mk (fun (p : Addr) (u : Value) (hp : W.heap.size ≠ p.block) => ((G3.out.below hb4).blk.other hp u).cells 0); have q4 := Q3.out.kept hb4 Q3.out.lt; have c4 := q4.cells; have m4 := q4.marks))
                all_goals
                  go_wp2
                  refine bodyPost_ret (v := .tuple #[.agg #[.slice b4 n4 cp4], .int .i64 0]) (by simp [results, Try.results33, go_sem, c4]) rfl ?_
                  rw [HA.out, HAS.out, HF.out]
                  refine ⟨_, rfl, (OwnS.lower (ho4.off Q3.out.lt 0 _) HB3.out.size), (HB3.out.trans (hb4.mono HB3.out.size)).setCell (by simp) _⟩
              · go_wp2
                go_region_held3 (fun w' => w'.cell? ⟨W.heap.size, 0, none⟩ = some (.slice (some aa) 0 0))
                  (first | exact HK4.out _ _ (by simp) | exact HK.out _ (by first | assumption | exact (Below.refl _ _).drew | exact ((Below.refl _ _).alloc (Nat.le_refl _) _).drew | exact (((Below.refl _ _).alloc (Nat.le_refl _) _).alloc (by simp) _).drew))
                  ((go_at_call 62; refine (concat3 s (Strs.void _ _ (by first | exact hm | exact Nat.zero_le _)) (Strs.void _ _ (by first | exact hm | exact Nat.zero_le _)) (by simp)).mono ?_; rintro e w4 ⟨b4, n4, cp4, rfl, ho4, hb4⟩; have HK4 := Shh.mk (fun (p : Addr) (u : Value) (hp : W.heap.size ≠ p.block) => ((G3.out.below hb4).blk.other hp u).cells 0); have q4 := Q3.out.kept hb4 Q3.out.lt; have c4 := q4.cells; have m4 := q4.marks))
                all_goals
                  go_wp2
                  refine bodyPost_ret (v := .tuple #[.agg #[.slice b4 n4 cp4], .int .i64 0]) (by simp [results, Try.results33, go_sem, c4]) rfl ?_
                  rw [HA.out, HAS.out, HF.out]
                  refine ⟨_, rfl, (OwnS.lower (ho4.off Q3.out.lt 0 _) HB3.out.size), (HB3.out.trans (hb4.mono HB3.out.size)).setCell (by simp) _⟩
            · rcases aa with _ | aa
              · go_wp2
                go_region_held3 (fun w' => w'.cell? ⟨W.heap.size, 0, none⟩ = some (.slice none 0 ac))
                  (first | exact HK4.out _ _ (by simp) | exact HK.out _ (by first | assumption | exact (Below.refl _ _).drew | exact ((Below.refl _ _).alloc (Nat.le_refl _) _).drew | exact (((Below.refl _ _).alloc (Nat.le_refl _) _).alloc (by simp) _).drew))
                  ((go_at_call 62; refine (concat3 s (Strs.void _ _ (by first | exact hm | exact Nat.zero_le _)) (Strs.void _ _ (by first | exact hm | exact Nat.zero_le _)) (by simp)).mono ?_; rintro e w4 ⟨b4, n4, cp4, rfl, ho4, hb4⟩; have HK4 := Shh.mk (fun (p : Addr) (u : Value) (hp : W.heap.size ≠ p.block) => ((G3.out.below hb4).blk.other hp u).cells 0); have q4 := Q3.out.kept hb4 Q3.out.lt; have c4 := q4.cells; have m4 := q4.marks))
                all_goals
                  go_wp2
                  refine bodyPost_ret (v := .tuple #[.agg #[.slice b4 n4 cp4], .int .i64 0]) (by simp [results, Try.results33, go_sem, c4]) rfl ?_
                  rw [HA.out, HAS.out, HF.out]
                  refine ⟨_, rfl, (OwnS.lower (ho4.off Q3.out.lt 0 _) HB3.out.size), (HB3.out.trans (hb4.mono HB3.out.size)).setCell (by simp) _⟩
              · go_wp2
                go_region_held3 (fun w' => w'.cell? ⟨W.heap.size, 0, none⟩ = some (.slice (some aa) 0 ac))
                  (first | exact HK4.out _ _ (by simp) | exact HK.out _ (by first | assumption | exact (Below.refl _ _).drew | exact ((Below.refl _ _).alloc (Nat.le_refl _) _).drew | exact (((Below.refl _ _).alloc (Nat.le_refl _) _).alloc (by simp) _).drew))
                  ((go_at_call 62; refine (concat3 s (Strs.void _ _ (by first | exact hm | exact Nat.zero_le _)) (Strs.void _ _ (by first | exact hm | exact Nat.zero_le _)) (by simp)).mono ?_; rintro e w4 ⟨b4, n4, cp4, rfl, ho4, hb4⟩; have HK4 := Shh.mk (fun (p : Addr) (u : Value) (hp : W.heap.size ≠ p.block) => ((G3.out.below hb4).blk.other hp u).cells 0); have q4 := Q3.out.kept hb4 Q3.out.lt; have c4 := q4.cells; have m4 := q4.marks))
                all_goals
                  go_wp2
                  refine bodyPost_ret (v := .tuple #[.agg #[.slice b4 n4 cp4], .int .i64 0]) (by simp [results, Try.results33, go_sem, c4]) rfl ?_
                  rw [HA.out, HAS.out, HF.out]
                  refine ⟨_, rfl, (OwnS.lower (ho4.off Q3.out.lt 0 _) HB3.out.size), (HB3.out.trans (hb4.mono HB3.out.size)).setCell (by simp) _⟩
          · obtain ⟨b, off, rfl, hb, -⟩ := HC.out hz0
            by_cases hcf : ac = F
            · subst hcf
              have HD := Shh.mk (show Strs w3 (.slice (some ⟨b, off, none⟩) (us.length - ac) 0) (us.drop ac) from by
                have e : us.length - ac = 0 := by omega
                rw [e, List.drop_eq_nil_of_le (by omega)]; exact Strs.void _ _ (Nat.zero_le _))
              have HD0 := Shh.mk (show Strs w3 (.slice (some ⟨b, off, none⟩) 0 0) (us.drop ac) from by
                rw [List.drop_eq_nil_of_le (by omega)]; exact Strs.void _ _ (Nat.zero_le _))
              go_wp2
              go_region_held3 (fun w' => w'.cell? ⟨W.heap.size, 0, none⟩ = some (.slice (some ⟨b, off, none⟩) us.length ac))
                (first | exact HK4.out _ _ (by simp) | exact HK.out _ (by first | assumption | exact (Below.refl _ _).drew | exact ((Below.refl _ _).alloc (Nat.le_refl _) _).drew | exact (((Below.refl _ _).alloc (Nat.le_refl _) _).alloc (by simp) _).drew))
                ((go_at_call 62; refine (concat3 s (HST.out.takeL hF) (by first | exact HD.out | exact HD0.out) (by simp; omega)).mono ?_; rintro e w4 ⟨b4, n4, cp4, rfl, ho4, hb4⟩; have HK4 := Shh.mk (fun (p : Addr) (u : Value) (hp : W.heap.size ≠ p.block) => ((G3.out.below hb4).blk.other hp u).cells 0); have q4 := Q3.out.kept hb4 Q3.out.lt; have c4 := q4.cells; have m4 := q4.marks))
              all_goals
                go_wp2
                refine bodyPost_ret (v := .tuple #[.agg #[.slice b4 n4 cp4], .int .i64 0]) (by simp [results, Try.results33, go_sem, c4]) rfl ?_
                rw [HA.out, HAS.out, HF.out]
                refine ⟨_, rfl, (OwnS.lower (ho4.off Q3.out.lt 0 _) HB3.out.size), (HB3.out.trans (hb4.mono HB3.out.size)).setCell (by simp) _⟩
            · have HD := Shh.mk (HST.out.dropL hF)
              go_wp2
              go_region_held3 (fun w' => w'.cell? ⟨W.heap.size, 0, none⟩ = some (.slice (some ⟨b, off, none⟩) us.length ac))
                (first | exact HK4.out _ _ (by simp) | exact HK.out _ (by first | assumption | exact (Below.refl _ _).drew | exact ((Below.refl _ _).alloc (Nat.le_refl _) _).drew | exact (((Below.refl _ _).alloc (Nat.le_refl _) _).alloc (by simp) _).drew))
                ((go_at_call 62; refine (concat3 s (HST.out.takeL hF) HD.out (by simp; omega)).mono ?_; rintro e w4 ⟨b4, n4, cp4, rfl, ho4, hb4⟩; have HK4 := Shh.mk (fun (p : Addr) (u : Value) (hp : W.heap.size ≠ p.block) => ((G3.out.below hb4).blk.other hp u).cells 0); have q4 := Q3.out.kept hb4 Q3.out.lt; have c4 := q4.cells; have m4 := q4.marks))
              all_goals
                go_wp2
                refine bodyPost_ret (v := .tuple #[.agg #[.slice b4 n4 cp4], .int .i64 0]) (by simp [results, Try.results33, go_sem, c4]) rfl ?_
                rw [HA.out, HAS.out, HF.out]
                refine ⟨_, rfl, (OwnS.lower (ho4.off Q3.out.lt 0 _) HB3.out.size), (HB3.out.trans (hb4.mono HB3.out.size)).setCell (by simp) _⟩
      · have HA := Shh.mk (addOut_has (s := s) hok hlo hha)
        have HH := Shh.mk hha
        clear hok hlo hha
        go_enter Try.func33, Try.ntmps33
        go_wp2_with fail
        refine (valid_on HO.out _ HG.out.strs hz).mono ?_
        rintro e w1 ⟨rfl, hb1⟩
        have G1 := Shh.mk (HG.out.below hb1)
        have Q1 := Shh.mk (HR.out.kept hb1 HR.out.lt)
        have HB1 := Shh.mk (HB.out.trans (hb1.mono HB.out.size))
        have c2 := Q1.out.cells
        have m2 := Q1.out.marks
        clear c0 hb1
        have c0 := G1.out.blk.cells
        go_wp2_with fail
        refine (longI HL.out _ hsm).mono ?_
        rintro e w2 ⟨rfl, hb2⟩
        have G2 := Shh.mk (G1.out.below hb2)
        have Q2 := Shh.mk (Q1.out.kept hb2 Q1.out.lt)
        have HB2 := Shh.mk (HB1.out.trans (hb2.mono HB1.out.size))
        clear c0 c2 m2 hb2
        have c2 := Q2.out.cells
        have m2 := Q2.out.marks
        have c0 := G2.out.blk.cells
        go_wp2_with fail
        refine (search_any _ s G2.out.strs HRI.out hn).mono ?_
        rw [HH.out, HF.out]
        rintro e w3 ⟨rfl, q, hw3⟩
        have G3 := Shh.mk (show LexAt w3 W.heap.size _ us by rw [hw3]; exact G2.out.drewN q)
        have Q3 := Shh.mk (show Blk w3 (W.heap.size + 1) 27 #[.slice none 0 0] by rw [hw3]; exact Q2.out.drewN q)
        have HB3 := Shh.mk (show Below W.heap.size W w3 by rw [hw3]; exact below_drewN HB2.out q)
        clear c0 c2 m2 hw3
        have c2 := Q3.out.cells
        have m2 := Q3.out.marks
        have c0 := G3.out.blk.cells
        go_wp2
        refine bodyPost_ret (v := .tuple #[.agg #[.slice none 0 0], .int .i64 4]) (by simp [results, Try.results33, go_sem, c2]) rfl ?_
        rw [HA.out]
        exact ⟨_, rfl, (OwnS.void _ _), HB3.out.setCell (by simp) _⟩
end Go.Proofs.Ytomofgebobabnaa
