/-
  The program's functions on affixes: what is valid, what matches, what is made and undone.
-/
import Derived.Test.YtilagppmljpclaaF7
import Derived.Test.YtilagppmljpclaaK1
namespace Go.Proofs.Ytilagppmljpclaa
open Go.RowKit

/-- The affix lies in the block that the call has made first, and nothing that was there is changed. -/
structure Boxed (W w1 : World) (f : Bool) (n w s a : ByteArray) : Prop where
  blk : Blk w1 W.heap.size 171 #[.string n, .bool f, .string w, .string s, .string a]
  below : Below W.heap.size W w1
section
variable {W w1 w2 : World} {f : Bool} {n w s a : ByteArray}
theorem Boxed.made (W : World) (f : Bool) (n w s a : ByteArray) : Boxed W (W.alloc (.cells #[.string n, .bool f, .string w, .string s, .string a] 171)) f n w s a :=
  ⟨Blk.made W _ _, (Below.refl _ _).alloc (Nat.le_refl _) _⟩
theorem Boxed.next (h : Boxed W w1 f n w s a) (hb : Below w1.heap.size w1 w2) : Boxed W w2 f n w s a := ⟨h.blk.kept hb h.blk.lt, h.below.trans (hb.mono h.below.size)⟩
theorem Boxed.drewN (h : Boxed W w1 f n w s a) (k : Nat) : Boxed W (w1.drewN k) f n w s a := ⟨h.blk, below_drewN h.below k⟩
theorem Boxed.cells (h : Boxed W w1 f n w s a) : ∀ j, w1.cell? ⟨W.heap.size, j, none⟩ = (#[.string n, .bool f, .string w, .string s, .string a] : Array Value)[j]? := h.blk.cells
end
theorem nameI {s : ByteArray} {v : Bool} (h : isNameB s.data.toList = v) (w : World) (hs : s.size ≤ maxLen) : Calls Try.prog 177 #[.string s] w fun e w' => e = .returned (.bool v) ∧ Below w.heap.size w w' := by rw [← h]; exact implIsName_any s w hs
theorem partI_true {s : ByteArray} {v : Bool} (h : partB true s = v) (w : World) (hs : s.size ≤ maxLen) : Calls Try.prog 178 #[.string s, .func (.func 179) #[] #[]] w fun e w' => e = .returned (.bool v) ∧ Below w.heap.size w w' := by rw [← h]; exact isPart_true s w hs
theorem partI_false {s : ByteArray} {v : Bool} (h : partB false s = v) (w : World) (hs : s.size ≤ maxLen) : Calls Try.prog 178 #[.string s, .func (.func 118) #[] #[]] w fun e w' => e = .returned (.bool v) ∧ Below w.heap.size w w' := by rw [← h]; exact isPart_false s w hs

set_option maxHeartbeats 2000000 in
theorem implValidAffix_any (f : Bool) (n w s a : ByteArray) (W : World) (hn : n.size ≤ maxLen) (hw : w.size ≤ maxLen) (hs : s.size ≤ maxLen) (ha : a.size ≤ maxLen) :
    Calls Try.prog 128 #[.agg #[.string n, .bool f, .string w, .string s, .string a]] W fun e w' => e = .returned (.bool (affB n w s a)) ∧ Below W.heap.size W w' := by
  cases h1 : isNameB n.data.toList
  · have HR := hid (affB_name (w := w) (s := s) (a := a) h1)
    have H1 := hid h1
    clear h1
    go_enter Try.func128, Try.ntmps128
    go_wp2_with fail
    refine (nameI H1.out _ hn).mono ?_
    rintro e w1 ⟨rfl, hb1⟩
    have p1 := Shh.mk ((Boxed.made W f n w s a).next hb1)
    have c1 := p1.out.cells
    go_wp2
    go_ret
    exact ⟨ret_bool HR.out.symm, p1.out.below⟩
  · have H1 := hid h1
    cases h2 : partB true w
    · have HR := hid (affB_when (n := n) (s := s) (a := a) h2)
      have H2 := hid h2
      clear h1 h2
      go_enter Try.func128, Try.ntmps128
      go_wp2_with fail
      refine (nameI H1.out _ hn).mono ?_
      rintro e w1 ⟨rfl, hb1⟩
      have p1 := Shh.mk ((Boxed.made W f n w s a).next hb1)
      have c1 := p1.out.cells
      go_wp2_with fail
      refine (partI_true H2.out _ hw).mono ?_
      rintro e w2 ⟨rfl, hb2⟩
      have p2 := Shh.mk (p1.out.next hb2)
      clear c1
      have c2 := p2.out.cells
      go_wp2
      go_ret
      exact ⟨ret_bool HR.out.symm, p2.out.below⟩
    · have H2 := hid h2
      cases h3 : partB false s
      · have HR := hid (affB_strip (n := n) (w := w) (a := a) h3)
        have H3 := hid h3
        clear h1 h2 h3
        go_enter Try.func128, Try.ntmps128
        go_wp2_with fail
        refine (nameI H1.out _ hn).mono ?_
        rintro e w1 ⟨rfl, hb1⟩
        have p1 := Shh.mk ((Boxed.made W f n w s a).next hb1)
        have c1 := p1.out.cells
        go_wp2_with fail
        refine (partI_true H2.out _ hw).mono ?_
        rintro e w2 ⟨rfl, hb2⟩
        have p2 := Shh.mk (p1.out.next hb2)
        clear c1
        have c2 := p2.out.cells
        go_wp2_with fail
        refine (partI_false H3.out _ hs).mono ?_
        rintro e w3 ⟨rfl, hb3⟩
        have p3 := Shh.mk (p2.out.next hb3)
        clear c2
        have c3 := p3.out.cells
        go_wp2
        go_ret
        exact ⟨ret_bool HR.out.symm, p3.out.below⟩
      · have H3 := hid h3
        cases h4 : partB false a
        · have HR := hid (affB_add (n := n) (w := w) (s := s) h4)
          have H4 := hid h4
          clear h1 h2 h3 h4
          go_enter Try.func128, Try.ntmps128
          go_wp2_with fail
          refine (nameI H1.out _ hn).mono ?_
          rintro e w1 ⟨rfl, hb1⟩
          have p1 := Shh.mk ((Boxed.made W f n w s a).next hb1)
          have c1 := p1.out.cells
          go_wp2_with fail
          refine (partI_true H2.out _ hw).mono ?_
          rintro e w2 ⟨rfl, hb2⟩
          have p2 := Shh.mk (p1.out.next hb2)
          clear c1
          have c2 := p2.out.cells
          go_wp2_with fail
          refine (partI_false H3.out _ hs).mono ?_
          rintro e w3 ⟨rfl, hb3⟩
          have p3 := Shh.mk (p2.out.next hb3)
          clear c2
          have c3 := p3.out.cells
          go_wp2_with fail
          refine (partI_false H4.out _ ha).mono ?_
          rintro e w4 ⟨rfl, hb4⟩
          have p4 := Shh.mk (p3.out.next hb4)
          clear c3
          have c4 := p4.out.cells
          go_wp2
          go_ret
          exact ⟨ret_bool HR.out.symm, p4.out.below⟩
        · have HR := hid (affB_all h1 h2 h3 h4)
          have H4 := hid h4
          clear h1 h2 h3 h4
          go_enter Try.func128, Try.ntmps128
          go_wp2_with fail
          refine (nameI H1.out _ hn).mono ?_
          rintro e w1 ⟨rfl, hb1⟩
          have p1 := Shh.mk ((Boxed.made W f n w s a).next hb1)
          have c1 := p1.out.cells
          go_wp2_with fail
          refine (partI_true H2.out _ hw).mono ?_
          rintro e w2 ⟨rfl, hb2⟩
          have p2 := Shh.mk (p1.out.next hb2)
          clear c1
          have c2 := p2.out.cells
          go_wp2_with fail
          refine (partI_false H3.out _ hs).mono ?_
          rintro e w3 ⟨rfl, hb3⟩
          have p3 := Shh.mk (p2.out.next hb3)
          clear c2
          have c3 := p3.out.cells
          go_wp2_with fail
          refine (partI_false H4.out _ ha).mono ?_
          rintro e w4 ⟨rfl, hb4⟩
          have p4 := Shh.mk (p3.out.next hb4)
          clear c3
          have c4 := p4.out.cells
          go_wp2
          go_ret
          exact ⟨ret_bool HR.out.symm, p4.out.below⟩
theorem validI {f : Bool} {n w s a : ByteArray} {v : Bool} (h : affB n w s a = v) (W : World) (hn : n.size ≤ maxLen) (hw : w.size ≤ maxLen) (hs : s.size ≤ maxLen) (ha : a.size ≤ maxLen) :
    Calls Try.prog 128 #[.agg #[.string n, .bool f, .string w, .string s, .string a]] W fun e w' => e = .returned (.bool v) ∧ Below W.heap.size W w' := by rw [← h]; exact implValidAffix_any f n w s a W hn hw hs ha

set_option maxRecDepth 100000 in
set_option maxHeartbeats 4000000 in
theorem matches_true (n w s a word : ByteArray) (W : World) (hw : w.size ≤ maxLen) (hwd : word.size ≤ maxLen) :
    Calls Try.prog 181 #[.agg #[.string n, .bool true, .string w, .string s, .string a], .string word] W fun e w' => e = .returned (.bool (matchX true w s word)) ∧ Below W.heap.size W w' := by
  have hwd' := hwd
  unfold maxLen at hw hwd'
  by_cases h1 : w.size ≤ word.size
  · have HNOT := Shh.mk (fun h => matchX_not (f := true) (w := w) (s := s) (word := word) h)
    have HFIT := Shh.mk (fun h => matchX_fit (f := true) (w := w) (s := s) (word := word) h1 h)
    have hEs := endX_size true word h1
    rw [endX_front] at HNOT HFIT hEs
    have hc1 : ¬ (word.size : Int) < (w.size : Int) := by omega
    have hm2 : ((word.size : Int) - (w.size : Int)).toNat = word.size - w.size := by omega
    go_enter Try.func181, Try.ntmps181
    go_wp2
    generalize word.extract 0 w.size = E at HNOT HFIT hEs ⊢
    go_loopw [6, 33] (fun _ i wr => ∃ k m : Nat, k ≤ w.size ∧ i = .int .i64 k ∧ wr = (W.alloc (.cells #[.string n, .bool true, .string w, .string s, .string a] 171)).drewN m ∧ Hid (agreeTo w E k = true)) (fun _ i _ => w.size - (intOf i).toNat)
    case atStart => exact ⟨0, 0, Nat.zero_le _, rfl, rfl, agreeTo_zero _ _⟩
    case round =>
      obtain ⟨k, m, hk, rfl, rfl, ha⟩ := hrel
      by_cases hlt : k < w.size
      · have hlE : k < E.size := by omega
        have hs1 := agreeTo_succ w E k
        have hno := agreeTo_not (p := w) (q := E) (n := w.size) hlt
        rw [byteAt_eq w k hlt, byteAt_eq E k hlE] at hs1 hno
        have HS1 := Shh.mk hs1
        have hdw : decide (k < w.size) = true := decide_eq_true hlt
        have hdE : decide (k < E.size) = true := decide_eq_true hlE
        by_cases h46 : ((w[k]'hlt).toNat : Int) = 46
        · have hA := Shh.mk (agree_dot (y := ((E[k]'hlE).toNat : Int)) h46)
          have hb : (((w[k]'hlt).toNat : Int) != 46) = false := by simp [h46]
          clear hs1 hno h46
          go_wp2
          go_quiet (fail)
          go_wp2
          go_roundw
          case rel => exact ⟨k + 1, _, by omega, by go_num, by first | rfl | exact World.drewN_drewN _ _ _, by rw [Hid, HS1.out, ha.out, hA.out]; rfl⟩
          case measure => simp [intOf]; omega
        · have hb : (((w[k]'hlt).toNat : Int) != 46) = true := by simpa using h46
          by_cases hsm : ((w[k]'hlt).toNat : Int) = ((E[k]'hlE).toNat : Int)
          · have hA := Shh.mk (agree_same hsm)
            have hb2 : (((w[k]'hlt).toNat : Int) != ((E[k]'hlE).toNat : Int)) = false := by simp [hsm]
            clear hs1 hno h46 hsm
            go_wp2
            go_quiet (fail)
            go_wp2
            go_roundw
            case rel => exact ⟨k + 1, _, by omega, by go_num, by first | rfl | exact World.drewN_drewN _ _ _, by rw [Hid, HS1.out, ha.out, hA.out]; rfl⟩
            case measure => simp [intOf]; omega
          · have HN := Shh.mk (HNOT.out (hno (agree_not h46 hsm)))
            have hb2 : (((w[k]'hlt).toNat : Int) != ((E[k]'hlE).toNat : Int)) = true := by simpa using hsm
            clear hs1 hno h46 hsm
            go_wp2
            go_quiet (fail)
            go_wp2
            go_ret
            exact ⟨ret_bool HN.out.symm, by first | exact ((Boxed.made W _ n w s a).drewN _).below | exact (((Boxed.made W _ n w s a).drewN _).drewN _).below⟩
      · have hk' : k = w.size := by omega
        have HR := Shh.mk (HFIT.out (by rw [← hk']; exact ha.out))
        clear hk' ha HFIT HNOT
        obtain ⟨X, hX⟩ : ∃ X, cutX true word s = X := ⟨_, rfl⟩
        obtain ⟨t, ht⟩ : ∃ t, fitX true word s = t := ⟨_, rfl⟩
        rw [ht] at HR
        have HX := Shh.mk hX
        have HT := Shh.mk ht
        clear hX ht
        go_wp2_with fail
        refine (cut_any true n w s a word s _ hwd HX.out HT.out).mono ?_
        rintro e w1 ⟨rfl, hb1⟩
        have hB1 := ((Boxed.made W true n w s a).drewN m).next hb1
        go_wp2
        go_ret
        exact ⟨ret_bool HR.out.symm, hB1.below⟩
  · have HR := hid (matchX_short (f := true) (s := s) h1)
    have h11 : (word.size : Int) < (w.size : Int) := by omega
    go_enter Try.func181, Try.ntmps181
    go_wp2
    go_ret
    exact ⟨ret_bool HR.out.symm, (Boxed.made W true n w s a).below⟩
set_option maxRecDepth 100000 in
set_option maxHeartbeats 4000000 in
theorem matches_false (n w s a word : ByteArray) (W : World) (hw : w.size ≤ maxLen) (hwd : word.size ≤ maxLen) :
    Calls Try.prog 181 #[.agg #[.string n, .bool false, .string w, .string s, .string a], .string word] W fun e w' => e = .returned (.bool (matchX false w s word)) ∧ Below W.heap.size W w' := by
  have hwd' := hwd
  unfold maxLen at hw hwd'
  by_cases h1 : w.size ≤ word.size
  · have HNOT := Shh.mk (fun h => matchX_not (f := false) (w := w) (s := s) (word := word) h)
    have HFIT := Shh.mk (fun h => matchX_fit (f := false) (w := w) (s := s) (word := word) h1 h)
    have hEs := endX_size false word h1
    rw [endX_back] at HNOT HFIT hEs
    have hc1 : ¬ (word.size : Int) < (w.size : Int) := by omega
    have hm2 : ((word.size : Int) - (w.size : Int)).toNat = word.size - w.size := by omega
    go_enter Try.func181, Try.ntmps181
    go_wp2
    generalize word.extract (word.size - w.size) word.size = E at HNOT HFIT hEs ⊢
    go_loopw [6, 33] (fun _ i wr => ∃ k m : Nat, k ≤ w.size ∧ i = .int .i64 k ∧ wr = (W.alloc (.cells #[.string n, .bool false, .string w, .string s, .string a] 171)).drewN m ∧ Hid (agreeTo w E k = true)) (fun _ i _ => w.size - (intOf i).toNat)
    case atStart => exact ⟨0, 0, Nat.zero_le _, rfl, rfl, agreeTo_zero _ _⟩
    case round =>
      obtain ⟨k, m, hk, rfl, rfl, ha⟩ := hrel
      by_cases hlt : k < w.size
      · have hlE : k < E.size := by omega
        have hs1 := agreeTo_succ w E k
        have hno := agreeTo_not (p := w) (q := E) (n := w.size) hlt
        rw [byteAt_eq w k hlt, byteAt_eq E k hlE] at hs1 hno
        have HS1 := Shh.mk hs1
        have hdw : decide (k < w.size) = true := decide_eq_true hlt
        have hdE : decide (k < E.size) = true := decide_eq_true hlE
        by_cases h46 : ((w[k]'hlt).toNat : Int) = 46
        · have hA := Shh.mk (agree_dot (y := ((E[k]'hlE).toNat : Int)) h46)
          have hb : (((w[k]'hlt).toNat : Int) != 46) = false := by simp [h46]
          clear hs1 hno h46
          go_wp2
          go_quiet (fail)
          go_wp2
          go_roundw
          case rel => exact ⟨k + 1, _, by omega, by go_num, by first | rfl | exact World.drewN_drewN _ _ _, by rw [Hid, HS1.out, ha.out, hA.out]; rfl⟩
          case measure => simp [intOf]; omega
        · have hb : (((w[k]'hlt).toNat : Int) != 46) = true := by simpa using h46
          by_cases hsm : ((w[k]'hlt).toNat : Int) = ((E[k]'hlE).toNat : Int)
          · have hA := Shh.mk (agree_same hsm)
            have hb2 : (((w[k]'hlt).toNat : Int) != ((E[k]'hlE).toNat : Int)) = false := by simp [hsm]
            clear hs1 hno h46 hsm
            go_wp2
            go_quiet (fail)
            go_wp2
            go_roundw
            case rel => exact ⟨k + 1, _, by omega, by go_num, by first | rfl | exact World.drewN_drewN _ _ _, by rw [Hid, HS1.out, ha.out, hA.out]; rfl⟩
            case measure => simp [intOf]; omega
          · have HN := Shh.mk (HNOT.out (hno (agree_not h46 hsm)))
            have hb2 : (((w[k]'hlt).toNat : Int) != ((E[k]'hlE).toNat : Int)) = true := by simpa using hsm
            clear hs1 hno h46 hsm
            go_wp2
            go_quiet (fail)
            go_wp2
            go_ret
            exact ⟨ret_bool HN.out.symm, by first | exact ((Boxed.made W _ n w s a).drewN _).below | exact (((Boxed.made W _ n w s a).drewN _).drewN _).below⟩
      · have hk' : k = w.size := by omega
        have HR := Shh.mk (HFIT.out (by rw [← hk']; exact ha.out))
        clear hk' ha HFIT HNOT
        obtain ⟨X, hX⟩ : ∃ X, cutX false word s = X := ⟨_, rfl⟩
        obtain ⟨t, ht⟩ : ∃ t, fitX false word s = t := ⟨_, rfl⟩
        rw [ht] at HR
        have HX := Shh.mk hX
        have HT := Shh.mk ht
        clear hX ht
        go_wp2_with fail
        refine (cut_any false n w s a word s _ hwd HX.out HT.out).mono ?_
        rintro e w1 ⟨rfl, hb1⟩
        have hB1 := ((Boxed.made W false n w s a).drewN m).next hb1
        go_wp2
        go_ret
        exact ⟨ret_bool HR.out.symm, hB1.below⟩
  · have HR := hid (matchX_short (f := false) (s := s) h1)
    have h11 : (word.size : Int) < (w.size : Int) := by omega
    go_enter Try.func181, Try.ntmps181
    go_wp2
    go_ret
    exact ⟨ret_bool HR.out.symm, (Boxed.made W false n w s a).below⟩
theorem matchesI {f : Bool} {n w s a word : ByteArray} {v : Bool} (h : matchX f w s word = v) (W : World) (hw : w.size ≤ maxLen) (hwd : word.size ≤ maxLen) :
    Calls Try.prog 181 #[.agg #[.string n, .bool f, .string w, .string s, .string a], .string word] W fun e w' => e = .returned (.bool v) ∧ Below W.heap.size W w' := by
  rw [← h]
  cases f
  · exact matches_false n w s a word W hw hwd
  · exact matches_true n w s a word W hw hwd
end Go.Proofs.Ytilagppmljpclaa
