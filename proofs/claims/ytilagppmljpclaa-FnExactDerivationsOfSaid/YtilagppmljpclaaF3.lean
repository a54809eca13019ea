/-
  The model's functions on affixes.
-/
import Derived.Test.YtilagppmljpclaaF2
import Derived.Test.YtilagppmljpclaaL0
import Derived.Test.YtilagppmljpclaaK1
namespace Go.Proofs.Ytilagppmljpclaa
open Go.RowKit

set_option maxHeartbeats 1000000 in
theorem l04Letters_any (d : Bool) (s : ByteArray) (w : World) (hs : s.size ≤ maxLen) :
    Calls Try.prog 173 #[.string s, .bool d] w fun e w' => e = .returned (.bool (partB d s)) ∧ w = w' := by
  unfold maxLen at hs
  go_enter Try.func173, Try.ntmps173
  go_wp2
  go_loop [5] (fun i => ∃ k : Nat, k ≤ s.size ∧ i = .int .i64 k ∧ Hid (allDot d (s.data.toList.take k) = true)) (fun i => s.size - (intOf i).toNat)
  case atStart => exact ⟨0, Nat.zero_le _, rfl, by simp [Hid, allDot]⟩
  case round =>
    obtain ⟨k, hk, rfl, ha⟩ := hrel
    by_cases hlt : k < s.size
    · have hg := hid (allDot_grows d s k hlt)
      have hno := partB_not d s k hlt
      cases hb : smallB (s[k].toNat : Int)
      · have HB := hid hb
        cases d
        · have hN := hid (hno (by rw [dotB_plain]; exact hb))
          clear hno hb
          go_wp2_with (go_at_call 113; refine (l01Small_any _ _).mono ?_; rw [HB.out]; rintro e w' ⟨rfl, rfl⟩)
          go_ret
          exact ⟨ret_bool hN.out.symm, rfl⟩
        · by_cases h46 : (s[k].toNat : Int) = 46
          · have hd := hid (dotB_dot h46)
            have h1 : (46 : Int) ≤ (s[k].toNat : Int) := by omega
            have h2 : (s[k].toNat : Int) ≤ 46 := by omega
            clear hno hb h46
            go_wp2_with (go_at_call 113; refine (l01Small_any _ _).mono ?_; rw [HB.out]; rintro e w' ⟨rfl, rfl⟩)
            go_round
            case rel => exact ⟨k + 1, by omega, by go_num, by rw [Hid, hg.out, ha.out, hd.out]; rfl⟩
            case measure => simp [intOf]; omega
          · have hN := hid (hno (dotB_none hb h46))
            have h46' : ((s[k].toNat : Int) != 46) = true := by simpa using h46
            clear hno hb h46
            go_wp2_with (go_at_call 113; refine (l01Small_any _ _).mono ?_; rw [HB.out]; rintro e w' ⟨rfl, rfl⟩)
            go_ret
            exact ⟨ret_bool hN.out.symm, rfl⟩
      · have HB := hid hb
        have hd := hid (dotB_small (d := d) hb)
        clear hb hno
        go_wp2_with (go_at_call 113; refine (l01Small_any _ _).mono ?_; rw [HB.out]; rintro e w' ⟨rfl, rfl⟩)
        go_round
        case rel => exact ⟨k + 1, by omega, by go_num, by rw [Hid, hg.out, ha.out, hd.out]; rfl⟩
        case measure => simp [intOf]; omega
    · have hk' : s.size = k := by omega
      have ha' : allDot d s.data.toList = true := by rw [← take_all s, hk']; exact ha.out
      have HA := hid (partB_all ha')
      clear ha' hk' ha
      go_wp2
      go_ret
      refine ⟨ret_bool ?_, rfl⟩
      rw [HA.out, Bool.eq_iff_iff, decide_eq_true_eq, decide_eq_true_eq]
      omega


/-- An affix in memory. -/
structure AffAt (W : World) (g o : Nat) (f : Bool) (n w s a : ByteArray) : Prop where
  c0 : W.cell? ⟨g, o, none⟩ = some (.string n)
  c1 : W.cell? ⟨g, o + 1, none⟩ = some (.bool f)
  c2 : W.cell? ⟨g, o + 2, none⟩ = some (.string w)
  c3 : W.cell? ⟨g, o + 3, none⟩ = some (.string s)
  c4 : W.cell? ⟨g, o + 4, none⟩ = some (.string a)
theorem AffAt.of {W : World} {g : Nat} {t : TypeId} {f : Bool} {n w s a : ByteArray} (h : Blk W g t #[.string n, .bool f, .string w, .string s, .string a]) : AffAt W g 0 f n w s a :=
  ⟨h.cells 0, h.cells 1, h.cells 2, h.cells 3, h.cells 4⟩
theorem AffAt.made (W : World) (t : TypeId) (f : Bool) (n w s a : ByteArray) : AffAt (W.alloc (.cells #[.string n, .bool f, .string w, .string s, .string a] t)) W.heap.size 0 f n w s a := .of (Blk.made W t _)

theorem nameF {s : ByteArray} {w : World} {v : Bool} (hs : s.size ≤ maxLen) (h : isNameB s.data.toList = v) : Calls Try.prog 172 #[.string s] w fun e w' => e = .returned (.bool v) ∧ w = w' := by rw [← h]; exact specIsName_any s w hs
theorem lettersF {d : Bool} {s : ByteArray} {w : World} {v : Bool} (hs : s.size ≤ maxLen) (h : partB d s = v) : Calls Try.prog 173 #[.string s, .bool d] w fun e w' => e = .returned (.bool v) ∧ w = w' := by rw [← h]; exact l04Letters_any d s w hs

set_option maxRecDepth 100000 in
set_option maxHeartbeats 4000000 in
theorem l04Affix_any {g o : Nat} {f : Bool} {n w s a : ByteArray} (W : World) (hg : AffAt W g o f n w s a) (hn : n.size ≤ maxLen) (hw : w.size ≤ maxLen) (hs : s.size ≤ maxLen) (ha : a.size ≤ maxLen) :
    Calls Try.prog 122 #[.pointer (some ⟨g, o, none⟩)] W fun e w' => e = .returned (.bool (affB n w s a)) ∧ ∃ k, w' = W.drewN k := by
  obtain ⟨c0, c1, c2, c3, c4⟩ := hg
  cases h1 : isNameB n.data.toList
  · have HR := hid (affB_name (w := w) (s := s) (a := a) h1)
    have H1 := hid h1
    clear h1
    go_enter Try.func122, Try.ntmps122
    go_wp2
    go_quiet (first | (go_at_call 172; exact quietF (nameF hn H1.out)))
    go_wp2
    go_ret
    exact ⟨ret_bool HR.out.symm, _, rfl⟩
  · have H1 := hid h1
    cases h2 : partB true w
    · have HR := hid (affB_when (n := n) (s := s) (a := a) h2)
      have H2 := hid h2
      clear h1 h2
      go_enter Try.func122, Try.ntmps122
      go_wp2
      go_quiet (first | (go_at_call 172; exact quietF (nameF hn H1.out)) | (go_at_call 173; first | with_reducible exact quietF (lettersF hw H2.out)))
      go_wp2
      go_ret
      exact ⟨ret_bool HR.out.symm, _, rfl⟩
    · have H2 := hid h2
      cases h3 : partB false s
      · have HR := hid (affB_strip (n := n) (w := w) (a := a) h3)
        have H3 := hid h3
        clear h1 h2 h3
        go_enter Try.func122, Try.ntmps122
        go_wp2
        go_quiet (first | (go_at_call 172; exact quietF (nameF hn H1.out)) | (go_at_call 173; first | with_reducible exact quietF (lettersF hw H2.out) | with_reducible exact quietF (lettersF hs H3.out)))
        go_wp2
        go_ret
        exact ⟨ret_bool HR.out.symm, _, rfl⟩
      · have H3 := hid h3
        cases h4 : partB false a
        · have HR := hid (affB_add (n := n) (w := w) (s := s) h4)
          have H4 := hid h4
          clear h1 h2 h3 h4
          go_enter Try.func122, Try.ntmps122
          go_wp2
          go_quiet (first | (go_at_call 172; exact quietF (nameF hn H1.out)) | (go_at_call 173; first | with_reducible exact quietF (lettersF hw H2.out) | with_reducible exact quietF (lettersF hs H3.out) | with_reducible exact quietF (lettersF ha H4.out)))
          go_wp2
          go_ret
          exact ⟨ret_bool HR.out.symm, _, rfl⟩
        · have HR := hid (affB_all h1 h2 h3 h4)
          have H4 := hid h4
          clear h1 h2 h3 h4
          go_enter Try.func122, Try.ntmps122
          go_wp2
          go_quiet (first | (go_at_call 172; exact quietF (nameF hn H1.out)) | (go_at_call 173; first | with_reducible exact quietF (lettersF hw H2.out) | with_reducible exact quietF (lettersF hs H3.out) | with_reducible exact quietF (lettersF ha H4.out)))
          go_wp2
          go_ret
          exact ⟨ret_bool HR.out.symm, _, rfl⟩


/-! ### Ends of words -/
theorem endX_front (w : ByteArray) (n : Nat) : endX true w n = w.extract 0 n := rfl
theorem endX_back (w : ByteArray) (n : Nat) : endX false w n = w.extract (w.size - n) w.size := rfl
set_option maxHeartbeats 1000000 in
theorem l04End_yes {g o : Nat} {f : Bool} {n w s a : ByteArray} (W : World) (hg : AffAt W g o f n w s a) (word : ByteArray) (m : Nat) (hm : m ≤ word.size) (hs : word.size ≤ maxLen) {E : ByteArray} (hE : endX f word m = E) :
    Calls Try.prog 201 #[.pointer (some ⟨g, o, none⟩), .string word, .int .i64 (m : Int)] W fun e w' => e = .returned (.tuple #[.string E, .bool true]) ∧ W = w' := by
  have c1 := hg.c1
  unfold maxLen at hs
  have h1 : ¬ (word.size : Int) < (m : Int) := by omega
  cases f
  · have hm2 : ((word.size : Int) - (m : Int)).toNat = word.size - m := by omega
    have hm3 : (0 : Int) ≤ (word.size : Int) - (m : Int) := by omega
    rw [endX_back] at hE
    subst hE
    go_enter Try.func201, Try.ntmps201
    go_wp2
    go_ret2
    exact ⟨rfl, rfl⟩
  · rw [endX_front] at hE
    subst hE
    go_enter Try.func201, Try.ntmps201
    go_wp2
    go_ret2
    exact ⟨rfl, rfl⟩
set_option maxHeartbeats 1000000 in
theorem l04End_no {g o : Nat} (W : World) (word : ByteArray) (m : Nat) (hm : ¬ m ≤ word.size) :
    Calls Try.prog 201 #[.pointer (some ⟨g, o, none⟩), .string word, .int .i64 (m : Int)] W fun e w' => e = .returned (.tuple #[.string ByteArray.empty, .bool false]) ∧ W = w' := by

  have h1 : (word.size : Int) < (m : Int) := by omega
  go_enter Try.func201, Try.ntmps201
  go_wp2
  go_ret2
  exact ⟨rfl, rfl⟩
set_option maxHeartbeats 1000000 in
theorem l04Rest_any {g o : Nat} {f : Bool} {n w s a : ByteArray} (W : World) (hg : AffAt W g o f n w s a) (word : ByteArray) (m : Nat) (hm : m ≤ word.size) (hs : word.size ≤ maxLen) {E : ByteArray} (hE : restX f word m = E) :
    Calls Try.prog 176 #[.pointer (some ⟨g, o, none⟩), .string word, .int .i64 (m : Int)] W fun e w' => e = .returned (.string E) ∧ W = w' := by
  have c1 := hg.c1
  unfold maxLen at hs
  cases f
  · have hm2 : ((word.size : Int) - (m : Int)).toNat = word.size - m := by omega
    have hm3 : (0 : Int) ≤ (word.size : Int) - (m : Int) := by omega
    obtain rfl : word.extract 0 (word.size - m) = E := hE
    go_enter Try.func176, Try.ntmps176
    go_wp2
    go_ret
    exact ⟨rfl, rfl⟩
  · obtain rfl : word.extract m word.size = E := hE
    go_enter Try.func176, Try.ntmps176
    go_wp2
    go_ret
    exact ⟨rfl, rfl⟩
set_option maxHeartbeats 1000000 in
theorem l04Join_any {g o : Nat} {f : Bool} {n w s a : ByteArray} (W : World) (hg : AffAt W g o f n w s a) (r p : ByteArray) (hr : r.size ≤ 1048576) (hp : p.size ≤ 1048576) {E : ByteArray} (hE : joinX f r p = E) :
    Calls Try.prog 175 #[.pointer (some ⟨g, o, none⟩), .string r, .string p] W fun e w' => e = .returned (.string E) ∧ W = w' := by
  have c1 := hg.c1
  have h1 : ¬ 9223372036854775807 < r.size + p.size := by omega
  have h2 : ¬ 9223372036854775807 < p.size + r.size := by omega
  cases f
  · obtain rfl : r ++ p = E := hE
    go_enter Try.func175, Try.ntmps175
    go_wp2
    go_ret
    exact ⟨rfl, rfl⟩
  · obtain rfl : p ++ r = E := hE
    go_enter Try.func175, Try.ntmps175
    go_wp2
    go_ret
    exact ⟨rfl, rfl⟩
end Go.Proofs.Ytilagppmljpclaa
