/-
  Words that arise when a letter is taken, and words that differ in one letter: plain facts, the model's functions and the program's.
  Words that arise when a letter is taken, words that differ in one letter: the program's; the codes of a lexicon and a word.
-/
import Derived.Test.YtpjekfebpgjgnaaUA
import Derived.Test.YtpjekfebpgjgnaaB
import Derived.Test.YtpjekfebpgjgnaaL0
import Derived.Deep.QuietTactic
import Derived.Test.YtpjekfebpgjgnaaL5
namespace Go.Proofs.Ytpjekfebpgjgnaa
open Go.RowKit

structure ShE (p : Prop) : Prop where
  out : p
/-- A string without its byte at i. -/
def dropAt (s : ByteArray) (i : Nat) : ByteArray := s.extract 0 i ++ s.extract (i + 1) s.size
def lessTo (short long : ByteArray) (k : Nat) : Bool := (List.range k).any fun i => (dropAt long i).toList == short.toList
/-- Whether the first string arises when a byte is taken from the second. -/
def lessS (short long : ByteArray) : Bool := lessTo short long long.size
theorem lessTo_succ (short long : ByteArray) (k : Nat) : lessTo short long (k + 1) = (lessTo short long k || ((dropAt long k).toList == short.toList)) := by simp [lessTo, List.range_succ]
theorem dropAt_size {s : ByteArray} {i : Nat} (h : i < s.size) : (dropAt s i).size + 1 = s.size := by
  unfold dropAt
  rw [ByteArray.size_append, ByteArray.size_extract, ByteArray.size_extract]
  omega
theorem lessTo_found {short long : ByteArray} {k : Nat} (hk : k < long.size) (h : ((dropAt long k).toList == short.toList) = true) : lessS short long = true := by
  unfold lessS lessTo
  rw [List.any_eq_true]
  exact ⟨k, List.mem_range.2 hk, h⟩
theorem same_of {a b : ByteArray} (h : (a.toList == b.toList) = true) : a = b := by
  by_cases e : a = b
  · exact e
  · rw [strNe e] at h; cases h
theorem lessS_size {short long : ByteArray} (h : ¬ short.size + 1 = long.size) : lessS short long = false := by
  rw [Bool.eq_false_iff]
  intro ha
  unfold lessS lessTo at ha
  rw [List.any_eq_true] at ha
  obtain ⟨i, hi, he⟩ := ha
  have h1 := congrArg ByteArray.size (same_of he)
  have := dropAt_size (List.mem_range.1 hi)
  omega
def byteS (s : ByteArray) (i : Nat) : Int := byteAt s.data.toList i
def diffN (a b : ByteArray) (k : Nat) : Nat := (List.range k).countP fun i => decide (byteS a i ≠ byteS b i)
/-- Whether two strings differ in exactly one byte. -/
def nearS (a b : ByteArray) : Bool := decide (a.size = b.size) && decide (diffN a b a.size = 1)
theorem diffN_succ (a b : ByteArray) (k : Nat) : diffN a b (k + 1) = diffN a b k + (if byteS a k ≠ byteS b k then 1 else 0) := by
  unfold diffN
  rw [List.range_succ, List.countP_append, List.countP_singleton]
  simp
theorem diffN_comm (a b : ByteArray) (k : Nat) : diffN a b k = diffN b a k := by
  unfold diffN
  congr 1
  funext i
  exact decide_eq_decide.2 ⟨fun h e => h e.symm, fun h e => h e.symm⟩
theorem nearS_comm (a b : ByteArray) : nearS a b = nearS b a := by
  unfold nearS
  by_cases h : a.size = b.size
  · rw [decide_eq_true h, decide_eq_true h.symm, diffN_comm, h]
  · have h' : ¬ b.size = a.size := fun e => h e.symm
    simp [h, h']
theorem nearS_size {a b : ByteArray} (h : ¬ a.size = b.size) : nearS a b = false := by simp [nearS, h]
theorem nearS_same {a b : ByteArray} (h : a.size = b.size) : nearS a b = (((diffN a b a.size : Nat) : Int) == 1) := by
  unfold nearS
  rw [decide_eq_true h, Bool.true_and, Bool.eq_iff_iff, decide_eq_true_eq, beq_iff_eq]
  omega
theorem diffN_le (a b : ByteArray) (k : Nat) : diffN a b k ≤ k := by
  unfold diffN
  exact Nat.le_trans List.countP_le_length (by simp)

theorem extract_mid {s : ByteArray} {k : Nat} (h : k < s.size) : (s.extract 0 k).size + (s.extract (k + 1) s.size).size + 1 = s.size := by
  rw [ByteArray.size_extract, ByteArray.size_extract]
  omega
set_option maxHeartbeats 1000000 in
theorem l10Less_any (a b : ByteArray) (w : World) (ha : a.size ≤ 1048576) (hb : b.size ≤ 1048576) :
    Calls Try.prog 90 #[.string a, .string b] w fun e w' => e = .returned (.bool (lessS a b)) ∧ ∃ k, w' = w.drewN k := by
  by_cases hz : a.size + 1 = b.size
  · have hzi : (((a.size : Int) + 1) != (b.size : Int)) = false := by
      rw [show (a.size : Int) + 1 = (b.size : Int) by omega]; simp
    go_enter Try.func90, Try.ntmps90
    go_wp2
    go_loopw [5] (fun i wr => ∃ k m : Nat, k ≤ b.size ∧ i = .int .i64 k ∧ wr = w.drewN m ∧ ShE (lessTo a b k = false)) (fun i _ => b.size - (intOf i).toNat)
    case atStart => exact ⟨0, 0, Nat.zero_le _, rfl, rfl, ⟨rfl⟩⟩
    case round =>
      obtain ⟨k, m, hk, rfl, rfl, hf⟩ := hrel
      by_cases hlt : k < b.size
      · have hS := ShE.mk (lessTo_succ a b k)
        have hF := lessTo_found (short := a) hlt
        have hmid := extract_mid hlt
        have HD := ShE.mk (show dropAt b k = b.extract 0 k ++ b.extract (k + 1) b.size from rfl)
        have h1 : (0 : Int) ≤ (k : Int) := by omega
        have h2 : (k : Int) ≤ (b.size : Int) := by omega
        have h3 : (0 : Int) ≤ (k : Int) + 1 := by omega
        have h4 : (k : Int) + 1 ≤ (b.size : Int) := by omega
        obtain ⟨X, hX⟩ : ∃ X, b.extract 0 k = X := ⟨_, rfl⟩
        obtain ⟨Y, hY⟩ : ∃ Y, b.extract (k + 1) b.size = Y := ⟨_, rfl⟩
        rw [hX, hY] at hmid HD
        have h5 : ¬ 9223372036854775807 < X.size + Y.size := by omega
        have h6 : ¬ 9223372036854775807 < X.size + Y.size + 1 := by omega
        rw [HD.out] at hF hS
        cases hc : ((X ++ Y).toList == a.toList)
        · have HN := ShE.mk (show lessTo a b (k + 1) = false by rw [hS.out, hf.out, hc]; rfl)
          clear hF hS hmid HD hf
          go_wp2
          go_quiet (fail)
          go_wp2
          go_roundw
          case rel => exact ⟨k + 1, _, by omega, by go_num, by first | rfl | exact World.drewN_drewN _ _ _, HN⟩
          case measure => simp [intOf]; omega
        · have HN := ShE.mk (hF hc)
          clear hF hS hmid HD hf
          go_wp2
          go_quiet (fail)
          go_wp2
          go_ret
          exact ⟨ret_bool HN.out.symm, _, by first | rfl | exact World.drewN_drewN _ _ _⟩
      · obtain rfl : k = b.size := by omega
        go_wp2
        go_ret
        exact ⟨ret_bool hf.out.symm, _, rfl⟩
  · have hzi : (((a.size : Int) + 1) != (b.size : Int)) = true := bne_iff_ne.2 (by omega)
    have HR := ShE.mk (lessS_size hz)
    go_enter Try.func90, Try.ntmps90
    go_wp2
    go_ret
    exact ⟨ret_bool HR.out.symm, 0, rfl⟩
set_option maxHeartbeats 1000000 in
theorem l10Near_any (a b : ByteArray) (w : World) (ha : a.size ≤ 1048576) (_hb : b.size ≤ 1048576) :
    Calls Try.prog 97 #[.string a, .string b] w fun e w' => e = .returned (.bool (nearS a b)) ∧ ∃ k, w' = w.drewN k := by
  by_cases hz : a.size = b.size
  · have hzi : ((a.size : Int) != (b.size : Int)) = false := by
      rw [show (a.size : Int) = (b.size : Int) by omega]; simp
    have HR := ShE.mk (nearS_same hz)
    have hz' := ShE.mk hz
    clear hz
    go_enter Try.func97, Try.ntmps97
    go_wp2
    go_loopw [5, 6] (fun n i wr => ∃ k m : Nat, k ≤ a.size ∧ i = .int .i64 k ∧ wr = w.drewN m ∧ ShE (n = .int .i64 (diffN a b k : Nat))) (fun _ i _ => a.size - (intOf i).toNat)
    case atStart => exact ⟨0, 0, Nat.zero_le _, rfl, rfl, ⟨rfl⟩⟩
    case round =>
      obtain ⟨k, m, hk, rfl, rfl, ⟨hn⟩⟩ := hrel
      subst hn
      by_cases hlt : k < a.size
      · have hltb : k < b.size := by have := hz'.out; omega
        have hS := diffN_succ a b k
        have hle := diffN_le a b k
        unfold byteS at hS
        rw [byteAt_eq a k hlt, byteAt_eq b k hltb] at hS
        have hda : decide (k < a.size) = true := decide_eq_true hlt
        have hdb : decide (k < b.size) = true := decide_eq_true hltb
        obtain ⟨N, hN⟩ : ∃ N, diffN a b k = N := ⟨_, rfl⟩
        rw [hN] at hS hle ⊢
        by_cases he : ((a[k]'hlt).toNat : Int) = ((b[k]'hltb).toNat : Int)
        · have hb2 : (((a[k]'hlt).toNat : Int) != ((b[k]'hltb).toNat : Int)) = false := by simp [he]
          have HS := ShE.mk (show diffN a b (k + 1) = N by rw [hS, if_neg (fun h => h he)]; rfl)
          clear hS hN he
          go_wp2
          go_quiet (fail)
          go_wp2
          go_roundw
          case rel => exact ⟨k + 1, _, by omega, by go_num, by first | rfl | exact World.drewN_drewN _ _ _, ⟨by rw [HS.out]⟩⟩
          case measure => simp [intOf]; omega
        · have hb2 : (((a[k]'hlt).toNat : Int) != ((b[k]'hltb).toNat : Int)) = true := by simpa using he
          have HS := ShE.mk (show diffN a b (k + 1) = N + 1 by rw [hS, if_pos he])
          clear hS hN he
          go_wp2
          go_quiet (fail)
          go_wp2
          go_roundw
          case rel => exact ⟨k + 1, _, by omega, by go_num, by first | rfl | exact World.drewN_drewN _ _ _, ⟨by rw [HS.out]; go_num⟩⟩
          case measure => simp [intOf]; omega
      · obtain rfl : k = a.size := by omega
        have hle := diffN_le a b a.size
        obtain ⟨N, hN⟩ : ∃ N, diffN a b a.size = N := ⟨_, rfl⟩
        rw [hN] at HR hle ⊢
        go_wp2
        go_ret
        exact ⟨ret_bool HR.out.symm, _, rfl⟩
  · have hzi : ((a.size : Int) != (b.size : Int)) = true := bne_iff_ne.2 (by omega)
    have HR := ShE.mk (nearS_size hz)
    go_enter Try.func97, Try.ntmps97
    go_wp2
    go_ret
    exact ⟨ret_bool HR.out.symm, 0, rfl⟩
end Go.Proofs.Ytpjekfebpgjgnaa

namespace Go.Proofs.Ytpjekfebpgjgnaa
open Go.RowKit

theorem small_at {s : ByteArray} (h : allSmall s.data.toList = true) {k : Nat} (hk : k < s.size) : smallB ((s[k]'hk).toNat : Int) = true := by
  unfold allSmall at h
  rw [List.all_eq_true] at h
  exact h _ (at_mem s k hk)
theorem iter_drawn (w : World) (s : ByteArray) (k n : Nat) : (w.iter s k).drewN n = (w.drewN n).iter s k := rfl
theorem iter_more (w : World) (s : ByteArray) (k m n : Nat) : ((w.drewN m).iter s k).drewN n = (w.drewN (m + n)).iter s k := by rw [iter_drawn, World.drewN_drewN]
theorem iter_pos (w : World) (s : ByteArray) (k m : Nat) : ((w.drewN m).iter s k).iterPos w.heap.size = k := by
  exact World.iterPos_iter (w.drewN m) s k
theorem iter_pos2 (w : World) (s : ByteArray) (k m n : Nat) : (((w.drewN m).iter s k).drewN n).iterPos w.heap.size = k := by rw [iter_more]; exact iter_pos _ _ _ _
theorem iter_below (w : World) (s : ByteArray) (k m : Nat) : Below w.heap.size w ((w.drewN m).iter s k) := (below_drewN (Below.refl w.heap.size w) m).trans (below_iter (w := w.drewN m) s k)
set_option maxHeartbeats 1000000 in
theorem isDrop_any (b a : ByteArray) (w : World) (hb : b.size ≤ 1048576) (hal : allSmall b.data.toList = true) :
    Calls Try.prog 86 #[.string b, .string a] w fun e w' => e = .returned (.bool (lessS a b)) ∧ Below w.heap.size w w' := by
  go_enter Try.func86, Try.ntmps86
  go_wp2
  go_loopw [5] (fun _ wr => ∃ k m : Nat, k ≤ b.size ∧ wr = (w.drewN m).iter b k ∧ ShE (lessTo a b k = false)) (fun _ wr => b.size - wr.iterPos w.heap.size)
  case atStart => exact ⟨0, 0, Nat.zero_le _, rfl, ⟨rfl⟩⟩
  case round =>
    obtain ⟨k, m, hk, rfl, hf⟩ := hrel
    by_cases hp : k < b.size
    · have hS := ShE.mk (lessTo_succ a b k)
      have hF := lessTo_found (short := a) hp
      have hmid := extract_mid hp
      have HD := ShE.mk (show dropAt b k = b.extract 0 k ++ b.extract (k + 1) b.size from rfl)
      have hd1 := decode_one b k hp (small_at hal hp)
      have hnx : ∀ ty, (Instr.next (.pointer (some ⟨w.heap.size, 0, none⟩)) true ty).run Try.prog ((w.drewN m).iter b k) = _ := fun ty => run_next_any (w.drewN m) b k ty hp
      rw [hd1] at hnx
      have h1 : (0 : Int) ≤ (k : Int) := by omega
      have h2 : (k : Int) ≤ (b.size : Int) := by omega
      have h3 : (0 : Int) ≤ (k : Int) + 1 := by omega
      have h4 : (k : Int) + 1 ≤ (b.size : Int) := by omega
      obtain ⟨X, hX⟩ : ∃ X, b.extract 0 k = X := ⟨_, rfl⟩
      obtain ⟨Y, hY⟩ : ∃ Y, b.extract (k + 1) b.size = Y := ⟨_, rfl⟩
      rw [hX, hY] at hmid HD
      have h5 : ¬ 9223372036854775807 < X.size + Y.size := by omega
      have h6 : ¬ 9223372036854775807 < X.size + Y.size + 1 := by omega
      rw [HD.out] at hF hS
      cases hc : ((X ++ Y).toList == a.toList)
      · have HN := ShE.mk (show lessTo a b (k + 1) = false by rw [hS.out, hf.out, hc]; rfl)
        clear hF hS hmid HD hf hd1
        go_wp2
        go_quiet (fail)
        go_wp2
        go_roundw
        case rel => exact ⟨k + 1, m + nq, by omega, iter_more _ _ _ _ _, HN⟩
        case measure => first | (simp only [iter_pos, iter_pos2]; omega) | (simp; omega)
      · have HN := ShE.mk (hF hc)
        clear hF hS hmid HD hf hd1
        go_wp2
        go_quiet (fail)
        go_wp2
        go_ret
        exact ⟨ret_bool HN.out.symm, below_drewN (iter_below _ _ _ _) _⟩
    · have hnx : ∀ ty, (Instr.next (.pointer (some ⟨w.heap.size, 0, none⟩)) true ty).run Try.prog ((w.drewN m).iter b k) = _ := fun ty => run_next_end (w.drewN m) b k ty hp
      obtain rfl : k = b.size := by omega
      go_wp2
      go_ret
      exact ⟨ret_bool hf.out.symm, iter_below _ _ _ _⟩
set_option maxHeartbeats 1000000 in
theorem isChange_any (a b : ByteArray) (w : World) (ha : a.size ≤ 1048576) (hal : allSmall a.data.toList = true) :
    Calls Try.prog 112 #[.string a, .string b] w fun e w' => e = .returned (.bool (nearS a b)) ∧ Below w.heap.size w w' := by
  by_cases hz : a.size = b.size
  · have hzi : ((a.size : Int) != (b.size : Int)) = false := by
      rw [show (a.size : Int) = (b.size : Int) by omega]; simp
    have HR := ShE.mk (nearS_same hz)
    have hz' := ShE.mk hz
    clear hz
    go_enter Try.func112, Try.ntmps112
    go_wp2
    go_loopw [5, 6] (fun n _ wr => ∃ k m : Nat, k ≤ a.size ∧ wr = (w.drewN m).iter a k ∧ ShE (n = .int .i64 (diffN a b k : Nat))) (fun _ _ wr => a.size - wr.iterPos w.heap.size)
    case atStart => exact ⟨0, 0, Nat.zero_le _, rfl, ⟨rfl⟩⟩
    case round =>
      obtain ⟨k, m, hk, rfl, ⟨hn⟩⟩ := hrel
      subst hn
      by_cases hlt : k < a.size
      · have hltb : k < b.size := by have := hz'.out; omega
        have hS := diffN_succ a b k
        have hle := diffN_le a b k
        have hd1 := decode_one a k hlt (small_at hal hlt)
        have hnx : ∀ ty, (Instr.next (.pointer (some ⟨w.heap.size, 0, none⟩)) true ty).run Try.prog ((w.drewN m).iter a k) = _ := fun ty => run_next_any (w.drewN m) a k ty hlt
        rw [hd1] at hnx
        unfold byteS at hS
        rw [byteAt_eq a k hlt, byteAt_eq b k hltb] at hS
        have hda : decide (k < a.size) = true := decide_eq_true hlt
        have hdb : decide (k < b.size) = true := decide_eq_true hltb
        obtain ⟨N, hN⟩ : ∃ N, diffN a b k = N := ⟨_, rfl⟩
        rw [hN] at hS hle ⊢
        by_cases he : ((a[k]'hlt).toNat : Int) = ((b[k]'hltb).toNat : Int)
        · have hb2 : (((a[k]'hlt).toNat : Int) != ((b[k]'hltb).toNat : Int)) = false := by simp [he]
          have HS := ShE.mk (show diffN a b (k + 1) = N by rw [hS, if_neg (fun h => h he)]; rfl)
          clear hS hN he hd1
          go_wp2
          go_quiet (fail)
          go_wp2
          go_roundw
          case rel => exact ⟨k + 1, m + nq, by omega, iter_more _ _ _ _ _, ⟨by rw [HS.out]⟩⟩
          case measure => first | (simp only [iter_pos, iter_pos2]; omega) | (simp; omega)
        · have hb2 : (((a[k]'hlt).toNat : Int) != ((b[k]'hltb).toNat : Int)) = true := by simpa using he
          have HS := ShE.mk (show diffN a b (k + 1) = N + 1 by rw [hS, if_pos he])
          clear hS hN he hd1
          go_wp2
          go_quiet (fail)
          go_wp2
          go_roundw
          case rel => exact ⟨k + 1, m + nq, by omega, iter_more _ _ _ _ _, ⟨by rw [HS.out]; go_num⟩⟩
          case measure => first | (simp only [iter_pos, iter_pos2]; omega) | (simp; omega)
      · have hnx : ∀ ty, (Instr.next (.pointer (some ⟨w.heap.size, 0, none⟩)) true ty).run Try.prog ((w.drewN m).iter a k) = _ := fun ty => run_next_end (w.drewN m) a k ty hlt
        obtain rfl : k = a.size := by omega
        have hle := diffN_le a b a.size
        obtain ⟨N, hN⟩ : ∃ N, diffN a b a.size = N := ⟨_, rfl⟩
        rw [hN] at HR hle ⊢
        go_wp2
        go_ret
        exact ⟨ret_bool HR.out.symm, iter_below _ _ _ _⟩
  · have hzi : ((a.size : Int) != (b.size : Int)) = true := bne_iff_ne.2 (by omega)
    have HR := ShE.mk (nearS_size hz)
    go_enter Try.func112, Try.ntmps112
    go_wp2
    go_ret
    exact ⟨ret_bool HR.out.symm, Below.refl _ _⟩

/-- The code of a lexicon and a word. -/
def codeW (us : List ByteArray) (s : ByteArray) : Int := if okL us = false then 1 else if isWordB s.data.toList = false then 7 else 0
theorem codeW_bad {us : List ByteArray} {s : ByteArray} (h : okL us = false) : codeW us s = 1 := by simp [codeW, h]
theorem codeW_word {us : List ByteArray} {s : ByteArray} (h : okL us = true) (h2 : isWordB s.data.toList = false) : codeW us s = 7 := by simp [codeW, h, h2]
theorem codeW_yes {us : List ByteArray} {s : ByteArray} (h : okL us = true) (h2 : isWordB s.data.toList = true) : codeW us s = 0 := by simp [codeW, h, h2]
theorem wordF {s : ByteArray} {b : Bool} (h : isWordB s.data.toList = b) (w : World) (hs : s.size ≤ 1048576) : Calls Try.prog 78 #[.string s] w fun e w' => e = .returned (.bool b) ∧ w = w' := by
  rw [← h]; exact specIsWord_any s w (by unfold maxLen; omega)
theorem wordI {s : ByteArray} {b : Bool} (h : isWordB s.data.toList = b) (w : World) (hs : s.size ≤ 1048576) : Calls Try.prog 29 #[.string s] w fun e w' => e = .returned (.bool b) ∧ Below w.heap.size w w' := by
  rw [← h]; exact implIsWord_any s w (by unfold maxLen; omega)
theorem l10Code_any {g : Nat} {v : Value} {us : List ByteArray} (s : ByteArray) (W : World) (hg : LexAt W g v us) (hz : ∀ s ∈ us, s.size ≤ maxLen) (hs : s.size ≤ 1048576) :
    Calls Try.prog 88 #[.pointer (some ⟨g, 0, none⟩), .string s] W fun e w' => e = .returned (.int .i64 (codeW us s)) ∧ ∃ k, w' = W.drewN k := by
  cases hok : okL us
  · have HR := ShE.mk (codeW_bad (s := s) hok)
    have HO := ShE.mk hok
    clear hok
    go_enter Try.func88, Try.ntmps88
    go_wp2_with fail
    refine (ok_is HO.out _ hg hz).mono ?_
    rintro e w1 ⟨rfl, k, rfl⟩
    go_wp2
    go_ret
    exact ⟨ret_i64 HR.out.symm, _, rfl⟩
  · have HO := ShE.mk hok
    cases hwd : isWordB s.data.toList
    · have HR := ShE.mk (codeW_word hok hwd)
      have HW := ShE.mk hwd
      clear hok hwd
      go_enter Try.func88, Try.ntmps88
      go_wp2_with fail
      refine (ok_is HO.out _ hg hz).mono ?_
      rintro e w1 ⟨rfl, k, rfl⟩
      go_wp2_with fail
      refine (wordF HW.out _ hs).mono ?_
      rintro e w1 ⟨rfl, rfl⟩
      go_wp2
      go_ret
      exact ⟨ret_i64 HR.out.symm, _, rfl⟩
    · have HR := ShE.mk (codeW_yes hok hwd)
      have HW := ShE.mk hwd
      clear hok hwd
      go_enter Try.func88, Try.ntmps88
      go_wp2_with fail
      refine (ok_is HO.out _ hg hz).mono ?_
      rintro e w1 ⟨rfl, k, rfl⟩
      go_wp2_with fail
      refine (wordF HW.out _ hs).mono ?_
      rintro e w1 ⟨rfl, rfl⟩
      go_wp2
      go_ret
      exact ⟨ret_i64 HR.out.symm, _, rfl⟩
theorem code_is {g : Nat} {v : Value} {us : List ByteArray} {s : ByteArray} {c : Int} (h : codeW us s = c) (W : World) (hg : LexAt W g v us) (hz : ∀ s ∈ us, s.size ≤ maxLen) (hs : s.size ≤ 1048576) :
    Calls Try.prog 88 #[.pointer (some ⟨g, 0, none⟩), .string s] W fun e w' => e = .returned (.int .i64 c) ∧ ∃ k, w' = W.drewN k := by rw [← h]; exact l10Code_any s W hg hz hs
theorem checkWord_any {v : Value} {us : List ByteArray} (s : ByteArray) (w : World) (hu : Strs w v us) (hz : ∀ s ∈ us, s.size ≤ maxLen) (hs : s.size ≤ 1048576) :
    Calls Try.prog 142 #[.agg #[v], .string s] w fun e w' => e = .returned (.int .i64 (codeW us s)) ∧ Below w.heap.size w w' := by
  have HG := ShE.mk (LexAt.made hu)
  have c0 := HG.out.blk.cells
  have HB := ShE.mk ((Below.refl w.heap.size w).alloc (Nat.le_refl _) (.cells #[v] 26))
  cases hok : okL us
  · have HR := ShE.mk (codeW_bad (s := s) hok)
    have HO := ShE.mk hok
    clear hok
    go_enter Try.func142, Try.ntmps142
    go_wp2_with fail
    refine (valid_on HO.out _ HG.out.strs hz).mono ?_
    rintro e w1 ⟨rfl, hb1⟩
    go_wp2
    go_ret
    exact ⟨ret_i64 HR.out.symm, HB.out.trans (hb1.mono HB.out.size)⟩
  · have HO := ShE.mk hok
    cases hwd : isWordB s.data.toList
    · have HR := ShE.mk (codeW_word hok hwd)
      have HW := ShE.mk hwd
      clear hok hwd
      go_enter Try.func142, Try.ntmps142
      go_wp2_with fail
      refine (valid_on HO.out _ HG.out.strs hz).mono ?_
      rintro e w1 ⟨rfl, hb1⟩
      have HB1 := ShE.mk (HB.out.trans (hb1.mono HB.out.size))
      go_wp2_with fail
      refine (wordI HW.out _ hs).mono ?_
      rintro e w2 ⟨rfl, hb2⟩
      go_wp2
      go_ret
      exact ⟨ret_i64 HR.out.symm, HB1.out.trans (hb2.mono HB1.out.size)⟩
    · have HR := ShE.mk (codeW_yes hok hwd)
      have HW := ShE.mk hwd
      clear hok hwd
      go_enter Try.func142, Try.ntmps142
      go_wp2_with fail
      refine (valid_on HO.out _ HG.out.strs hz).mono ?_
      rintro e w1 ⟨rfl, hb1⟩
      have HB1 := ShE.mk (HB.out.trans (hb1.mono HB.out.size))
      go_wp2_with fail
      refine (wordI HW.out _ hs).mono ?_
      rintro e w2 ⟨rfl, hb2⟩
      go_wp2
      go_ret
      exact ⟨ret_i64 HR.out.symm, HB1.out.trans (hb2.mono HB1.out.size)⟩
theorem check_is {v : Value} {us : List ByteArray} {s : ByteArray} {c : Int} (h : codeW us s = c) (w : World) (hu : Strs w v us) (hz : ∀ s ∈ us, s.size ≤ maxLen) (hs : s.size ≤ 1048576) :
    Calls Try.prog 142 #[.agg #[v], .string s] w fun e w' => e = .returned (.int .i64 c) ∧ Below w.heap.size w w' := by rw [← h]; exact checkWord_any s w hu hz hs
end Go.Proofs.Ytpjekfebpgjgnaa
