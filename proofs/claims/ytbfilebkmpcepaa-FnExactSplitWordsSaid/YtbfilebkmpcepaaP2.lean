/-
  The contracts of the model's and the program's SplitWords.
-/
import Derived.Test.YtbfilebkmpcepaaS1
import Derived.Test.YtbfilebkmpcepaaP1
import Derived.Test.YtbfilebkmpcepaaShelfI
import Derived.WalkSpells
namespace Go.Proofs.Ytbfilebkmpcepaa
open Go.RowKit

theorem own_block {B n : Nat} {e : TypeId} {w : World} {v : Value} {xs : List Value} (h : w.ownsRow B e 1 v n xs) : ∀ k, v.ownBlock = some k → B ≤ k := by
  intro k hk
  rcases h.2 with ⟨rfl, _⟩ | ⟨g, cap, cur, rfl, hB, _⟩
  · simp [Value.ownBlock] at hk
  · simp [Value.ownBlock] at hk
    omega

def pc (s : ByteArray) (l : List (Nat × Nat)) : List ByteArray := l.map fun x => s.extract x.1 x.2
theorem info_str : (Try.prog.info? 9).map (fun i => (i.zero, i.size, i.bytes)) = some (some (.string ByteArray.empty), 1, 16) := by kernel_rfl
theorem pc_snoc (s : ByteArray) (l : List (Nat × Nat)) (a b : Nat) : pc s (l ++ [(a, b)]) = pc s l ++ [s.extract a b] := by simp [pc]
/-- One string more on a row of strings. -/
theorem own_snoc {B n : Nat} {w : World} {v : Value} {ss : List ByteArray} {x : ByteArray} (h : w.ownsRow B 9 1 v (n + 1) (ss.map Value.string ++ [.string x])) (hn : n = ss.length) : OwnS B w v (ss ++ [x]) := by
  unfold OwnS
  simpa [hn] using h

set_option maxRecDepth 100000 in
set_option maxHeartbeats 4000000 in
theorem l01Split_any (s : ByteArray) (c : Int) (w : World) (hs : s.size ≤ 1048576) :
    Calls Try.prog 49 #[.string s, .int .u8 c] w fun e w' => ∃ v, e = .returned v ∧ OwnS w.heap.size w' v (pc s (cuts s c)) ∧ Below w.heap.size w w' := by
  obtain ⟨i0, hi, hz0, hz1, hz2⟩ := info_parts info_str
  go_enter Try.func49, Try.ntmps49
  go_wp2
  go_loopw [5, 6, 7] (fun v from' i wr => ∃ k : Nat, k ≤ s.size ∧ i = .int .i64 k ∧ from' = .int .i64 ((cutTo s c k).2 : Int) ∧ OwnS w.heap.size wr v (pc s (cutTo s c k).1) ∧ Below w.heap.size w wr) (fun _ _ i _ => s.size - (intOf i).toNat)
  case atStart => exact ⟨0, Nat.zero_le _, rfl, rfl, World.ownsRow_lit w _ 0 (Nat.le_refl _) (by unfold maxLen; omega) rfl, (Below.refl _ _).alloc (Nat.le_refl _) _⟩
  case round =>
    obtain ⟨k, hk, rfl, rfl, ho, hb⟩ := hrel
    obtain ⟨hfl, hll, -⟩ := cut_le s c k
    have hyes := cutTo_yes (s := s) (c := c) (k := k)
    have hno := cutTo_no (s := s) (c := c) (k := k)
    have hcu := hid (show cuts s c = (cutTo s c s.size).1 ++ [((cutTo s c s.size).2, s.size)] from rfl)
    obtain ⟨fr, hfr⟩ : ∃ fr, (cutTo s c k).2 = fr := ⟨_, rfl⟩
    obtain ⟨out, hout⟩ : ∃ out, (cutTo s c k).1 = out := ⟨_, rfl⟩
    rw [hfr] at hfl hyes ⊢
    rw [hout] at hll hyes ho
    have HFR := hid hfr
    have HOUT := hid hout
    have HO := hid ho
    have hlen : (pc s out).length = out.length := by simp [pc]
    have HLEN := hid hlen
    clear hfr hout ho hlen
    by_cases hlt : k < s.size
    · have HBE := hid (byteAt_eq s k hlt)
      by_cases hc : ((s[k]'hlt).toNat : Int) = c
      · have hcb : (((s[k]'hlt).toNat : Int) == c) = true := beq_iff_eq.2 hc
        have HY := hid (hyes (by rw [HBE.out]; exact hc))
        clear hyes hno hc
        go_wp2_with (at_builtin; refine wpList_append_own _ rfl _ _ 23 rfl w.heap.size 9 i0 (.string ByteArray.empty) 1 16 Try.underlying23 hi hz0 hz1 hz2 rfl (by decide) _ _ _ rfl (World.ownsRow.alloc HO.out _) ⟨wr.heap.size, 0, none⟩ 1 1 [.string (s.extract fr k)] rfl rfl ?c1 ?c2 ?c3 ?c4 ?c5 ?_)
        case c1 => exact cell_one_new _ _ _
        case c2 => intro u hu; simp at hu; subst hu; rfl
        case c3 => rw [HLEN.out]; simp [maxLen]; omega
        case c4 => rw [HLEN.out]; omega
        case c5 => have := hb.size; simp; omega
        intro v' w1 hown' hgrow _
        have hsz := hb.size
        have hB1 : Below w.heap.size w w1 := (hb.alloc hb.size _).grown hgrow (by simp; omega) (own_block HO.out)
        have HOW := hid (own_snoc hown' rfl)
        clear hown' hgrow
        go_wp2
        go_roundw
        case rel => exact ⟨k + 1, by omega, by go_num, by rw [HY.out]; go_num, by rw [HY.out, pc_snoc]; exact HOW.out, hB1⟩
        case measure => simp [intOf]; omega
      · have hcb : (((s[k]'hlt).toNat : Int) == c) = false := beq_eq_false_iff_ne.2 hc
        have HN := hid (hno (by rw [HBE.out]; exact hc))
        clear hyes hno hc
        go_wp2
        go_roundw
        case rel => exact ⟨k + 1, by omega, by go_num, by rw [HN.out, HFR.out], by rw [HN.out, HOUT.out]; exact HO.out, hb⟩
        case measure => simp [intOf]; omega
    · have hks : k = s.size := by omega
      have HC : Hid (cuts s c = out ++ [(fr, s.size)]) := by rw [Hid, hcu.out, ← hks, HFR.out, HOUT.out]
      have hfs : fr ≤ s.size := by omega
      clear hyes hno hks
      go_wp2_with (at_builtin; refine wpList_append_own _ rfl _ _ 23 rfl w.heap.size 9 i0 (.string ByteArray.empty) 1 16 Try.underlying23 hi hz0 hz1 hz2 rfl (by decide) _ _ _ rfl (World.ownsRow.alloc HO.out _) ⟨wr.heap.size, 0, none⟩ 1 1 [.string (s.extract fr s.size)] rfl rfl ?c1 ?c2 ?c3 ?c4 ?c5 ?_)
      case c1 => exact cell_one_new _ _ _
      case c2 => intro u hu; simp at hu; subst hu; rfl
      case c3 => rw [HLEN.out]; simp [maxLen]; omega
      case c4 => rw [HLEN.out]; omega
      case c5 => have := hb.size; simp; omega
      intro v' w1 hown' hgrow _
      have hsz := hb.size
      have hB1 : Below w.heap.size w w1 := (hb.alloc hb.size _).grown hgrow (by simp; omega) (own_block HO.out)
      have HOW := hid (own_snoc hown' rfl)
      clear hown' hgrow
      go_wp2
      go_ret
      exact ⟨_, rfl, by rw [HC.out, pc_snoc]; exact HOW.out, hB1⟩

/-! ### SplitWords -/
/-- The pieces that have a byte. -/
def ne (l : List ByteArray) : List ByteArray := l.filter fun x => decide (0 < x.size)
theorem ext_size (s : ByteArray) (a b : Nat) (hb : b ≤ s.size) : (s.extract a b).size = b - a := by
  rw [ByteArray.size_extract]; omega
theorem ne_full (s : ByteArray) : ∀ l : List (Nat × Nat), (∀ x ∈ l, x.2 ≤ s.size) → ne (pc s l) = pc s (full l)
  | [], _ => rfl
  | (a, b) :: l, h => by
    have ih := ne_full s l (fun x hx => h x (List.mem_cons_of_mem _ hx))
    have hb := h (a, b) List.mem_cons_self
    have he := ext_size s a b hb
    unfold ne pc full at ih ⊢
    rw [List.map_cons, List.filter_cons, List.filter_cons]
    by_cases hab : a < b
    · rw [if_pos (by simp; omega), if_pos (by simpa using hab), ih]
      rfl
    · rw [if_neg (by simp; omega), if_neg (by simpa using hab), ih]
theorem cuts_in (s : ByteArray) (c : Int) : ∀ x ∈ cuts s c, x.2 ≤ s.size := by
  intro x hx
  unfold cuts at hx
  rw [List.mem_append, List.mem_singleton] at hx
  rcases hx with hx | rfl
  · exact ((cut_le s c s.size).2.2 x hx).2
  · exact Nat.le_refl _
theorem cuts_len (s : ByteArray) (c : Int) : (cuts s c).length ≤ s.size + 1 := by
  unfold cuts
  have := (cut_le s c s.size).2.1
  simp
  omega
/-- The words of a text. -/
def wordsB (s : ByteArray) : List ByteArray := pc s (full (cuts s 32))
theorem ne_take (ps : List ByteArray) (k : Nat) (h : k < ps.length) : ne (ps.take (k + 1)) = if 0 < (strAt ps k).size then ne (ps.take k) ++ [strAt ps k] else ne (ps.take k) := by
  have e : strAt ps k = ps[k] := by simp [strAt, List.getD_eq_getElem?_getD, List.getElem?_eq_getElem h]
  rw [List.take_succ_eq_append_getElem h, ← e]
  unfold ne
  rw [List.filter_append]
  by_cases h0 : 0 < (strAt ps k).size <;> simp [h0]
theorem ne_len (ps : List ByteArray) : (ne ps).length ≤ ps.length := List.length_filter_le _ _

set_option maxRecDepth 100000 in
set_option maxHeartbeats 4000000 in
theorem specSplitWords_any (s : ByteArray) (w : World) (hs : s.size ≤ 1048576) :
    Calls Try.prog 17 #[.string s] w fun e w' => ∃ v, e = .returned v ∧ OwnS w.heap.size w' v (wordsB s) ∧ Below w.heap.size w w' := by
  obtain ⟨i0, hi, hz0, hz1, hz2⟩ := info_parts info_str
  have hcl := cuts_len s 32
  have hwd : ne (pc s (cuts s 32)) = wordsB s := ne_full s _ (cuts_in s 32)
  have hpl : (pc s (cuts s 32)).length = (cuts s 32).length := by simp [pc]
  obtain ⟨ps, hps⟩ : ∃ ps, pc s (cuts s 32) = ps := ⟨_, rfl⟩
  rw [hps] at hpl hwd
  have HPS := hid hps
  have HWD := hid hwd
  have hpl' : ps.length ≤ 1048577 := by omega
  clear hpl hps hwd hcl
  go_enter Try.func17, Try.ntmps17
  go_wp2_with fail
  refine (l01Split_any s 32 w hs).mono ?_
  rw [HPS.out]
  rintro e w1 ⟨u, rfl, ou, hb1⟩
  obtain ⟨a, cap, rfl, hl1, hl2, hl3⟩ := OwnS.strs ou
  unfold maxLen at hl2
  go_wp2
  go_loopw [4, 5] (fun v i wr => ∃ k : Nat, k ≤ ps.length ∧ i = .int .i64 k ∧ OwnS w1.heap.size wr v (ne (ps.take k)) ∧ Below w1.heap.size w1 wr) (fun _ i _ => ps.length - (intOf i).toNat)
  case atStart => exact ⟨0, Nat.zero_le _, rfl, World.ownsRow_lit w1 _ 0 (Nat.le_refl _) (by unfold maxLen; omega) rfl, (Below.refl _ _).alloc (Nat.le_refl _) _⟩
  case round =>
    obtain ⟨k, hk, rfl, ho, hb⟩ := hrel
    have hnt := ne_take ps k
    have hnl : (ne (ps.take k)).length ≤ ps.length := Nat.le_trans (ne_len _) (List.length_take_le' _ _)
    obtain ⟨out, hout⟩ : ∃ out, ne (ps.take k) = out := ⟨_, rfl⟩
    rw [hout] at hnt hnl ho
    have HOUT := hid hout
    have HO := hid ho
    clear hout ho
    by_cases hlt : k < ps.length
    · obtain ⟨bb, off, rfl, hbl, hc⟩ := hl3 (by omega)
      have ca := (hb.cell (p := ⟨bb, off + k, none⟩) hbl).trans (hc k hlt)
      have hnt' := hnt hlt
      obtain ⟨x, hx⟩ : ∃ x, strAt ps k = x := ⟨_, rfl⟩
      rw [hx] at ca hnt'
      clear hc hl3 hx hnt
      by_cases h0 : 0 < x.size
      · have hE := empty_no h0
        rw [if_pos h0] at hnt'
        have HNT := hid hnt'
        clear hnt' h0
        have hbw : bb < wr.heap.size := Nat.lt_of_lt_of_le hbl hb.size
        go_wp2_with (at_builtin; refine wpList_append_own _ rfl _ _ 23 rfl w1.heap.size 9 i0 (.string ByteArray.empty) 1 16 Try.underlying23 hi hz0 hz1 hz2 rfl (by decide) _ _ _ rfl (World.ownsRow.alloc HO.out _) ⟨wr.heap.size, 0, none⟩ 1 1 [.string x] rfl rfl ?c1 ?c2 ?c3 ?c4 ?c5 ?_)
        case c1 => exact cell_one_new _ _ _
        case c2 => intro u hu; simp at hu; subst hu; rfl
        case c3 => simp [maxLen]; omega
        case c4 => omega
        case c5 => have := hb.size; simp; omega
        intro v' w2 hown' hgrow _
        have hsz := hb.size
        have hB1 : Below w1.heap.size w1 w2 := (hb.alloc hb.size _).grown hgrow (by simp; omega) (own_block HO.out)
        have HOW := hid (own_snoc hown' rfl)
        clear hown' hgrow
        go_wp2
        go_roundw
        case rel => exact ⟨k + 1, by omega, by go_num, by rw [HNT.out]; exact HOW.out, hB1⟩
        case measure => simp [intOf]; omega
      · have hE := empty_yes (s := x) (by omega)
        rw [if_neg h0] at hnt'
        have HNT := hid hnt'
        clear hnt' h0
        go_wp2
        go_roundw
        case rel => exact ⟨k + 1, by omega, by go_num, by rw [HNT.out]; exact HO.out, hb⟩
        case measure => simp [intOf]; omega
    · have HF : Hid (out = wordsB s) := by
        rw [Hid, ← HOUT.out, List.take_of_length_le (by omega), HWD.out]
      clear hnt hl3
      go_wp2
      go_ret
      exact ⟨_, rfl, own_lower (by rw [← HF.out]; exact HO.out) hb1.size, hb1.trans (hb.mono hb1.size)⟩

theorem isSeparator_any (x : Nat) (w : World) : Calls Try.prog 51 #[.int .i32 x] w fun e w' => e = .returned (.bool (decide (x = 32))) ∧ w = w' := by
  by_cases h : x = 32
  · have hb : ((x : Int) == 32) = true := by simp [h]
    rw [decide_eq_true h]
    clear h
    go_enter Try.func51, Try.ntmps51
    go_wp2
    go_ret
    exact ⟨rfl, rfl⟩
  · have hb : ((x : Int) == 32) = false := beq_eq_false_iff_ne.2 (by omega)
    rw [decide_eq_false h]
    clear h
    go_enter Try.func51, Try.ntmps51
    go_wp2
    go_ret
    exact ⟨rfl, rfl⟩

set_option maxHeartbeats 1000000 in
theorem implSplitWords_any (s : ByteArray) (w : World) (hs : s.size ≤ 1048576) :
    Calls Try.prog 18 #[.string s] w fun e w' => ∃ v, e = .returned v ∧ OwnS w.heap.size w' v (wordsB s) ∧ Below w.heap.size w w' := by
  have hp : PredAtRunes Try.prog 51 #[] (fun x => decide (x = 32)) w := by
    intro W x _ _
    exact (isSeparator_any x W).mono fun _ _ ⟨he, hw⟩ => ⟨he, 0, hw.symm⟩
  have hf := fields_cuts s (fun x => decide (x = 32)) 32 (by omega) (fun _ => rfl)
  have HF : Hid (Lib.goFieldsP (fun x => decide (x = 32)) s = wordsB s) := hf
  clear hf
  have HP := hid hp
  clear hp
  go_enter Try.func18, Try.ntmps18
  go_wp2_with fail
  refine (Try.strings_FieldsFunc_runes 51 #[] (fun _ _ => rfl) (fun x => decide (x = 32)) s w (by omega) HP.out).mono ?_
  rw [HF.out]
  rintro e w1 ⟨g, rfl, hg, hown, hb⟩
  have HOW := hid hown
  clear hown
  go_wp2
  go_ret
  exact ⟨_, rfl, HOW.out, hb⟩

end Go.Proofs.Ytbfilebkmpcepaa
