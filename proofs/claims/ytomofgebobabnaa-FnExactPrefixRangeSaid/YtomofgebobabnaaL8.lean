/-
  The words with a prefix: how many follow one another.
-/
import Derived.Test.YtomofgebobabnaaL7
namespace Go.Proofs.Ytomofgebobabnaa
open Go.RowKit Go.Lib

def begB (s p : ByteArray) : Bool := hasPrefix s.data.toList p.data.toList
def runG (q : ByteArray → Bool) (ss : List ByteArray) : Nat := (ss.takeWhile q).length
theorem runG_is {q : ByteArray → Bool} : ∀ {ss : List ByteArray} {k : Nat}, k ≤ ss.length → (∀ j, j < k → q (strAt ss j) = true) → (k < ss.length → q (strAt ss k) = false) → runG q ss = k
  | [], k, hk, _, _ => by
    obtain rfl : k = 0 := by simpa using hk
    rfl
  | x :: l, 0, _, _, h2 => by
    have := h2 (by simp)
    rw [strAt_zero] at this
    unfold runG
    rw [List.takeWhile_cons, this]
    rfl
  | x :: l, k + 1, hk, h1, h2 => by
    have hx := h1 0 (by omega)
    rw [strAt_zero] at hx
    have ih := runG_is (ss := l) (q := q) (k := k) (by simpa using hk) (fun j hj => by have := h1 (j + 1) (by omega); rwa [strAt_succ] at this) (fun hj => by have := h2 (by simpa using hj); rwa [strAt_succ] at this)
    unfold runG at ih ⊢
    rw [List.takeWhile_cons, hx]
    simpa using ih
theorem strAt_drop (ss : List ByteArray) (i j : Nat) : strAt (ss.drop i) j = strAt ss (i + j) := by
  simp [strAt, List.getD_eq_getElem?_getD]
/-- How many words from place i on begin with a text. -/
def preCnt (ss : List ByteArray) (p : ByteArray) (i : Nat) : Nat := runG (fun x => begB x p) (ss.drop i)
theorem preCnt_is {ss : List ByteArray} {p : ByteArray} {i k : Nat} (h : i + k ≤ ss.length) (h1 : ∀ j, j < k → begB (strAt ss (i + j)) p = true) (h2 : i + k < ss.length → begB (strAt ss (i + k)) p = false) : preCnt ss p i = k :=
  runG_is (by rw [List.length_drop]; omega) (fun j hj => by rw [strAt_drop]; exact h1 j hj) (fun hk => by rw [strAt_drop]; exact h2 (by rw [List.length_drop] at hk; omega))
def preOut (us : List ByteArray) (p : ByteArray) : Int × Int × Int := if okL us = true then ((firstG us p : Int), (preCnt us p (firstG us p) : Int), 0) else (0, 0, 1)
def ret3 (x : Int × Int × Int) : Ending := .returned (.tuple #[.int .i64 x.1, .int .i64 x.2.1, .int .i64 x.2.2])
theorem preOut_no {us : List ByteArray} {s : ByteArray} (h : okL us = false) : preOut us s = (0, 0, 1) := by simp [preOut, h]
theorem preOut_yes {us : List ByteArray} {s : ByteArray} (h : okL us = true) : preOut us s = ((firstG us s : Int), (preCnt us s (firstG us s) : Int), 0) := by simp [preOut, h]

set_option maxHeartbeats 400000 in
theorem l05Begins_any (s p : ByteArray) (w : World) (_hs : s.size ≤ maxLen) (_hp : p.size ≤ 1048576) {t : Bool} (ht : begB s p = t) :
    Calls Try.prog 65 #[.string s, .string p] w fun e w' => e = .returned (.bool t) ∧ w = w' := by
  have hr := hasPrefix_raw s p
  unfold begB at ht
  rw [ht] at hr
  by_cases hle : p.size ≤ s.size
  · have h1 : (p.size : Int) ≤ (s.size : Int) := by omega
    rw [decide_eq_true hle, Bool.true_and] at hr
    have HR := Shh.mk hr
    clear hr ht
    go_enter Try.func65, Try.ntmps65
    go_wp2
    go_ret
    exact ⟨ret_bool HR.out, rfl⟩
  · have h1 : ¬ (p.size : Int) ≤ (s.size : Int) := by omega
    rw [decide_eq_false hle, Bool.false_and] at hr
    have HR := Shh.mk hr
    clear hr ht
    go_enter Try.func65, Try.ntmps65
    go_wp2
    go_ret
    exact ⟨ret_bool HR.out, rfl⟩

theorem pre_is {s p : ByteArray} {t : Bool} (h : begB s p = t) (w : World) : Calls Try.prog 66 #[.string s, .string p] w fun e w' => e = .returned (.bool t) ∧ w = w' :=
  (Try.strings_HasPrefix s p w).mono fun _ _ ⟨h1, h2⟩ => ⟨h1.trans (ret_bool h), h2.symm⟩

set_option maxHeartbeats 1000000 in
theorem specPrefixRange_any {v : Value} {us : List ByteArray} (s : ByteArray) (W : World) (hu : Strs W v us) (hz : ∀ s ∈ us, s.size ≤ maxLen) (hs : s.size ≤ 1048576) :
    Calls Try.prog 36 #[.agg #[v], .string s] W fun e w' => e = ret3 (preOut us s) ∧ Below W.heap.size W w' := by
  have hul := hu.len
  have HG := Shh.mk (LexAt.made hu)
  have c0 := HG.out.blk.cells
  have hB0 := (Below.refl W.heap.size W).alloc (Nat.le_refl _) (.cells #[v] 27)
  obtain ⟨aa, ac, rfl, hl, hm, hc⟩ := hu
  have HC := Shh.mk hc
  clear hc
  cases hok : okL us
  · have HR := Shh.mk (preOut_no (s := s) hok)
    have HO := Shh.mk hok
    clear hok
    go_enter Try.func36, Try.ntmps36
    go_wp2_with fail
    refine (ok_is HO.out _ HG.out hz).mono ?_
    rintro e w1 ⟨rfl, k, rfl⟩
    go_wp2
    go_ret3
    exact ⟨by rw [HR.out]; rfl, below_drewN hB0 _⟩
  · have HR := Shh.mk (preOut_yes (s := s) hok)
    have HO := Shh.mk hok
    have hF := firstG_le us s
    have HF : Hid (∃ F, firstG us s = F) := ⟨_, rfl⟩
    clear hok
    obtain ⟨F, hFF⟩ := HF
    rw [hFF] at hF
    have HFF := Shh.mk hFF
    clear hFF
    go_enter Try.func36, Try.ntmps36
    go_wp2_with fail
    refine (ok_is HO.out _ HG.out hz).mono ?_
    rintro e w1 ⟨rfl, m, hw1⟩
    have HW1 := Shh.mk hw1
    have hg1 := Shh.mk (show LexAt w1 W.heap.size _ us by rw [hw1]; exact HG.out.drewN m)
    have d0 := hg1.out.blk.cells
    clear hw1 c0
    go_wp2_with fail
    refine (l05First_any _ s hg1.out.strs).mono ?_
    rw [HFF.out]
    rintro e w2 ⟨rfl, rfl⟩
    go_wp2
    go_loop [8, 9] (fun n k => ∃ c : Nat, F + c ≤ us.length ∧ n = .int .i64 (c : Int) ∧ k = .int .i64 ((F + c : Nat) : Int) ∧ Hid (∀ j, j < c → begB (strAt us (F + j)) s = true)) (fun _ k => us.length - (intOf k).toNat)
    case atStart => exact ⟨0, hF, rfl, rfl, fun j hj => absurd hj (by omega)⟩
    case round =>
      obtain ⟨c, hk, rfl, rfl, ht⟩ := hrel
      by_cases hlt : F + c < us.length
      · obtain ⟨b, off, rfl, hb, hcc⟩ := HC.out (by omega)
        have ck : w1.cell? ⟨b, off + (F + c), none⟩ = some (.string (strAt us (F + c))) := by rw [HW1.out]; exact (((Below.refl W.heap.size W).alloc (Nat.le_refl _) _).cell (p := ⟨b, off + (F + c), none⟩) hb).trans (hcc _ hlt)
        have hsz := hz _ (strAt_mem hlt)
        cases hup : begB (strAt us (F + c)) s
        · have HP := Shh.mk (preCnt_is hk ht (fun _ => hup))
          obtain ⟨y, hy⟩ : ∃ y, strAt us (F + c) = y := ⟨_, rfl⟩
          rw [hy] at ck hup hsz
          have HU := Shh.mk hup
          clear hcc hy hup ht
          go_wp2_with fail
          refine (l05Begins_any y s _ hsz hs HU.out).mono ?_
          rintro e w3 ⟨rfl, rfl⟩
          go_wp2
          go_ret3
          exact ⟨by rw [HR.out, HFF.out, HP.out]; rfl, by rw [HW1.out]; exact below_drewN hB0 _⟩
        · have HT : Hid (∀ j, j < c + 1 → begB (strAt us (F + j)) s = true) := by
            intro j hj
            rcases Nat.lt_or_ge j c with h1 | h1
            · exact ht j h1
            · obtain rfl : j = c := by omega
              exact hup
          obtain ⟨y, hy⟩ : ∃ y, strAt us (F + c) = y := ⟨_, rfl⟩
          rw [hy] at ck hup hsz
          have HU := Shh.mk hup
          clear hcc hy hup ht
          go_wp2_with fail
          refine (l05Begins_any y s _ hsz hs HU.out).mono ?_
          rintro e w3 ⟨rfl, rfl⟩
          go_wp2
          go_round
          case rel => exact ⟨c + 1, by omega, by go_num, by go_num, HT⟩
          case measure => simp [intOf]; omega
      · have HP := Shh.mk (preCnt_is hk ht (fun h => absurd h hlt))
        clear ht
        go_wp2
        go_ret3
        exact ⟨by rw [HR.out, HFF.out, HP.out]; rfl, by rw [HW1.out]; exact below_drewN hB0 _⟩

set_option maxHeartbeats 1000000 in
theorem implPrefixRange_any {v : Value} {us : List ByteArray} (s : ByteArray) (W : World) (hu : Strs W v us) (hz : ∀ s ∈ us, s.size ≤ maxLen) (_hs : s.size ≤ 1048576) :
    Calls Try.prog 37 #[.agg #[v], .string s] W fun e w' => e = ret3 (preOut us s) ∧ Below W.heap.size W w' := by
  have hul := hu.len
  have HG := Shh.mk (LexAt.made hu)
  have c0 := HG.out.blk.cells
  have hB0 := (Below.refl W.heap.size W).alloc (Nat.le_refl _) (.cells #[v] 27)
  obtain ⟨aa, ac, rfl, hl, hm, hc⟩ := hu
  have HC := Shh.mk hc
  clear hc
  cases hok : okL us
  · have HR := Shh.mk (preOut_no (s := s) hok)
    have HO := Shh.mk hok
    clear hok
    go_enter Try.func37, Try.ntmps37
    go_wp2_with fail
    refine (valid_on HO.out _ HG.out.strs hz).mono ?_
    rintro e w1 ⟨rfl, hb1⟩
    go_wp2
    go_ret3
    exact ⟨by rw [HR.out]; rfl, hB0.trans (hb1.mono hB0.size)⟩
  · have HR := Shh.mk (preOut_yes (s := s) hok)
    have HO := Shh.mk hok
    have hsz := okL_size hok
    have HRI := Shh.mk (okL_rise hok)
    have hF := firstG_le us s
    have HF : Hid (∃ F, firstG us s = F) := ⟨_, rfl⟩
    clear hok
    obtain ⟨F, hFF⟩ := HF
    rw [hFF] at hF
    have HFF := Shh.mk hFF
    clear hFF
    obtain ⟨t, ht⟩ : ∃ t, hasL us s = t := ⟨_, rfl⟩
    have HT := Shh.mk ht
    clear ht
    unfold maxLen at hm
    go_enter Try.func37, Try.ntmps37
    go_wp2_with fail
    refine (valid_on HO.out _ HG.out.strs hz).mono ?_
    rintro e w1 ⟨rfl, hb1⟩
    have hB1 := hB0.trans (hb1.mono hB0.size)
    have c1 := (HG.out.blk.kept hb1 HG.out.blk.lt).cells
    clear c0
    go_wp2_with fail
    refine (search_any _ s (HG.out.strs.below hb1) HRI.out hsz).mono ?_
    rw [HFF.out, HT.out]
    rintro e w2 ⟨rfl, q, rfl⟩
    have c2 : ∀ j, (w1.drewN q).cell? ⟨W.heap.size, j, none⟩ = #[Value.slice aa us.length ac][j]? := c1
    have hBq := Shh.mk (below_drewN hB1 q)
    obtain ⟨w3, hw3⟩ : ∃ w3, w1.drewN q = w3 := ⟨_, rfl⟩
    rw [hw3] at c2 hBq ⊢
    clear c1 hw3
    rcases Nat.eq_zero_or_pos us.length with h0 | h0
    · have HP := Shh.mk (preCnt_is (ss := us) (p := s) (i := F) (k := 0) (by omega) (fun j hj => absurd hj (by omega)) (fun h => absurd h (by omega)))
      obtain rfl : F = 0 := by omega
      obtain ⟨n, hn⟩ : ∃ n, us.length = n := ⟨_, rfl⟩
      rw [hn] at c2 h0
      subst h0
      go_wp2
      go_loopw [9, 11, 27] (fun n _ i wr => n = .int .i64 0 ∧ i = .int .i64 0 ∧ wr = w3) (fun _ _ i _ => 1 - (intOf i).toNat)
      case atStart => exact ⟨rfl, rfl, rfl⟩
      case round =>
        obtain ⟨rfl, rfl, rfl⟩ := hrel
        go_wp2
        go_ret3
        exact ⟨by rw [HR.out, HFF.out, HP.out]; rfl, hBq.out⟩
    · obtain ⟨b, off, rfl, hb, hcc⟩ := HC.out h0
      have HCC := Shh.mk hcc
      clear hcc
      by_cases hFl : F < us.length
      · have hFa : (F : Int) ≤ (us.length : Int) := by omega
        have hFc : ¬ ac = F := by omega
        go_wp2
        go_loopw [9, 11, 27] (fun n _ i wr => ∃ c : Nat, F + c ≤ us.length ∧ n = .int .i64 (c : Int) ∧ i = .int .i64 (c : Int) ∧ Below W.heap.size W wr ∧ Hid (∀ j, j < c → begB (strAt us (F + j)) s = true)) (fun _ _ i _ => us.length - (intOf i).toNat)
        case atStart => exact ⟨0, hF, rfl, rfl, hBq.out, fun j hj => absurd hj (by omega)⟩
        case round =>
          obtain ⟨c, hk, rfl, rfl, hB, ht⟩ := hrel
          by_cases hlt : F + c < us.length
          · have hlt2 : (c : Int) < ((us.length - F : Nat) : Int) := by omega
            have ck : wr.cell? ⟨b, off + F + c, none⟩ = some (.string (strAt us (F + c))) := by
              rw [Nat.add_assoc]
              exact (hB.cell (p := ⟨b, off + (F + c), none⟩) hb).trans (HCC.out _ hlt)
            have hzz := hz _ (strAt_mem hlt)
            cases hup : begB (strAt us (F + c)) s
            · have HP := Shh.mk (preCnt_is hk ht (fun _ => hup))
              obtain ⟨y, hy⟩ : ∃ y, strAt us (F + c) = y := ⟨_, rfl⟩
              rw [hy] at ck hup hzz
              have HU := Shh.mk hup
              clear hy hup ht
              go_wp2_with fail
              refine (pre_is HU.out _).mono ?_
              rintro e w4 ⟨rfl, rfl⟩
              go_wp2
              go_ret3
              exact ⟨by rw [HR.out, HFF.out, HP.out]; rfl, hB⟩
            · have HT : Hid (∀ j, j < c + 1 → begB (strAt us (F + j)) s = true) := by
                intro j hj
                rcases Nat.lt_or_ge j c with h1 | h1
                · exact ht j h1
                · obtain rfl : j = c := by omega
                  exact hup
              obtain ⟨y, hy⟩ : ∃ y, strAt us (F + c) = y := ⟨_, rfl⟩
              rw [hy] at ck hup hzz
              have HU := Shh.mk hup
              clear hy hup ht
              go_wp2_with fail
              refine (pre_is HU.out _).mono ?_
              rintro e w4 ⟨rfl, rfl⟩
              go_wp2
              go_roundw
              case rel => exact ⟨c + 1, by omega, by go_num, by go_num, hB, HT⟩
              case measure => simp [intOf]; omega
          · have HP := Shh.mk (preCnt_is hk ht (fun h => absurd h hlt))
            have hlt2 : ¬ (c : Int) < ((us.length - F : Nat) : Int) := by omega
            clear ht
            go_wp2
            go_ret3
            exact ⟨by rw [HR.out, HFF.out, HP.out]; rfl, hB⟩
      · have HP := Shh.mk (preCnt_is (ss := us) (p := s) (i := F) (k := 0) (by omega) (fun j hj => absurd hj (by omega)) (fun h => absurd h (by omega)))
        obtain rfl : F = us.length := by omega
        go_wp2
        all_goals
          go_loopw [9, 11, 27] (fun n _ i wr => n = .int .i64 0 ∧ i = .int .i64 0 ∧ wr = w3) (fun _ _ i _ => 1 - (intOf i).toNat)
          case atStart => exact ⟨rfl, rfl, rfl⟩
          case round =>
            obtain ⟨rfl, rfl, rfl⟩ := hrel
            go_wp2
            go_ret3
            exact ⟨by rw [HR.out, HFF.out, HP.out]; rfl, hBq.out⟩
end Go.Proofs.Ytomofgebobabnaa
