/-
  The contracts of CoversWord.
-/
import Derived.Test.YtbfilebkmpcepaaM3
namespace Go.Proofs.Ytbfilebkmpcepaa
open Go.RowKit Go.Maps

/-- How often a byte is among the first k of a text. -/
def cntTo (s : List UInt8) (k : Nat) (c : Int) : Int := (((s.take k).filter fun x => decide ((x.toNat : Int) = c)).length : Int)
theorem cntTo_zero (s : List UInt8) (c : Int) : cntTo s 0 c = 0 := by simp [cntTo]
theorem cntTo_succ (s : ByteArray) (k : Nat) (c : Int) (h : k < s.size) : cntTo s.data.toList (k + 1) c = cntTo s.data.toList k c + if c = ((s[k]'h).toNat : Int) then 1 else 0 := by
  unfold cntTo
  rw [take_grows s k h, List.filter_append]
  by_cases hc : c = ((s[k]'h).toNat : Int)
  · rw [if_pos hc]
    simp [hc]
  · rw [if_neg hc]
    simp [Ne.symm hc]
theorem cntTo_bounds (s : ByteArray) (c : Int) : ∀ k, k ≤ s.size → 0 ≤ cntTo s.data.toList k c ∧ cntTo s.data.toList k c ≤ (k : Int)
  | 0, _ => by rw [cntTo_zero]; omega
  | k + 1, hk => by
    have ih := cntTo_bounds s c k (by omega)
    rw [cntTo_succ s k c (by omega)]
    split <;> omega
def max0 (x : Int) : Int := if x < 0 then 0 else x
/-- What is missing among the first m letters. -/
def needTo (g : Int → Int) : Nat → Int
  | 0 => 0
  | m + 1 => needTo g m + max0 (g (97 + (m : Int)))
theorem needTo_congr {g h : Int → Int} (e : ∀ c, g c = h c) : ∀ m, needTo g m = needTo h m
  | 0 => rfl
  | m + 1 => by rw [needTo, needTo, needTo_congr e m, e]
theorem needTo_bump (g : Int → Int) (x : Int) : ∀ m : Nat, needTo (fun c => g c + if c = x then 1 else 0) m = needTo g m + if 97 ≤ x ∧ x < 97 + (m : Int) then (if g x < 0 then 0 else 1) else 0
  | 0 => by
    rw [if_neg (by omega)]
    rfl
  | m + 1 => by
    rw [needTo, needTo, needTo_bump g x m]
    by_cases hx : 97 + (m : Int) = x
    · rw [if_neg (show ¬ (97 ≤ x ∧ x < 97 + (m : Int)) by omega), if_pos hx, if_pos (show 97 ≤ x ∧ x < 97 + ((m + 1 : Nat) : Int) by omega), hx]
      unfold max0
      repeat' split
      all_goals omega
    · have e0 : g (97 + (m : Int)) + 0 = g (97 + (m : Int)) := Int.add_zero _
      rw [if_neg hx, e0]
      by_cases h2 : 97 ≤ x ∧ x < 97 + (m : Int)
      · rw [if_pos h2, if_pos (show 97 ≤ x ∧ x < 97 + ((m + 1 : Nat) : Int) by omega)]
        omega
      · rw [if_neg h2, if_neg (show ¬ (97 ≤ x ∧ x < 97 + ((m + 1 : Nat) : Int)) by omega)]
        omega
theorem needTo_bounds {g : Int → Int} (h : ∀ c, g c ≤ 12) : ∀ m : Nat, 0 ≤ needTo g m ∧ needTo g m ≤ 12 * (m : Int)
  | 0 => by simp [needTo]
  | m + 1 => by
    have ih := needTo_bounds h m
    have h1 := h (97 + (m : Int))
    rw [needTo]
    unfold max0
    split <;> omega
/-- How much a word exceeds the tiles of a kind, behind k letters. -/
def overB (L : ByteArray) (zc : List Int) (s : ByteArray) (k : Nat) (c : Int) : Int := cntTo s.data.toList k c - lookTo L.data.toList zc L.size c
def coversB (L : ByteArray) (zv zc : List Int) (b : Int) (s : ByteArray) : Bool := okT L.data.toList zv zc b && isWordB s.data.toList && decide (needTo (overB L zc s s.size) 26 ≤ b)
theorem coversB_no1 {L s : ByteArray} {zv zc : List Int} {b : Int} (h : okT L.data.toList zv zc b = false) : coversB L zv zc b s = false := by simp [coversB, h]
theorem coversB_no2 {L s : ByteArray} {zv zc : List Int} {b : Int} (h : isWordB s.data.toList = false) : coversB L zv zc b s = false := by simp [coversB, h]
theorem coversB_yes {L s : ByteArray} {zv zc : List Int} {b : Int} (h1 : okT L.data.toList zv zc b = true) (h2 : isWordB s.data.toList = true) : coversB L zv zc b s = decide (needTo (overB L zc s s.size) 26 ≤ b) := by simp [coversB, h1, h2]
theorem word_facts {s : ByteArray} (h : isWordB s.data.toList = true) : 1 ≤ s.size ∧ s.size ≤ 12 ∧ ∀ k (hk : k < s.size), 97 ≤ ((s[k]'hk).toNat : Int) ∧ ((s[k]'hk).toNat : Int) ≤ 122 := by
  have hl := len_eq s
  simp only [isWordB, Bool.and_eq_true, decide_eq_true_eq, hl] at h
  refine ⟨h.1.2, h.2, fun k hk => ?_⟩
  have ha := h.1.1
  unfold allSmall at ha
  rw [List.all_eq_true] at ha
  exact smallB_iff.1 (ha _ (at_mem s k hk))
theorem over_le {L s : ByteArray} {zv zc : List Int} {k : Nat} (hn : numsTo zv zc L.size = true) (hk : k ≤ s.size) (h12 : s.size ≤ 12) (c : Int) : overB L zc s k c ≤ 12 := by
  have h1 := cntTo_bounds s c k hk
  have h2 := (look_bounds (l := L.data.toList) (c := c) hn).2
  unfold overB
  omega
theorem over_succ (L s : ByteArray) (zc : List Int) (k : Nat) (h : k < s.size) : ∀ c, overB L zc s (k + 1) c = overB L zc s k c + if c = ((s[k]'h).toNat : Int) then 1 else 0 := by
  intro c
  unfold overB
  rw [cntTo_succ s k c h]
  omega

theorem maxI {a b : Int} (w : World) : Calls Try.prog 70 #[.int .i64 a, .int .i64 b] w fun e w' => e = .returned (.int .i64 (if b < a then a else b)) ∧ w = w' := by
  by_cases h : b < a
  · rw [if_pos h]
    go_enter Try.func70, Try.ntmps70
    go_wp2
    go_ret
    exact ⟨rfl, rfl⟩
  · rw [if_neg h]
    go_enter Try.func70, Try.ntmps70
    go_wp2
    go_ret
    exact ⟨rfl, rfl⟩
theorem max0_any (x : Int) (w : World) : Calls Try.prog 70 #[.int .i64 0, .int .i64 x] w fun e w' => e = .returned (.int .i64 (max0 x)) ∧ w = w' := maxI w

set_option maxHeartbeats 4000000 in
theorem specCoversWord_any (L : ByteArray) {vv vc : Value} {zv zc : List Int} (b : Int) (s : ByteArray) (hs : s.size ≤ 1048576) (w : World) (hL : L.size ≤ maxLen) (hv : Ints .i64 w vv zv) (hc : Ints .i64 w vc zc) :
    Calls Try.prog 43 #[.agg #[.string L, vv, vc, .int .i64 b], .string s] w fun e w' => e = .returned (.bool (coversB L zv zc b s)) ∧ Below w.heap.size w w' := by
  have hsm : s.size ≤ maxLen := by unfold maxLen; omega
  cases hok : okT L.data.toList zv zc b
  · have HR := hid (coversB_no1 (s := s) hok)
    have HK := hid hok
    clear hok
    go_enter Try.func43, Try.ntmps43
    go_wp2_with fail
    refine (l02Ok_any _ L b _ hL (Blk.made _ _ _) (hv.alloc _) (hc.alloc _)).mono ?_
    rw [HK.out]
    rintro e w1 ⟨rfl, n1, rfl⟩
    go_wp2
    go_ret
    exact ⟨ret_bool HR.out.symm, below_drewN ((Below.refl _ _).alloc (Nat.le_refl _) _) _⟩
  · cases hw : isWordB s.data.toList
    · have HR := hid (coversB_no2 (L := L) (zv := zv) (zc := zc) (b := b) hw)
      have HK := hid hok
      have HW := hid hw
      clear hok hw
      go_enter Try.func43, Try.ntmps43
      go_wp2_with fail
      refine (l02Ok_any _ L b _ hL (Blk.made _ _ _) (hv.alloc _) (hc.alloc _)).mono ?_
      rw [HK.out]
      rintro e w1 ⟨rfl, n1, rfl⟩
      go_wp2_with fail
      refine (specIsWord_any s _ hsm).mono ?_
      rw [HW.out]
      rintro e w1 ⟨rfl, rfl⟩
      go_wp2
      go_ret
      exact ⟨ret_bool HR.out.symm, below_drewN ((Below.refl _ _).alloc (Nat.le_refl _) _) _⟩
    · have HR := hid (coversB_yes hok hw)
      obtain ⟨h1, h26, hvn, hcn, -, hlet, hnum, -⟩ := okT_facts hok
      obtain ⟨s1, s12, hsmall⟩ := word_facts hw
      have HCN := hid hcn
      have HLT := hid hlet
      have HNM := hid hnum
      have HK := hid hok
      have HW := hid hw
      clear hok hw hvn hcn hlet hnum hsmall
      go_enter Try.func43, Try.ntmps43
      go_wp2_with fail
      refine (l02Ok_any _ L b _ hL (Blk.made _ _ _) (hv.alloc _) (hc.alloc _)).mono ?_
      rw [HK.out]
      rintro e w1 ⟨rfl, n1, rfl⟩
      go_wp2_with fail
      refine (specIsWord_any s _ hsm).mono ?_
      rw [HW.out]
      rintro e w1 ⟨rfl, rfl⟩
      have hB1 := below_drewN ((Below.refl w.heap.size w).alloc (Nat.le_refl _) (.cells #[.string L, vv, vc, .int .i64 b] 32)) n1
      have p1 := hid ((Blk.made w 32 #[.string L, vv, vc, .int .i64 b]).drewN n1)
      have q1 := hid ((hc.alloc (.cells #[.string L, vv, vc, .int .i64 b] 32)).drewN n1)
      obtain ⟨W, hW⟩ : ∃ W, (w.alloc (.cells #[.string L, vv, vc, .int .i64 b] 32)).drewN n1 = W := ⟨_, rfl⟩
      rw [hW] at hB1 p1 q1 ⊢
      have c1 := p1.out.cells
      clear hW
      go_wp2
      go_loop [5, 6] (fun x c => ∃ m : Nat, m ≤ 26 ∧ c = .int .u8 (97 + (m : Int)) ∧ x = .int .i64 (needTo (overB L zc s s.size) m)) (fun _ c => 26 - (intOf c - 97).toNat)
      case atStart => exact ⟨0, by omega, rfl, rfl⟩
      case round =>
        obtain ⟨m, hm, rfl, rfl⟩ := hrel
        have hnb := needTo_bounds (fun c => over_le (L := L) (s := s) (k := s.size) HNM.out (Nat.le_refl _) s12 c) m
        have hns := hid (show needTo (overB L zc s s.size) (m + 1) = needTo (overB L zc s s.size) m + max0 (overB L zc s s.size (97 + (m : Int))) from rfl)
        obtain ⟨S, hS⟩ : ∃ S, needTo (overB L zc s s.size) m = S := ⟨_, rfl⟩
        rw [hS] at hnb hns ⊢
        have HS := hid hS
        clear hS
        by_cases hlt : m < 26
        · go_wp2
          go_loop [7, 8] (fun x i => ∃ k : Nat, k ≤ s.size ∧ i = .int .i64 k ∧ x = .int .i64 (cntTo s.data.toList k (97 + (m : Int)))) (fun _ i => s.size - (intOf i).toNat)
          case atStart => exact ⟨0, Nat.zero_le _, rfl, by rw [cntTo_zero]⟩
          case round =>
            obtain ⟨k, hk, rfl, rfl⟩ := hrel
            have hcb := cntTo_bounds s (97 + (m : Int)) k hk
            have hcs := cntTo_succ s k (97 + (m : Int))
            obtain ⟨N, hN⟩ : ∃ N, cntTo s.data.toList k (97 + (m : Int)) = N := ⟨_, rfl⟩
            rw [hN] at hcb hcs ⊢
            have HN := hid hN
            clear hN
            by_cases hlt2 : k < s.size
            · by_cases he : (97 + (m : Int)) = ((s[k]'hlt2).toNat : Int)
              · have heb : (((s[k]'hlt2).toNat : Int) == 97 + (m : Int)) = true := beq_iff_eq.2 he.symm
                have HC := hid (hcs hlt2)
                have HE := hid he
                clear hcs he
                go_wp2
                go_round
                case rel => exact ⟨k + 1, by omega, by go_num, by rw [HC.out, if_pos HE.out]⟩
                case measure => simp [intOf]; omega
              · have heb : (((s[k]'hlt2).toNat : Int) == 97 + (m : Int)) = false := beq_eq_false_iff_ne.2 (Ne.symm he)
                have HC := hid (hcs hlt2)
                have HE := hid he
                clear hcs he
                go_wp2
                go_round
                case rel => exact ⟨k + 1, by omega, by go_num, by rw [HC.out, if_neg HE.out, Int.add_zero]⟩
                case measure => simp [intOf]; omega
            · have hk' : k = s.size := by omega
              have hlb := (look_bounds (l := L.data.toList) (c := 97 + (m : Int)) HNM.out).2
              have HO : Hid (N - lookTo L.data.toList zc L.size (97 + (m : Int)) = overB L zc s s.size (97 + (m : Int))) := by
                rw [Hid, ← HN.out, hk']
                rfl
              have hcall := l02Count_any (zc := zc) w.heap.size L b (97 + (m : Int)) W hL p1.out q1.out (Nat.le_of_eq HCN.out.symm) HLT.out
              have hcb2 : countB L zc b (97 + (m : Int)) = lookTo L.data.toList zc L.size (97 + (m : Int)) := by unfold countB; rw [if_neg (by omega)]
              rw [hcb2] at hcall
              obtain ⟨y, hy⟩ : ∃ y, lookTo L.data.toList zc L.size (97 + (m : Int)) = y := ⟨_, rfl⟩
              rw [hy] at hcall hlb HO
              have HC := hid hcall
              have hmb : 0 ≤ max0 (N - y) ∧ max0 (N - y) ≤ 12 := by unfold max0; split <;> omega
              have hmx := max0_any (N - y)
              obtain ⟨z, hz⟩ : ∃ z, max0 (N - y) = z := ⟨_, rfl⟩
              rw [hz] at hmb hmx
              have HM := hid hmx
              have HZ := hid hz
              clear hk' hcs hcb2 hcall hy hmx hz
              go_wp2_with fail
              refine HC.out.mono ?_
              rintro e w' ⟨rfl, rfl⟩
              go_wp2_with fail
              refine (HM.out _).mono ?_
              rintro e w' ⟨rfl, rfl⟩
              go_wp2
              go_round
              case rel => exact ⟨m + 1, by omega, by go_num, by rw [hns.out, ← HO.out, HZ.out]⟩
              case measure => simp [intOf]; omega
        · have hm26 : m = 26 := by omega
          have HF : Hid (coversB L zv zc b s = decide (S ≤ b)) := by rw [Hid, HR.out, ← HS.out, hm26]
          clear hm26
          go_wp2
          go_ret
          exact ⟨ret_bool HF.out.symm, hB1⟩

/-! ### The program's -/
/-- What is left of a kind behind k letters of a word. -/
def leftB (L : ByteArray) (zc : List Int) (s : ByteArray) (k : Nat) (c : Int) : Int := max0 (lookTo L.data.toList zc L.size c - cntTo s.data.toList k c)
theorem left_zero {L s : ByteArray} {zv zc : List Int} (hn : numsTo zv zc L.size = true) : ∀ c, leftB L zc s 0 c = lookTo L.data.toList zc L.size c := by
  intro c
  have h := (look_bounds (l := L.data.toList) (c := c) hn).2
  unfold leftB max0
  rw [cntTo_zero]
  split <;> omega
theorem MapI.same {w : World} {B n : Nat} {f g : Int → Int} (h : MapI w B n f) (e : ∀ c, f c = g c) : MapI w B n g := by
  obtain ⟨D, h1, h2, h3⟩ := h
  exact ⟨D, h1, h2, fun c hc => by rw [h3 c hc, e]⟩
theorem left_take {L s : ByteArray} {zc : List Int} {k : Nat} (h : k < s.size) (hp : 0 < leftB L zc s k ((s[k]'h).toNat : Int)) :
    ∀ c, (if c = ((s[k]'h).toNat : Int) then leftB L zc s k ((s[k]'h).toNat : Int) - 1 else leftB L zc s k c) = leftB L zc s (k + 1) c := by
  intro c
  unfold leftB at hp ⊢
  rw [cntTo_succ s k c h]
  by_cases hc : c = ((s[k]'h).toNat : Int)
  · rw [if_pos hc, if_pos hc, hc]
    unfold max0 at hp ⊢
    repeat' split
    all_goals (try split at hp)
    all_goals omega
  · rw [if_neg hc, if_neg hc, Int.add_zero]
theorem left_none {L s : ByteArray} {zc : List Int} {k : Nat} (h : k < s.size) (hp : ¬ 0 < leftB L zc s k ((s[k]'h).toNat : Int)) :
    ∀ c, leftB L zc s k c = leftB L zc s (k + 1) c := by
  intro c
  unfold leftB at hp ⊢
  rw [cntTo_succ s k c h]
  by_cases hc : c = ((s[k]'h).toNat : Int)
  · rw [if_pos hc, hc]
    unfold max0 at hp ⊢
    repeat' split
    all_goals (try split at hp)
    all_goals omega
  · rw [if_neg hc, Int.add_zero]
/-- A letter of which a tile is left needs no blank, any other one needs one. -/
theorem need_step {L s : ByteArray} {zc : List Int} {k : Nat} (h : k < s.size) (h1 : 97 ≤ ((s[k]'h).toNat : Int)) (h2 : ((s[k]'h).toNat : Int) ≤ 122) :
    needTo (overB L zc s (k + 1)) 26 = needTo (overB L zc s k) 26 + if 0 < leftB L zc s k ((s[k]'h).toNat : Int) then 0 else 1 := by
  rw [needTo_congr (over_succ L s zc k h) 26, needTo_bump, if_pos (by omega)]
  congr 1
  unfold overB leftB max0
  repeat' split
  all_goals omega

theorem need_none {L s : ByteArray} {zv zc : List Int} (hn : numsTo zv zc L.size = true) : needTo (overB L zc s 0) 26 = 0 := by
  have h : ∀ m, needTo (overB L zc s 0) m = 0 := by
    intro m
    induction m with
    | zero => rfl
    | succ m ih =>
      have h := (look_bounds (l := L.data.toList) (c := 97 + (m : Int)) hn).2
      rw [needTo, ih]
      unfold overB max0
      rw [cntTo_zero]
      split <;> omega
  exact h 26

set_option maxHeartbeats 4000000 in
theorem implCoversWord_any (L : ByteArray) {vv vc : Value} {zv zc : List Int} (b : Int) (s : ByteArray) (hs : s.size ≤ 1048576) (w : World) (hL : L.size ≤ maxLen) (hv : Ints .i64 w vv zv) (hc : Ints .i64 w vc zc) :
    Calls Try.prog 44 #[.agg #[.string L, vv, vc, .int .i64 b], .string s] w fun e w' => e = .returned (.bool (coversB L zv zc b s)) ∧ Below w.heap.size w w' := by
  have hsm : s.size ≤ maxLen := by unfold maxLen; omega
  cases hok : okT L.data.toList zv zc b
  · have HR := hid (coversB_no1 (s := s) hok)
    have HK := hid hok
    clear hok
    go_enter Try.func44, Try.ntmps44
    go_wp2_with fail
    refine (implValidTiles_any L b _ hL (hv.alloc _) (hc.alloc _)).mono ?_
    rw [HK.out]
    rintro e w1 ⟨rfl, hb1⟩
    have hB1 := ((Below.refl w.heap.size w).alloc (Nat.le_refl _) _).trans (hb1.mono (by simp))
    go_wp2
    go_ret
    exact ⟨ret_bool HR.out.symm, hB1⟩
  · cases hw : isWordB s.data.toList
    · have HR := hid (coversB_no2 (L := L) (zv := zv) (zc := zc) (b := b) hw)
      have HK := hid hok
      have HW := hid hw
      clear hok hw
      go_enter Try.func44, Try.ntmps44
      go_wp2_with fail
      refine (implValidTiles_any L b _ hL (hv.alloc _) (hc.alloc _)).mono ?_
      rw [HK.out]
      rintro e w1 ⟨rfl, hb1⟩
      have hB1 := ((Below.refl w.heap.size w).alloc (Nat.le_refl _) _).trans (hb1.mono (by simp))
      go_wp2_with fail
      refine (implIsWord_any s _ hsm).mono ?_
      rw [HW.out]
      rintro e w2 ⟨rfl, hb2⟩
      have hB2 := hB1.trans (hb2.mono hB1.size)
      go_wp2
      go_ret
      exact ⟨ret_bool HR.out.symm, hB2⟩
    · have HR := hid (coversB_yes hok hw)
      obtain ⟨h1, h26, hvn, hcn, ⟨hb0, hb4⟩, hlet, hnum, -⟩ := okT_facts hok
      obtain ⟨s1, s12, hsmall⟩ := word_facts hw
      have HCN := hid hcn
      have HNM := hid hnum
      have HSM := hid hsmall
      have HK := hid hok
      have HW := hid hw
      clear hok hw hvn hcn hlet hnum hsmall
      go_enter Try.func44, Try.ntmps44
      go_wp2_with fail
      refine (implValidTiles_any L b _ hL (hv.alloc _) (hc.alloc _)).mono ?_
      rw [HK.out]
      rintro e w1 ⟨rfl, hb1⟩
      have p1 := hid ((Blk.made w _ _).kept hb1 (by simp))
      have hB1 := ((Below.refl w.heap.size w).alloc (Nat.le_refl _) _).trans (hb1.mono (by simp))
      go_wp2_with fail
      refine (implIsWord_any s _ hsm).mono ?_
      rw [HW.out]
      rintro e w2 ⟨rfl, hb2⟩
      have hB2 := hB1.trans (hb2.mono hB1.size)
      have p2 := hid (p1.out.kept hb2 p1.out.lt)
      have c2 := p2.out.cells
      go_wp2_with fail
      refine (byLetter_any L w2 hL (hc.below hB2) (Nat.le_of_eq HCN.out) h26).mono ?_
      rintro e w3 ⟨rfl, hmap, hb3⟩
      have hB3 := hB2.trans (hb3.mono hB2.size)
      have p3 := hid (p2.out.kept hb3 p2.out.lt)
      rw [HCN.out] at hmap
      have hm0 := hid (hmap.same (fun c => (left_zero (s := s) HNM.out c).symm))
      clear c2 hmap
      have c3 := p3.out.cells
      go_wp2
      go_loopw [6, 25] (fun x i wr => ∃ (k n : Nat), k ≤ s.size ∧ i = .int .i64 k ∧ x = .int .i64 (b - needTo (overB L zc s k) 26) ∧ n ≤ 26 + k ∧ MapI wr w2.heap.size n (leftB L zc s k) ∧ Below w.heap.size w wr) (fun _ i _ => s.size - (intOf i).toNat)
      case atStart => exact ⟨0, zc.length, Nat.zero_le _, rfl, by rw [need_none HNM.out, Int.sub_zero], by rw [HCN.out]; omega, by rw [HCN.out]; exact hm0.out, hB3⟩
      case round =>
        obtain ⟨k, n, hk, rfl, rfl, hn, hmp, hb⟩ := hrel
        have hnb := needTo_bounds (fun c => over_le (L := L) (s := s) (k := k) HNM.out hk s12 c) 26
        have hstep := need_step (L := L) (zc := zc) (s := s) (k := k)
        obtain ⟨S, hS⟩ : ∃ S, needTo (overB L zc s k) 26 = S := ⟨_, rfl⟩
        rw [hS] at hnb hstep ⊢
        have HS := hid hS
        clear hS c3
        by_cases hlt : k < s.size
        · obtain ⟨a1, a2⟩ := HSM.out k hlt
          have hst := hstep hlt a1 a2
          have hlb := (look_bounds (l := L.data.toList) (c := ((s[k]'hlt).toNat : Int)) HNM.out).2
          have hcb := cntTo_bounds s ((s[k]'hlt).toNat : Int) k hk
          have hlf : 0 ≤ leftB L zc s k ((s[k]'hlt).toNat : Int) ∧ leftB L zc s k ((s[k]'hlt).toNat : Int) ≤ 20 := by unfold leftB max0; split <;> omega
          have htk := left_take (L := L) (zc := zc) hlt
          have hno := left_none (L := L) (zc := zc) hlt
          have HBW := hid (byte_wf (s[k]'hlt))
          obtain ⟨D, hD, hown, hat⟩ := hmp
          have hA := hat ((s[k]'hlt).toNat : Int) HBW.out
          have HAT := hid hat
          have HD := hid hD
          have HOWN := hid hown
          obtain ⟨y, hy⟩ : ∃ y, leftB L zc s k ((s[k]'hlt).toNat : Int) = y := ⟨_, rfl⟩
          rw [hy] at hst hlf htk hno hA
          have HA := hid hA
          clear hlb hcb hat hA hD hown hy hstep a1 a2
          by_cases hp : 0 < y
          · have HT := hid (htk hp)
            rw [if_pos hp] at hst
            have HST := hid hst
            have hpw := WalkArith.wf_i64 (n := y - 1) (by omega)
            have HPW := hid hpw
            clear htk hno hst hpw
            go_wp2_with (first
              | (at_lookup; refine wpList_lookup_own_int _ rfl _ _ 64 rfl 5 2 .i64 law8 Try.underlying64 Try.underlying2 (zero64 _) w2.heap.size _ _ rfl HOWN.out _ _ rfl (keyOf_int_mk Try.underlying5 HBW.out) ?_; intro x hax hwx; obtain rfl : y = x := (by have h := HA.out.symm.trans hax; injection h with h; injection h); clear hax)
              | (at_mapUpdate; refine wpList_mapUpdate_own _ rfl _ _ _ 64 rfl 5 2 law8 Try.underlying64 _ w2.heap.size n _ rfl HOWN.out (by unfold maxLen; omega) _ _ _ rfl rfl (keyOf_int_mk Try.underlying5 HBW.out) _ [] (plainElem_int Try.underlying2 HPW.out) ?_; intro w4 hown1 hgrow1))
            go_roundw
            case rel =>
              refine ⟨k + 1, n + 1, by omega, by go_num, by rw [HST.out, Int.add_zero], by omega, ⟨_, HD.out.put _ _, hown1, fun c hcw => ?_⟩, hb.grown hgrow1 hb.size (fun j hj => by cases hj; exact hB2.size)⟩
              rw [put_at HD.out _ c _ _ (HAT.out c hcw), HT.out c]
            case measure => simp [intOf]; omega
          · have HT := hid (hno hp)
            rw [if_neg hp] at hst
            have HST := hid hst
            clear htk hno hst
            go_wp2_with (at_lookup; refine wpList_lookup_own_int _ rfl _ _ 64 rfl 5 2 .i64 law8 Try.underlying64 Try.underlying2 (zero64 _) w2.heap.size _ _ rfl HOWN.out _ _ rfl (keyOf_int_mk Try.underlying5 HBW.out) ?_; intro x hax hwx; obtain rfl : y = x := (by have h := HA.out.symm.trans hax; injection h with h; injection h); clear hax)
            go_roundw
            case rel => exact ⟨k + 1, n, by omega, by go_num, by rw [HST.out]; exact congrArg (Value.int .i64) (by omega), by omega, ⟨_, HD.out, HOWN.out, fun c hcw => by rw [HAT.out c hcw, HT.out c]⟩, hb⟩
            case measure => simp [intOf]; omega
        · have hks : k = s.size := by omega
          have HF : Hid (coversB L zv zc b s = decide (S ≤ b)) := by rw [Hid, HR.out, ← HS.out, hks]
          clear hks hstep
          go_wp2
          go_ret
          exact ⟨ret_bool HF.out.symm, hb⟩

end Go.Proofs.Ytbfilebkmpcepaa
