/-
  Whether a word can be placed with some tiles: the model's.
-/
import Derived.Test.YtpjekfebpgjgnaaO7
import Derived.Test.YtpjekfebpgjgnaaN3
namespace Go.Proofs.Ytpjekfebpgjgnaa
open Go.RowKit

set_option maxHeartbeats 1000000 in
theorem l03Blanks_any (s : ByteArray) (w : World) (hs : s.size ≤ 1048576) :
    Calls Try.prog 157 #[.string s] w fun e w' => e = .returned (.int .i64 (cnt s.data.toList 0 : Int)) ∧ w = w' := by
  go_enter Try.func157, Try.ntmps157
  go_wp2
  go_loop [3, 4] (fun n i => ∃ k : Nat, k ≤ s.size ∧ i = .int .i64 k ∧ n = .int .i64 (cnt (s.data.toList.take k) 0 : Int)) (fun _ i => s.size - (intOf i).toNat)
  case atStart => exact ⟨0, Nat.zero_le _, rfl, rfl⟩
  case round =>
    obtain ⟨k, hk, rfl, rfl⟩ := hrel
    have hle := cnt_le (s.data.toList.take k) 0
    have hl : (s.data.toList.take k).length ≤ k := List.length_take_le _ _
    by_cases hlt : k < s.size
    · have hst := blank_step s k hlt
      obtain ⟨x, hx⟩ : ∃ x, cnt (s.data.toList.take k) 0 = x := ⟨_, rfl⟩
      rw [hx] at hst hle ⊢
      have HS := Shh.mk hst
      clear hst hx
      by_cases hc : ((s[k]'hlt).toNat : Int) = 63
      · have hcb : (((s[k]'hlt).toNat : Int) == 63) = true := beq_iff_eq.2 hc
        have HC := hid hc
        clear hc
        go_wp2
        go_round
        case rel => exact ⟨k + 1, by omega, by go_num, by rw [HS.out, if_pos HC.out]; go_num⟩
        case measure => simp [intOf]; omega
      · have hcb : (((s[k]'hlt).toNat : Int) == 63) = false := beq_eq_false_iff_ne.2 hc
        have HC := hid hc
        clear hc
        go_wp2
        go_round
        case rel => exact ⟨k + 1, by omega, by go_num, by rw [HS.out, if_neg HC.out]; go_num⟩
        case measure => simp [intOf]; omega
    · have hkk : k = s.size := by omega
      have HK : Hid (Ending.returned (.int .i64 (cnt (s.data.toList.take k) 0 : Int)) = .returned (.int .i64 (cnt s.data.toList 0 : Int))) := by rw [Hid, hkk, take_all]
      clear hkk
      go_wp2
      go_ret
      exact ⟨HK.out, rfl⟩

/-- One letter of a word as a text. -/
theorem ext_one (s : ByteArray) (k : Nat) (h : k < s.size) : s.extract k (k + 1) = txt [s[k]'h] := by
  apply Go.WideShapes.bytes_inj
  have e1 : (s.extract k (k + 1)).data.toList = (s.data.toList.drop k).take 1 := by simp [ByteArray.data_extract]
  rw [e1, drop_at s h]
  rfl
theorem take_one_hit {A : List UInt8} {c : UInt8} (h : c ∈ A) (w : World) (ha : A.length ≤ 1048576) :
    Calls Try.prog 177 #[.string (txt A), .string (txt [c])] w fun e w' => e = .returned (.tuple #[.string (txt (takeL A [c]).1), .bool true]) ∧ Below w.heap.size w w' := by
  refine l03Take_is ?_ ?_ w (by rw [txt_size]; exact ha) (by rw [txt_size]; simp)
  · rw [txt_list, txt_list]
  · rw [txt_list, txt_list, take1_hit h]; rfl
theorem take_one_miss {A : List UInt8} {c : UInt8} (h : c ∉ A) (w : World) (ha : A.length ≤ 1048576) :
    Calls Try.prog 177 #[.string (txt A), .string (txt [c])] w fun e w' => e = .returned (.tuple #[.string (txt A), .bool false]) ∧ Below w.heap.size w w' := by
  refine l03Take_is ?_ ?_ w (by rw [txt_size]; exact ha) (by rw [txt_size]; simp)
  · rw [txt_list, txt_list, take1_miss h]
  · rw [txt_list, txt_list, take1_miss h]; rfl

set_option maxRecDepth 100000 in
set_option maxHeartbeats 2000000 in
theorem l03Need_any (p s : ByteArray) (w : World) (hp : p.size ≤ 1048576) (hs : s.size ≤ 1048576) (hw : isWordB s.data.toList = true) :
    Calls Try.prog 156 #[.string p, .string s] w fun e w' => e = .returned (.int .i64 (needL (cnt p.data.toList) s.data.toList : Int)) ∧ Below w.heap.size w w' := by
  have HW := Shh.mk hw
  clear hw
  go_enter Try.func156, Try.ntmps156
  go_wp2
  go_loopw [5, 6, 7] (fun v n i wr => ∃ (k m : Nat) (A : List UInt8), k ≤ s.size ∧ m ≤ s.size ∧ A.length ≤ 1048576 ∧ i = .int .i64 k ∧ n = .int .i64 m ∧ v = .string (txt A) ∧ Shh (ND p s k m (cnt A)) ∧ Below w.heap.size w wr) (fun _ _ i _ => s.size - (intOf i).toNat)
  case atStart => exact ⟨0, 0, p.data.toList, Nat.zero_le _, Nat.zero_le _, by rw [len_list]; exact hp, rfl, rfl, by rw [txt_of], ⟨nd_start p s⟩, Below.refl _ _⟩
  case round =>
    obtain ⟨k, m, A, hk, hm, hA, rfl, rfl, rfl, hnd, hB⟩ := hrel
    by_cases hlt : k < s.size
    · have hsm := small_kind (word_small HW.out (at_mem s k hlt))
      have htl := small_tile (word_small HW.out (at_mem s k hlt))
      have hone := ext_one s k hlt
      by_cases hmem : (s[k]'hlt) ∈ A
      · have hne := (mem_cnt htl A).1 hmem
        have HN := Shh.mk (nd_hit (G := cnt (takeL A [s[k]'hlt]).1) hnd.out hlt hne (word_kinds HW.out) (fun j hj => by
          have := take1_cnt hmem j
          unfold decK
          by_cases e : j = kindN (s[k]'hlt)
          · rw [if_pos e]
            rw [if_pos (by rw [e]; exact tileOf_kind htl)] at this
            omega
          · rw [if_neg e]
            rw [if_neg (fun x => e (by rw [← x, kind_tileOf hj]))] at this
            omega))
        have HM := Shh.mk hmem
        have hl := take1_len (s[k]'hlt) A
        clear hmem hne htl hsm hnd
        go_wp2_with fail
        refine (take_one_hit HM.out _ hA).mono ?_
        rintro e w1 ⟨rfl, hb1⟩
        clear hone
        go_wp2
        go_roundw
        case rel => exact ⟨k + 1, m, _, by omega, hm, by omega, by go_num, rfl, rfl, HN, hB.trans (hb1.mono hB.size)⟩
        case measure => simp [intOf]; omega
      · have hz : cnt A (kindN (s[k]'hlt)) = 0 := by
          rcases Nat.eq_zero_or_pos (cnt A (kindN (s[k]'hlt))) with h | h
          · exact h
          · exact absurd ((mem_cnt htl A).2 (by omega)) hmem
        have hnd2 := nd_miss hnd.out hlt hz
        have hm2 := nd_le hnd2
        have HN := Shh.mk hnd2
        have HM := Shh.mk hmem
        clear hmem hz htl hsm hnd hnd2
        go_wp2_with fail
        refine (take_one_miss HM.out _ hA).mono ?_
        rintro e w1 ⟨rfl, hb1⟩
        clear hone
        go_wp2
        go_roundw
        case rel => exact ⟨k + 1, m + 1, _, by omega, hm2, hA, by go_num, by go_num, rfl, HN, hB.trans (hb1.mono hB.size)⟩
        case measure => simp [intOf]; omega
    · obtain rfl : k = s.size := by omega
      have HE := Shh.mk (nd_end hnd.out)
      clear hnd
      go_wp2
      go_ret
      exact ⟨by rw [HE.out]; rfl, hB⟩

set_option maxHeartbeats 1000000 in
theorem l03Can_any (p s : ByteArray) (w : World) (hp : p.size ≤ 1048576) (hs : s.size ≤ 1048576) (hw : isWordB s.data.toList = true) :
    Calls Try.prog 110 #[.string p, .string s] w fun e w' => e = .returned (.bool (canL p.data.toList s.data.toList)) ∧ Below w.heap.size w w' := by
  obtain ⟨n, hn⟩ : ∃ n, needL (cnt p.data.toList) s.data.toList = n := ⟨_, rfl⟩
  obtain ⟨m, hm⟩ : ∃ m, cnt p.data.toList 0 = m := ⟨_, rfl⟩
  have HN := Shh.mk hn
  have HM := Shh.mk hm
  have HR := Shh.mk (show canL p.data.toList s.data.toList = decide (n ≤ m) by unfold canL; rw [hn, hm])
  have hq : decide ((n : Int) ≤ (m : Int)) = decide (n ≤ m) := by rw [Bool.eq_iff_iff, decide_eq_true_eq, decide_eq_true_eq]; omega
  have HQ := Shh.mk hq
  clear hn hm hq
  go_enter Try.func110, Try.ntmps110
  go_wp2_with fail
  refine (l03Need_any p s _ hp hs hw).mono ?_
  rw [HN.out]
  rintro e w1 ⟨rfl, hb1⟩
  go_wp2_with fail
  refine (l03Blanks_any p _ hp).mono ?_
  rw [HM.out]
  rintro e w2 ⟨rfl, rfl⟩
  go_wp2
  go_ret
  exact ⟨ret_bool (by first | exact HQ.out.trans HR.out.symm | exact HR.out.symm), hb1⟩
theorem can_is {p s : ByteArray} {b : Bool} (h : canL p.data.toList s.data.toList = b) (w : World) (hp : p.size ≤ 1048576) (hs : s.size ≤ 1048576) (hw : isWordB s.data.toList = true) :
    Calls Try.prog 110 #[.string p, .string s] w fun e w' => e = .returned (.bool b) ∧ Below w.heap.size w w' := by
  rw [← h]
  exact l03Can_any p s w hp hs hw

end Go.Proofs.Ytpjekfebpgjgnaa
