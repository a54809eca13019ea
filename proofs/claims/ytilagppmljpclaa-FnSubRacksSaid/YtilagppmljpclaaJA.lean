/-
  The sub-racks of a rack: the model's SubRacks.
-/
import Derived.Test.YtilagppmljpclaaJ8
import Derived.Test.YtilagppmljpclaaV1
namespace Go.Proofs.Ytilagppmljpclaa
open Go.RowKit

/-- What SubRacks answers. -/
structure SubOut (s : ByteArray) (t : List ByteArray × Int) : Prop where
  bad : rackB s = false → t = ([], 1)
  subs : rackB s = true → SubRacks s.data.toList t.1 ∧ t.2 = 0
  len : t.1.length ≤ 1024
theorem rack_is {s : ByteArray} {b : Bool} (h : rackB s = b) (w : World) (hs : s.size ≤ 1048576) : Calls Try.prog 53 #[.string s] w fun e w' => e = .returned (.bool b) ∧ Below w.heap.size w w' := by
  rw [← h]; exact l03Rack_any s w hs
theorem rack_seven {s : ByteArray} (h : rackB s = true) : pileB s.data.toList = true ∧ s.size ≤ 7 := by
  unfold rackB at h
  rw [Bool.and_eq_true, decide_eq_true_eq] at h
  exact h
/-- So much is in the model's row behind k numbers of tiles. -/
structure Got (s : ByteArray) (k : Nat) (M : List ByteArray) : Prop where
  all : AllSubs s.data.toList k M
  len : M.length ≤ k * 128
theorem got_more {s : ByteArray} {k : Nat} {M Z : List ByteArray} (h : Got s k M) (hz : Subs s.data.toList k Z) (hs : s.size ≤ 7) : Got s (k + 1) (M ++ Z) := by
  refine ⟨all_more h.all hz, ?_⟩
  have h1 := hz.len
  have h2 : 2 ^ s.data.toList.length ≤ 128 := Nat.pow_le_pow_right (n := 2) (j := 7) (by decide) (by rw [len_list]; exact hs)
  have h3 := h.len
  have h4 := Nat.le_trans h1 h2
  rw [List.length_append]
  omega

set_option maxRecDepth 100000 in
set_option maxHeartbeats 2000000 in
theorem specSubRacks_any (s : ByteArray) (w : World) (hs : s.size ≤ 1048576) :
    Calls Try.prog 14 #[.string s] w fun e w' => ∃ t, SubOut s t ∧ ∃ v, e = retS v t.2 ∧ Strs w' v t.1 ∧ Below w.heap.size w w' := by
  cases h1 : rackB s
  · have HP := Shh.mk h1
    have HO := Shh.mk (show SubOut s ([], 1) from ⟨fun _ => rfl, fun h => (by rw [h1] at h; cases h), by simp⟩)
    clear h1
    go_enter Try.func14, Try.ntmps14
    go_wp2_with fail
    refine (rack_is HP.out _ hs).mono ?_
    rintro e w1 ⟨rfl, hb1⟩
    go_wp2
    go_ret2
    first | exact ⟨_, HO.out, _, rfl, (OwnS.voidG 0 _).strs, hb1⟩ | exact ⟨_, _, HO.out, _, rfl, (OwnS.voidG 0 _).strs, hb1⟩
  · have HP := Shh.mk h1
    have hs7 := (rack_seven h1).2
    have HS7 := Shh.mk hs7
    clear h1
    go_enter Try.func14, Try.ntmps14
    go_wp2_with fail
    refine (rack_is HP.out _ hs).mono ?_
    rintro e w1 ⟨rfl, hb1⟩
    have HE := Shh.mk (show OwnS w.heap.size (w1.alloc (.cells #[] 9)) (.slice (some ⟨w1.heap.size, 0, none⟩) 0 0) [] from OwnS.lower (World.ownsRow_lit (size := 1) w1 #[] 0 (Nat.le_refl _) (by unfold maxLen; omega) rfl) hb1.size)
    have HB := Shh.mk (hb1.alloc hb1.size (.cells #[] 9))
    clear hb1
    go_wp2
    go_loopw [4, 5] (fun o i wr => ∃ (k : Nat) (M : List ByteArray), k ≤ s.size + 1 ∧ i = .int .i64 k ∧ Shh (OwnS w.heap.size wr o M) ∧ Shh (Got s k M) ∧ Shh (Below w.heap.size w wr)) (fun _ i _ => s.size + 1 - (intOf i).toNat)
    case atStart => exact ⟨0, [], Nat.zero_le _, rfl, HE, ⟨all_nil _, by simp⟩, HB⟩
    case round =>
      obtain ⟨k, M, hk, rfl, ho, hg, hb⟩ := hrel
      have hml := hg.out.len
      by_cases hlt : k ≤ s.size
      · have hlti : (k : Int) ≤ (s.size : Int) := by omega
        obtain ⟨a, cap, rfl, -, -, -⟩ := own_form ho.out
        go_wp2_with fail
        refine (l03Subs_any k s _ hs7 (by omega)).mono ?_
        rintro e w4 ⟨v4, rfl, Z, hoz, hZ, hb4⟩
        have HZO := Shh.mk (OwnS.strs hoz)
        have HG := Shh.mk (got_more hg.out hZ HS7.out)
        have HO4 := Shh.mk (OwnS.kept ho.out hb4)
        have HB4 := Shh.mk (hb.out.trans (hb4.mono hb.out.size))
        have hgl := HG.out.len
        rw [List.length_append] at hgl
        obtain ⟨a4, c4, rfl, -, -, -⟩ := own_form hoz
        clear hoz hZ hb4
        go_wp2_with (at_builtin; refine wpList_append_strs rfl _ _ rfl rfl rfl HO4.out HZO.out (by omega) HB4.out.size ?_; intro v' w5 ho5 hg5)
        have HB5 := Shh.mk (HB4.out.grown hg5 HB4.out.size (fun j hj => (HO4.out.blockJ j hj).1))
        have HO5 := Shh.mk ho5
        clear ho5 hg5
        go_wp2
        go_roundw
        case rel => exact ⟨k + 1, _, by omega, by go_num, HO5, HG, HB5⟩
        case measure => simp [intOf]; omega
      · have hlti : ¬ (k : Int) ≤ (s.size : Int) := by omega
        have hk1 : k = s.data.toList.length + 1 := by rw [len_list]; omega
        have HF := Shh.mk (show SubOut s (M, 0) from ⟨fun h => (by rw [HP.out] at h; cases h), fun _ => ⟨all_done (by rw [← hk1]; exact hg.out.all), rfl⟩, by simp only; omega⟩)
        obtain ⟨a, cap, rfl, -, -, -⟩ := own_form ho.out
        clear hk1
        go_wp2
        go_ret2
        first | exact ⟨_, HF.out, _, rfl, OwnS.strs ho.out, hb.out⟩ | exact ⟨_, _, HF.out, _, rfl, OwnS.strs ho.out, hb.out⟩
end Go.Proofs.Ytilagppmljpclaa
