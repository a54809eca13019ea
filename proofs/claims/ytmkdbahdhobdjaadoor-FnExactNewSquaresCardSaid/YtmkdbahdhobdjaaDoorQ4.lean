/-
  The program's pile of counts, and whether a text is a pile.
-/
import Derived.Test.YtmkdbahdhobdjaaDoorQ3
import Derived.Test.YtmkdbahdhobdjaaDoorShelfI
namespace Go.Proofs.YtmkdbahdhobdjaaDoor
open Go.RowKit

def orderB : ByteArray := ⟨#[63, 97, 98, 99, 100, 101, 102, 103, 104, 105, 106, 107, 108, 109, 110, 111, 112, 113, 114, 115, 116, 117, 118, 119, 120, 121, 122]⟩
theorem order_at_all : ∀ k : Nat, k < 27 → (orderB.extract k (k + 1)).data.toList = [tileOf k] := by decide +kernel
theorem repeat_one (c : UInt8) : ∀ n : Nat, Lib.repeatL [c] n = List.replicate n c := by
  intro n
  induction n with
  | zero => rfl
  | succ n ih => first | (rw [Lib.repeatL, ih]; rfl) | simp_all [Lib.repeatL, List.replicate_succ]
theorem repeat_tile {k n : Nat} {s : ByteArray} (hk : k < 27) (hs : s = orderB.extract k (k + 1)) : Lib.repeatL s.data.toList n = List.replicate n (tileOf k) := by
  subst hs
  rw [order_at_all k hk, repeat_one]
theorem repeat_any {k n : Nat} (s : ByteArray) (w : World) (hs : s.data.toList = [tileOf k]) (hn : n ≤ 1000) :
    Calls Tryd.prog 139 #[.string s, .int .i64 (n : Int)] w fun e w' => e = .returned (.string ⟨(List.replicate n (tileOf k)).toArray⟩) ∧ Below w.heap.size w w' := by
  have h1 : s.size = 1 := by
    have : s.data.toList.length = s.size := by simp
    rw [← this, hs]
    rfl
  refine (Tryd.strings_Repeat s n w (by omega) (by rw [h1]; omega)).mono ?_
  rintro e w' ⟨rfl, hb⟩
  rw [hs, repeat_one]
  exact ⟨rfl, hb⟩
theorem pileN_len {f : Nat → Nat} {m : Nat} (h : ∀ k, k < 27 → f k ≤ m) : ∀ n, n ≤ 27 → (pileN f n).length ≤ m * n
  | 0, _ => by simp [pileN]
  | n + 1, hn => by
    have ih := pileN_len h n (by omega)
    have := h n (by omega)
    unfold pileN
    rw [List.length_append, List.length_replicate, Nat.mul_succ]
    omega

set_option maxRecDepth 100000 in
set_option maxHeartbeats 4000000 in
theorem pileOf_any (f : Nat → Nat) (w : World) (hf : ∀ k, k < 27 → f k ≤ 1000) :
    Calls Tryd.prog 93 #[.agg (arrN f)] w fun e w' => e = .returned (.string ⟨(pileN f 27).toArray⟩) ∧ Below w.heap.size w w' := by
  have hbx : Blk (w.alloc (.cells (arrN f) 117)) w.heap.size 117 (arrN f) := Blk.made _ _ _
  have HF := hid hf
  clear hf
  go_enter Tryd.func93, Tryd.ntmps93
  go_wp2_with (refine wpList_load_row rfl 117 _ rfl w.heap.size (by rfl) 117 _ (0, 0) _ ((hid hbx).out.alloc _) Tryd.underlying117 rfl (arr_info _) ?_)
  have hfr := fresh_builder (w.alloc (.cells (arrN f) 117))
  rw [World.size_alloc] at hfr
  have HFR := hid (hfr.lower (Nat.le_succ _))
  clear hfr
  go_loopw [7] (fun i wr => ∃ k : Nat, k ≤ 27 ∧ i = .int .i64 k ∧ Hid (IsB w.heap.size (w.heap.size + 1) (pileN f k) wr) ∧ Below w.heap.size w wr) (fun i _ => 27 - (intOf i).toNat)
  case atStart => exact ⟨0, Nat.zero_le _, rfl, HFR.out, ((Below.refl _ _).alloc (Nat.le_refl _) _).alloc (by simp) _⟩
  case round =>
    obtain ⟨k, hk, rfl, hbd, hb⟩ := hrel
    have hz := hb.size
    by_cases hlt : k < 27
    · have hix : ∀ w, (Instr.index 117 (.agg (arrN f)) (.int .i64 (k : Int))).run Tryd.prog w = .ok (.int .i64 (f k : Int)) w := fun w => index_arr (fun k => (f k : Int)) hlt w
      have hfk := HF.out k hlt
      have hln := pileN_len HF.out k hk
      have hk1 : (k : Int) < 27 := by omega
      have hk2 : (k : Int) + 1 ≤ 27 := by omega
      have HN := hid (show pileN f (k + 1) = pileN f k ++ List.replicate (f k) (tileOf k) from rfl)
      obtain ⟨L, hL⟩ : ∃ L, pileN f k = L := ⟨_, rfl⟩
      rw [hL] at hbd hln HN
      obtain ⟨x, hx⟩ : ∃ x, f k = x := ⟨_, rfl⟩
      rw [hx] at hix hfk HN
      clear hL hx
      go_wp2_with (first
        | (go_at_call 139; refine (repeat_any (k := k) _ _ (order_at_all k hlt) (by omega)).mono ?_; rintro e w2 ⟨rfl, hb2⟩)
        | (go_at_call 62; refine (writeString_any w.heap.size (w.heap.size + 1) L _ _ (hbd.out.kept hb2) (by simp [ByteArray.size]; omega) (by have := hb2.size; omega)).mono ?_; rintro e w3 ⟨rfl, hbd3, hb3⟩))
      have HB3 := hid hbd3
      clear hbd3
      go_roundw
      case rel =>
        refine ⟨k + 1, by omega, by go_num, ?_, hb.trans ((hb2.mono hz).trans hb3)⟩
        rw [Hid, HN.out]
        simpa using HB3.out
      case measure => simp [intOf]; omega
    · obtain rfl : k = 27 := by omega
      go_wp2_with (go_at_call 65; refine (Tryd.Builder_String_any w.heap.size (w.heap.size + 1) (pileN f 27) _ hbd.out hz).mono ?_; rintro e w2 ⟨rfl, hb2⟩)
      go_ret
      exact ⟨rfl, hb.trans hb2⟩
end Go.Proofs.YtmkdbahdhobdjaaDoor
