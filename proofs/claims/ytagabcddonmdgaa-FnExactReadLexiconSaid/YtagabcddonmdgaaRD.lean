/-
  The lines of a text, as the library hands them on: strings.Lines and its iterator.
-/
import Derived.Test.YtagabcddonmdgaaRA
import Derived.Test.YtagabcddonmdgaaN2
import Derived.Test.YtagabcddonmdgaaRB
import Derived.Test.YtagabcddonmdgaaShelfI
import Derived.Shelf.Abstract
import Derived.Shelf.RegionOpen
import Derived.WalkKit
import Derived.OwnWalkIn
import Derived.TacticsInMore
import Derived.LoopNIn
import Derived.LoopIn
namespace Go.Proofs.Ytagabcddonmdgaa
open Go.RowKit Go.Shelf
attribute [local go_sem] Oper.semAt_some

def linesB (s : ByteArray) : List ByteArray := (linesL s.data.toList).map txt
theorem size_list (s : ByteArray) : s.data.toList.length = s.size := by rw [Array.length_toList]; rfl
theorem linesB_nil {s : ByteArray} (h : s.size = 0) : linesB s = [] := by
  have : s.data.toList = [] := List.length_eq_zero_iff.1 (by rw [size_list, h])
  unfold linesB
  rw [this]
  rfl
theorem linesB_last {s : ByteArray} (h : 0 < s.size) (hc : lineCut s.data.toList = (s.data.toList, [])) : linesB s = [s] := by
  have hn : s.data.toList ≠ [] := fun e => by have := size_list s; rw [e] at this; simp at this; omega
  unfold linesB
  rw [linesL_cons hn, hc, linesL_nil]
  show [txt s.data.toList] = [s]
  rw [txt_of]
theorem linesB_cut {s : ByteArray} {i : Nat} (h : 0 < s.size) (hc : lineCut s.data.toList = (s.data.toList.take (i + 1), s.data.toList.drop (i + 1))) :
    linesB s = s.extract 0 (i + 1) :: linesB (s.extract (i + 1) s.size) := by
  have hn : s.data.toList ≠ [] := fun e => by have := size_list s; rw [e] at this; simp at this; omega
  have e1 : (s.extract 0 (i + 1)).data.toList = s.data.toList.take (i + 1) := by rw [ext_listY]; simp
  have e2 : (s.extract (i + 1) s.size).data.toList = s.data.toList.drop (i + 1) := by
    rw [ext_listY, List.take_of_length_le (by rw [size_list]; omega)]
  unfold linesB
  rw [linesL_cons hn, hc, e2]
  show txt (s.data.toList.take (i + 1)) :: _ = _
  rw [← e1, txt_of]
/-- How many bytes the iterator's cell still has. -/
def leftIn (C : Nat) (W : World) : Nat := match W.cell? ⟨C, 0, none⟩ with
  | some (.string r) => r.size
  | _ => 0
theorem leftIn_of {C : Nat} {W : World} {r : ByteArray} (h : W.cell? ⟨C, 0, none⟩ = some (.string r)) : leftIn C W = r.size := by unfold leftIn; rw [h]
theorem boxed_heap {W W' : World} {C : Nat} {t : TypeId} {v : Value} (h : Boxed W C t v) (e : W'.heap[C]? = W.heap[C]?) : Boxed W' C t v := e.trans h

set_option maxRecDepth 100000 in
set_option maxHeartbeats 4000000 in
theorem lines_iter (n C : Nat) (s : ByteArray) (W0 : World) (hs : s.size ≤ 1048576) (hb : Boxed W0 C 9 (.string s)) :
    CellIter Fence.wide n Try.prog 65 #[.pointer (some ⟨C, 0, none⟩)] Value.string C (linesB s) W0 := by
  intro l J Jx W hC hJ hJd hY h0
  have hbW := boxed_heap hb hC
  refine callsIn_of_wp Try.func65 rfl trivial ?_ rfl
  simp only [Try.ntmps65, List.size_toArray, List.length_cons, List.length_nil, Nat.reduceAdd, Nat.reduceSub, Array.replicate_succ, Array.replicate_zero, List.push_toArray, List.append_toArray, List.nil_append, List.cons_append]
  gi_wp2
  gi_loopw [3, 4] (fun _ _ wr => ∃ (pre : List ByteArray) (r : ByteArray), pre ++ linesB r = linesB s ∧ r.size ≤ 1048576 ∧ Boxed wr C 9 (.string r) ∧ J pre wr) (fun _ _ wr => leftIn C wr)
  case atStart => exact ⟨[], s, rfl, hs, hbW, h0⟩
  case round =>
    obtain ⟨pre, r, hpr, hrs, hbx, hj⟩ := hrel
    have c0 := hbx.cell
    have f0 := hbx.frozen
    have hleft := leftIn_of c0
    by_cases hr : 0 < r.size
    · have hri : (0 : Int) < (r.size : Int) := by omega
      rcases index_cut r.data.toList with ⟨hix, hcut⟩ | ⟨i, hix, hil, hcut⟩
      · have hls := linesB_last hr hcut
        rw [hls] at hpr
        have hb2 : Boxed (wr.setCell ⟨C, 0, none⟩ (.string ⟨#[]⟩)) C 9 (.string ⟨#[]⟩) := hbx.set _
        obtain ⟨fn, tmps, assign, body, hy, hR⟩ := hY pre r (wr.setCell ⟨C, 0, none⟩ (.string ⟨#[]⟩)) (hJ pre wr _ hj) (by rw [← hpr]; exact List.prefix_refl _)
        have HIX := Shh.mk hix
        have HPR := Shh.mk hpr
        clear hix hcut hls hpr
        gi_wp2
        refine ⟨trivial, fun h => by simp [Fence.wide] at h, (callsIn_wide.2 (Try.strings_IndexByte r 10 _)).mono ?_⟩
        rw [show (10 : Int).toNat.toUInt8 = (10 : UInt8) from rfl, HIX.out]
        rintro e w1 ⟨rfl, rfl⟩
        gi_wp2
        refine ⟨fun h => by simp [Fence.wide] at h, hR.mono ?_⟩
        rintro e W3 (⟨rfl, hJ3, hk3⟩ | ⟨rfl, hJx3⟩)
        · have hb3 := boxed_heap hb2 hk3
          have hl3 := leftIn_of hb3.cell
          gi_wp2
          go_roundw
          case rel => exact ⟨pre ++ [r], ⟨#[]⟩, by rw [linesB_nil (s := ⟨#[]⟩) rfl, List.append_nil]; exact HPR.out, by simp [ByteArray.size], hb3, hJ3⟩
          case measure => rw [hl3, hleft]; exact hr
        · gi_wp2
          refine bodyPost_ret (results_none rfl _ _ _) rfl ?_
          exact ⟨⟨_, rfl⟩, .inr ⟨pre ++ [r], by rw [← HPR.out]; exact List.prefix_refl _, hJx3⟩⟩
      · have hls := linesB_cut hr hcut
        have hi : i < r.size := by rw [size_list] at hil; exact hil
        rw [hls] at hpr
        obtain ⟨x, hx⟩ : ∃ x, r.extract 0 (i + 1) = x := ⟨_, rfl⟩
        obtain ⟨r2, hr2⟩ : ∃ r2, r.extract (i + 1) r.size = r2 := ⟨_, rfl⟩
        rw [hx, hr2] at hpr
        have hz2 : r2.size = r.size - (i + 1) := by rw [← hr2]; simp
        have hb2 : Boxed (wr.setCell ⟨C, 0, none⟩ (.string r2)).drew C 9 (.string r2) := show Boxed (wr.setCell ⟨C, 0, none⟩ (.string r2)) C 9 (.string r2) from hbx.set _
        obtain ⟨fn, tmps, assign, body, hy, hR⟩ := hY pre x (wr.setCell ⟨C, 0, none⟩ (.string r2)).drew (hJd pre _ (hJ pre wr _ hj)) (by rw [← hpr]; exact ⟨linesB r2, by simp⟩)
        have HIX := Shh.mk hix
        have HPR := Shh.mk hpr
        have hge : (0 : Int) ≤ (i : Int) := by omega
        have hup : (i : Int) + 1 ≤ (r.size : Int) := by omega
        have hwr : IntKind.i64.wrap ((i : Int) + 1) = (i : Int) + 1 := IntWalk.i64_in _ (by omega)
        have hlo : (0 : Int) ≤ (i : Int) + 1 := by omega
        have hnn : ((i : Int) + 1).toNat = i + 1 := by omega
        clear hix hcut hls hpr hil
        gi_wp2
        refine ⟨trivial, fun h => by simp [Fence.wide] at h, (callsIn_wide.2 (Try.strings_IndexByte r 10 _)).mono ?_⟩
        rw [show (10 : Int).toNat.toUInt8 = (10 : UInt8) from rfl, HIX.out]
        rintro e w1 ⟨rfl, rfl⟩
        gi_wp2
        refine wpIn_wide.2 ?_
        go_region_law (fail)
        all_goals
          gi_wp2
          refine ⟨fun h => by simp [Fence.wide] at h, hR.mono ?_⟩
          rintro e W3 (⟨rfl, hJ3, hk3⟩ | ⟨rfl, hJx3⟩)
          · have hb3 := boxed_heap hb2 hk3
            have hl3 := leftIn_of hb3.cell
            gi_wp2
            go_roundw
            case rel => exact ⟨pre ++ [x], r2, by rw [← HPR.out]; simp, by omega, hb3, hJ3⟩
            case measure => rw [hl3, hleft]; omega
          · gi_wp2
            refine bodyPost_ret (results_none rfl _ _ _) rfl ?_
            exact ⟨⟨_, rfl⟩, .inr ⟨pre ++ [x], by rw [← HPR.out]; exact ⟨linesB r2, by simp⟩, hJx3⟩⟩
    · have h0' : r.size = 0 := by omega
      have hri : ¬ (0 : Int) < (r.size : Int) := by omega
      gi_wp2
      go_end0
      exact ⟨⟨_, rfl⟩, .inl (by rw [← hpr, linesB_nil h0', List.append_nil]; exact hj)⟩
end Go.Proofs.Ytagabcddonmdgaa
