/-
  Lists of strings laid one behind the other by the library, any number of them.
-/
import Derived.Test.YtagabcddonmdgaaL6
import Derived.Lib.AppendZeros
import Derived.Laws.OwnMore
import Derived.Laws.AppendOwn
namespace Go.Proofs.Ytagabcddonmdgaa
open Go.RowKit

theorem append_noneL {w : World} {base : Nat} {e : TypeId} {size : Nat} {P : Program} (t ty : TypeId) (i : TypeInfo) (ht : P.underlying t = some (.slice e)) (hi : P.info? e = some i)
    (v : Value) (n c : Nat) (xs : List Value) (hown : w.ownsRow base e size v n xs) : (Builtin.append_ #[t, t] ty #[v, .slice none 0 c]).run P w = .ok v w := by
  rcases hown.2 with ⟨rfl, rfl⟩ | ⟨g, cap, cur, rfl, _, _, hnc, _⟩
  · simp [Builtin.append_, run_underlying ht, sizeOf, typeInfo, hi, Builtin.lenOf, Builtin.firstCells]
  · simp [Builtin.append_, run_underlying ht, sizeOf, typeInfo, hi, Builtin.lenOf, Builtin.firstCells, hnc, storeCells]

set_option maxRecDepth 100000 in
set_option maxHeartbeats 2000000 in
theorem growL_any (n : Nat) (w : World) (hn : n ≤ 4000000) :
    Calls Try.prog 84 #[.slice none 0 0, .int .i64 (n : Int)] w fun e w' => ∃ v, e = .returned v ∧ w'.ownsRow w.heap.size 9 1 v 0 [] ∧ Below w.heap.size w w' := by
  rcases Nat.eq_zero_or_pos n with h0 | h0
  · subst h0
    have HR := Shh.mk (show w.ownsRow w.heap.size 9 1 (.slice none 0 0) 0 [] from ⟨rfl, .inl ⟨rfl, rfl⟩⟩)
    have HB := Shh.mk (Below.refl w.heap.size w)
    go_enter Try.func84, Try.ntmps84
    go_wp2
    go_ret
    exact ⟨_, rfl, HR.out, HB.out⟩
  · obtain ⟨i0, hi, hz0, hz1, hz2⟩ := info_parts infoS
    have hrz : ∀ ty, (Builtin.append_ #[31, 3] ty #[.slice none 0 0, .int .i64 (n : Int)]).run Try.prog w = _ := fun ty =>
      Lib.run_append_nil_zeros w 31 3 ty 9 i0 (.string ByteArray.empty) .i64 .i64 Try.underlying31 Try.underlying3 hi hz0 n h0 (by omega) (by omega) (by rw [hz2]; omega)
    have hG := grownCap_ge w n 0 9
    have hGm := grownCap_le_maxLen w n 0 9 (by unfold maxLen; omega)
    obtain ⟨G, hGG⟩ : ∃ G, grownCap w n 0 9 = G := ⟨_, rfl⟩
    rw [hGG] at hG hGm
    have hGm' := hGm
    unfold maxLen at hGm'
    have hown := World.ownsRow_made (base := w.heap.size) (e := 9) (size := 1) w.drew (Builtin.zeroCells (Value.string ByteArray.empty).cells n ++ Builtin.zeroCells (Value.string ByteArray.empty).cells (G - n)) G (Nat.le_refl _) hGm (by simp [Builtin.zeroCells, Value.cells]; omega)
    have HOWN := Shh.mk hown
    have hB := Shh.mk (((Below.refl w.heap.size w).drew).alloc (Nat.le_refl _) (.cells (Builtin.zeroCells (Value.string ByteArray.empty).cells n ++ Builtin.zeroCells (Value.string ByteArray.empty).cells (G - n)) 9))
    rw [hGG] at hrz
    have h1 : (0 : Int) < (n : Int) := by omega
    clear hown hGG hGm
    go_enter Try.func84, Try.ntmps84
    go_wp2_with (at_builtin; refine Lib.wpList_append_run _ rfl _ _ _ _ rfl _ _ rfl rfl _ _ (hrz _) ?_)
    go_ret
    exact ⟨_, rfl, HOWN.out, hB.out⟩

theorem strs_oneL (ss : List ByteArray) : ∀ u ∈ ss.map Value.string, u.oneCell' = true := by
  intro u hu
  rw [List.mem_map] at hu
  obtain ⟨x, _, rfl⟩ := hu
  rfl
theorem strs_newsL {w : World} {b off : Nat} {ss : List ByteArray} (h : ∀ j, j < ss.length → w.cell? ⟨b, off + j, none⟩ = some (.string (strAt ss j))) : ∀ j u, (ss.map Value.string)[j]? = some u → w.cell? ((⟨b, off, none⟩ : Addr).add j) = some u := by
  intro j u hj
  have hjl : j < ss.length := by
    rcases Nat.lt_or_ge j ss.length with h | h
    · exact h
    · rw [List.getElem?_eq_none (by simpa using h)] at hj; cases hj
  rw [Go.WideShapes.add_plain, h j hjl, ← hj, strAt_map ss j hjl]

/-- More strings behind a row of the call's own: whatever slice they lie in. -/
theorem wpList_append_strs {w : World} {ops : Array Oper} {rest : List Oper} {o : Oper} {a : Act} {Q : Exit → Act → World → Prop} (hgd : o.guard = none) (s x : Operand)
    (ho : o.op = .call { callee := .builtin .append, args := #[s, x], argTypes := #[31, 31] }) {B : Nat} {v u : Value} {xs ys : List ByteArray} (hs : a.eval s = v) (hx : a.eval x = u)
    (hown : OwnS B w v xs) (hst : Strs w u ys) (hl : xs.length + ys.length ≤ 4000000) (hB : B ≤ w.heap.size)
    (h : ∀ v' w', OwnS B w' v' (xs ++ ys) → w.grownBy w' v.ownBlock → wpList Try.prog ops Q rest (a.put o.dst v') w') : wpList Try.prog ops Q (o :: rest) a w := by
  obtain ⟨i0, hi, hz0, hz1, hz2⟩ := info_parts infoS
  obtain ⟨ad, cap, rfl, l1, m1, k1⟩ := hst
  rcases Nat.eq_zero_or_pos ys.length with hz | hz
  · have hnil : ys = [] := List.eq_nil_of_length_eq_zero hz
    subst hnil
    rcases ad with _ | a2
    · refine Lib.wpList_append_run w hgd s x _ _ ho v _ hs hx v w (append_noneL 31 _ i0 Try.underlying31 hi _ _ _ _ hown) ?_
      exact h v w (by rw [List.append_nil]; exact hown) (World.grownBy.refl _ _)
    · refine wpList_append_own w hgd s x 31 ho B 9 i0 (.string ByteArray.empty) 1 16 Try.underlying31 hi hz0 hz1 hz2 rfl (by decide) v _ _ hs hown a2 0 cap [] hx rfl (fun j u h => by simp at h) (fun u h => by simp at h) ?_ ?_ hB ?_
      · unfold maxLen; omega
      · omega
      · intro v' w' hw hg _
        refine h v' w' ?_ hg
        rw [List.append_nil] at hw ⊢
        exact hw
  · obtain ⟨b2, o2, rfl, hb2, hk2⟩ := k1 hz
    refine wpList_append_own w hgd s x 31 ho B 9 i0 (.string ByteArray.empty) 1 16 Try.underlying31 hi hz0 hz1 hz2 rfl (by decide) v _ _ hs hown ⟨b2, o2, none⟩ ys.length cap (ys.map Value.string) hx (by simp) (strs_newsL hk2) (strs_oneL _) ?_ ?_ hB ?_
    · unfold maxLen; omega
    · omega
    · intro v' w' hw hg _
      refine h v' w' ?_ hg
      rw [← List.map_append] at hw
      unfold OwnS
      rw [List.length_append]
      exact hw

/-! ### The lists and what of them is laid -/
def partAt (ps : List (List ByteArray)) (k : Nat) : List ByteArray := ps.getD k []
def joinTo (ps : List (List ByteArray)) (k : Nat) : List ByteArray := (ps.take k).flatten
theorem joinTo_succ {ps : List (List ByteArray)} {k : Nat} (h : k < ps.length) : joinTo ps (k + 1) = joinTo ps k ++ partAt ps k := by
  unfold joinTo partAt
  rw [List.take_succ_eq_append_getElem h, List.flatten_append]
  simp [List.getD_eq_getElem?_getD, h]
theorem joinTo_all (ps : List (List ByteArray)) : joinTo ps ps.length = ps.flatten := by unfold joinTo; rw [List.take_length]
theorem joinTo_le (ps : List (List ByteArray)) (k : Nat) : (joinTo ps k).length ≤ ps.flatten.length := by
  have e : ps.flatten = (ps.take k).flatten ++ (ps.drop k).flatten := by rw [← List.flatten_append, List.take_append_drop]
  rw [e, List.length_append]
  unfold joinTo
  omega

set_option maxRecDepth 100000 in
set_option maxHeartbeats 2000000 in
theorem concat_any {c : Nat} (ps : List (List ByteArray)) (w : World) (hp : ∀ k, k < ps.length → ∃ u, w.cell? ⟨c, k, none⟩ = some u ∧ Strs w u (partAt ps k)) (hcl : c < w.heap.size) (hn : ps.length ≤ 10) (hz : ps.flatten.length ≤ 2000000)
    {n : Nat} (hnn : ps.length = n) :
    Calls Try.prog 59 #[.slice (some ⟨c, 0, none⟩) n n] w fun e w' => ∃ v, e = .returned v ∧ OwnS w.heap.size w' v ps.flatten ∧ Below w.heap.size w w' := by
  have HA := Shh.mk (joinTo_all ps)
  have HLE := Shh.mk (fun k => Nat.le_trans (joinTo_le ps k) hz)
  have HS := Shh.mk (fun k h => joinTo_succ (ps := ps) (k := k) h)
  rw [hnn] at hp hn HA HS
  have HP := Shh.mk hp
  clear hp hnn hz
  go_enter Try.func59, Try.ntmps59
  go_wp2
  go_loopw [3, 5, 11] (fun x _ i w' => ∃ k : Nat, k ≤ n ∧ i = .int .i64 k ∧ x = .int .i64 ((joinTo ps k).length : Nat) ∧ w' = w) (fun _ _ i _ => n - (intOf i).toNat)
  case atStart => exact ⟨0, by omega, rfl, rfl, rfl⟩
  case round =>
    obtain ⟨k, hk, rfl, rfl, rfl⟩ := hrel
    by_cases hlt : k < n
    · obtain ⟨u, hcu, a, cap, rfl, l1, m1, -⟩ := HP.out k hlt
      have hcu' : wr.cell? ⟨c, 0 + k, none⟩ = some (.slice a (partAt ps k).length cap) := by rw [Nat.zero_add]; exact hcu
      have hE : (joinTo ps (k + 1)).length = (joinTo ps k).length + (partAt ps k).length := by rw [HS.out k hlt, List.length_append]
      have hL := HLE.out (k + 1)
      rw [hE] at hL
      have HE := Shh.mk hE
      clear hE
      obtain ⟨t, ht⟩ : ∃ t, (joinTo ps k).length = t := ⟨_, rfl⟩
      obtain ⟨m, hm⟩ : ∃ m, (partAt ps k).length = m := ⟨_, rfl⟩
      rw [ht, hm] at hL HE
      rw [hm] at hcu hcu' l1
      rw [ht]
      clear ht hm
      have hnn2 : ¬ ((t : Int) + (m : Int) < 0) := by omega
      go_wp2
      go_roundw
      case rel => exact ⟨k + 1, by omega, by go_num, by rw [HE.out]; go_num, by first | trivial | rfl⟩
      case measure => simp [intOf]; omega
    · obtain rfl : k = n := by omega
      have hL := HLE.out k
      obtain ⟨t, ht⟩ : ∃ t, (joinTo ps k).length = t := ⟨_, rfl⟩
      rw [ht] at hL ⊢
      clear ht
      go_wp2_with fail
      refine (growL_any t _ (by omega)).mono ?_
      rintro e w1 ⟨v, rfl, hown, hB⟩
      obtain ⟨W, hW⟩ : ∃ W, W = wr := ⟨_, rfl⟩
      subst hW
      have HO1 := Shh.mk (show OwnS W.heap.size w1 v (joinTo ps 0) from hown)
      clear hown hL hlt hk
      go_wp2
      go_loopw [6, 8, 27] (fun x _ i w' => ∃ j : Nat, j ≤ k ∧ i = .int .i64 j ∧ OwnS W.heap.size w' x (joinTo ps j) ∧ Below W.heap.size W w') (fun _ _ i _ => k - (intOf i).toNat)
      case atStart => exact ⟨0, by omega, rfl, HO1.out, hB⟩
      case round =>
        obtain ⟨j, hj, rfl, ho, hb⟩ := hrel
        have hsz := hb.size
        have HO := Shh.mk ho
        clear ho
        by_cases hlt : j < k
        · obtain ⟨u, hcu, a, cap, rfl, l1, m1, k1⟩ := HP.out j hlt
          have hcc : wr.cell? ⟨c, j, none⟩ = some (.slice a (partAt ps j).length cap) := (hb.cell (p := ⟨c, j, none⟩) hcl).trans hcu
          have hcc' : wr.cell? ⟨c, 0 + j, none⟩ = some (.slice a (partAt ps j).length cap) := by rw [Nat.zero_add]; exact hcc
          have hS := HS.out j hlt
          have hL := HLE.out (j + 1)
          rw [hS, List.length_append] at hL
          have hs := Shh.mk (show Strs wr (.slice a (partAt ps j).length cap) (partAt ps j) from (show Strs W _ _ from ⟨a, cap, rfl, l1, m1, k1⟩).below hb)
          have HS1 := Shh.mk hS
          clear k1 hS hcu
          go_wp2_with (at_builtin; refine wpList_append_strs rfl _ _ rfl rfl rfl HO.out hs.out ?d3 ?d5 ?_)
          case d3 => omega
          case d5 => exact hsz
          intro v' w2 hown' hgrow
          have hB2 : Below W.heap.size W w2 := hb.grown hgrow hsz (OwnS.block HO.out)
          rw [← HS1.out] at hown'
          have HOW := Shh.mk hown'
          clear hown' hgrow
          go_wp2
          go_roundw
          case rel => exact ⟨j + 1, by omega, by first | rfl | go_num, HOW.out, hB2⟩
          case measure => simp [intOf]; omega
        · obtain rfl : j = k := by omega
          have ho := HO.out
          rw [HA.out] at ho
          have HF := Shh.mk ho
          clear ho
          go_wp2
          go_ret
          exact ⟨_, rfl, HF.out, hb⟩
end Go.Proofs.Ytagabcddonmdgaa
