/-
  Two lists of strings laid one behind the other by the library.
-/
import Derived.Test.YtpdphimlpeiifaaH4
import Derived.Lib.AppendZeros
import Derived.Laws.OwnMore
import Derived.Laws.AppendOwn
namespace Go.Proofs.Ytpdphimlpeiifaa
open Go.RowKit

theorem append_none {w : World} {base : Nat} {e : TypeId} {size : Nat} {P : Program} (t ty : TypeId) (i : TypeInfo) (ht : P.underlying t = some (.slice e)) (hi : P.info? e = some i)
    (v : Value) (n c : Nat) (xs : List Value) (hown : w.ownsRow base e size v n xs) : (Builtin.append_ #[t, t] ty #[v, .slice none 0 c]).run P w = .ok v w := by
  rcases hown.2 with ⟨rfl, rfl⟩ | ⟨g, cap, cur, rfl, _, _, hnc, _⟩
  · simp [Builtin.append_, run_underlying ht, sizeOf, typeInfo, hi, Builtin.lenOf, Builtin.firstCells]
  · simp [Builtin.append_, run_underlying ht, sizeOf, typeInfo, hi, Builtin.lenOf, Builtin.firstCells, hnc, storeCells]

set_option maxRecDepth 100000 in
set_option maxHeartbeats 2000000 in
theorem growS_any (n : Nat) (w : World) (h0 : 0 < n) (hn : n ≤ 4000000) :
    Calls Try.prog 133 #[.slice none 0 0, .int .i64 (n : Int)] w fun e w' => ∃ v, e = .returned v ∧ w'.ownsRow w.heap.size 9 1 v 0 [] ∧ Below w.heap.size w w' := by
  obtain ⟨i0, hi, hz0, hz1, hz2⟩ := info_parts infoS
  have hrz : ∀ ty, (Builtin.append_ #[51, 3] ty #[.slice none 0 0, .int .i64 (n : Int)]).run Try.prog w = _ := fun ty =>
    Lib.run_append_nil_zeros w 51 3 ty 9 i0 (.string ByteArray.empty) .i64 .i64 Try.underlying51 Try.underlying3 hi hz0 n h0 (by omega) (by omega) (by rw [hz2]; omega)
  have hG := grownCap_ge w n 0 9
  have hGm := grownCap_le_maxLen w n 0 9 (by unfold maxLen; omega)
  obtain ⟨G, hGG⟩ : ∃ G, grownCap w n 0 9 = G := ⟨_, rfl⟩
  rw [hGG] at hG hGm
  have hGm' := hGm
  unfold maxLen at hGm'
  have hown := World.ownsRow_made (base := w.heap.size) (e := 9) (size := 1) w.drew (Builtin.zeroCells (Value.string ByteArray.empty).cells n ++ Builtin.zeroCells (Value.string ByteArray.empty).cells (G - n)) G (Nat.le_refl _) hGm (by simp [Builtin.zeroCells, Value.cells]; omega)
  have HOWN := Shh.mk hown
  have hB := Shh.mk (((Below.refl w.heap.size w).drew).alloc (Nat.le_refl _) (.cells (Builtin.zeroCells (Value.string ByteArray.empty).cells n ++ Builtin.zeroCells (Value.string ByteArray.empty).cells (G - n)) 9))
  rw [hGG] at hrz
  have h1 : (0 : Int) < (n : Int) := by omega
  clear hown hGG hGm
  go_enter Try.func133, Try.ntmps133
  go_wp2_with (at_builtin; refine Lib.wpList_append_run _ rfl _ _ _ _ rfl _ _ rfl rfl _ _ (hrz _) ?_)
  go_ret
  exact ⟨_, rfl, HOWN.out, hB.out⟩

theorem strs_one (ss : List ByteArray) : ∀ u ∈ ss.map Value.string, u.oneCell' = true := by
  intro u hu
  rw [List.mem_map] at hu
  obtain ⟨x, _, rfl⟩ := hu
  rfl
theorem strs_news {w : World} {b off : Nat} {ss : List ByteArray} (h : ∀ j, j < ss.length → w.cell? ⟨b, off + j, none⟩ = some (.string (strAt ss j))) : ∀ j u, (ss.map Value.string)[j]? = some u → w.cell? ((⟨b, off, none⟩ : Addr).add j) = some u := by
  intro j u hj
  have hjl : j < ss.length := by
    rcases Nat.lt_or_ge j ss.length with h | h
    · exact h
    · rw [List.getElem?_eq_none (by simpa using h)] at hj; cases hj
  rw [Go.WideShapes.add_plain, h j hjl, ← hj, strAt_map ss j hjl]
theorem own_blockL {B n : Nat} {e : TypeId} {w : World} {v : Value} {xs : List Value} (h : w.ownsRow B e 1 v n xs) : ∀ k, v.ownBlock = some k → B ≤ k := fun k hk => (h.lt k hk).1
def szK (a b : Nat) (k : Nat) : Nat := if k = 0 then 0 else if k = 1 then a else a + b
def rowK (a b : List ByteArray) (k : Nat) : List ByteArray := if k = 0 then [] else if k = 1 then a else a ++ b

set_option maxRecDepth 100000 in
set_option maxHeartbeats 2000000 in
theorem concat_two {c : Nat} {u1 u2 : Value} {s1 s2 : List ByteArray} (w : World) (hc0 : w.cell? ⟨c, 0, none⟩ = some u1) (hc1 : w.cell? ⟨c, 1, none⟩ = some u2) (hcl : c < w.heap.size) (h1 : Strs w u1 s1) (h2 : Strs w u2 s2)
    (z0 : 0 < s1.length) (z1 : s1.length ≤ 1000) (z2 : s2.length ≤ 2000000) :
    Calls Try.prog 100 #[.slice (some ⟨c, 0, none⟩) 2 2] w fun e w' => ∃ v, e = .returned v ∧ OwnS w.heap.size w' v (s1 ++ s2) ∧ Below w.heap.size w w' := by
  obtain ⟨i0, hi, hz0, hz1, hz2⟩ := info_parts infoS
  obtain ⟨a1, c1, rfl, l1, m1, k1⟩ := h1
  obtain ⟨a2, c2, rfl, l2, m2, k2⟩ := h2
  obtain ⟨b1, o1, rfl, hb1, hk1⟩ := k1 z0
  have HK1 := Shh.mk hk1
  have HK2 := Shh.mk k2
  clear k1 k2 hk1
  go_enter Try.func100, Try.ntmps100
  go_wp2
  go_loopw [3, 5, 11] (fun x _ i w' => ∃ k : Nat, k ≤ 2 ∧ i = .int .i64 k ∧ x = .int .i64 (szK s1.length s2.length k : Nat) ∧ w' = w) (fun _ _ i _ => 2 - (intOf i).toNat)
  case atStart => exact ⟨0, by omega, rfl, rfl, rfl⟩
  case round =>
    obtain ⟨k, hk, rfl, rfl, rfl⟩ := hrel
    rcases Nat.eq_zero_or_pos k with hk0 | hk0
    · subst hk0
      have e0 : szK s1.length s2.length 0 = 0 := rfl
      rw [e0]
      go_wp2
      go_roundw
      case rel => exact ⟨1, by omega, by first | rfl | go_num, by first | rfl | (congr 1; simp [szK]), by first | trivial | rfl⟩
      case measure => simp [intOf]
    · rcases Nat.lt_or_ge k 2 with hk2 | hk2
      · obtain rfl : k = 1 := by omega
        have e0 : szK s1.length s2.length 1 = s1.length := rfl
        rw [e0]
        go_wp2
        go_roundw
        case rel => exact ⟨2, by omega, by first | rfl | go_num, by first | rfl | (congr 1; simp [szK]), by first | trivial | rfl⟩
        case measure => simp [intOf]
      · obtain rfl : k = 2 := by omega
        have e0 : szK s1.length s2.length 2 = s1.length + s2.length := rfl
        rw [e0]
        go_wp2_with fail
        refine (growS_any (s1.length + s2.length) _ (by omega) (by omega)).mono ?_
        rintro e w1 ⟨v, rfl, hown, hB⟩
        obtain ⟨W, hW⟩ : ∃ W, W = wr := ⟨_, rfl⟩
        subst hW
        have HO1 := Shh.mk (show OwnS W.heap.size w1 v (rowK s1 s2 0) from hown)
        clear hown
        go_wp2
        go_loopw [6, 8, 27] (fun x _ i w' => ∃ k : Nat, k ≤ 2 ∧ i = .int .i64 k ∧ OwnS W.heap.size w' x (rowK s1 s2 k) ∧ Below W.heap.size W w') (fun _ _ i _ => 2 - (intOf i).toNat)
        case atStart => exact ⟨0, by omega, rfl, HO1.out, hB⟩
        case round =>
          obtain ⟨k, hk, rfl, ho, hb⟩ := hrel
          have hsz := hb.size
          have HO := Shh.mk ho
          clear ho
          rcases Nat.eq_zero_or_pos k with hk0 | hk0
          · subst hk0
            have hcc := (hb.cell (p := ⟨c, 0, none⟩) hcl).trans hc0
            go_wp2_with (at_builtin; refine wpList_append_own _ rfl _ _ 51 rfl W.heap.size 9 i0 (.string ByteArray.empty) 1 16 Try.underlying51 hi hz0 hz1 hz2 rfl (by decide) _ _ _ rfl HO.out ⟨b1, o1, none⟩ s1.length c1 (s1.map Value.string) rfl ?d0 ?d1 (strs_one s1) ?d3 ?d4 ?d5 ?_)
            case d0 => simp
            case d1 => exact strs_news fun j hj => (hb.cell (p := ⟨b1, o1 + j, none⟩) hb1).trans (HK1.out j hj)
            case d3 => show (rowK s1 s2 0).length + s1.length ≤ maxLen; rw [show (rowK s1 s2 0).length = 0 from rfl]; unfold maxLen; omega
            case d4 => rw [show (rowK s1 s2 0).length = 0 from rfl]; omega
            case d5 => exact hsz
            intro v' w2 hown' hgrow _
            have hB2 : Below W.heap.size W w2 := hb.grown hgrow hsz (own_blockL HO.out)
            have HOW := Shh.mk (show OwnS W.heap.size w2 v' (rowK s1 s2 1) by
              have e : (rowK s1 s2 0).length + s1.length = s1.length := by rw [show (rowK s1 s2 0).length = 0 from rfl]; omega
              rw [e] at hown'
              exact hown')
            clear hown' hgrow
            go_wp2
            go_roundw
            case rel => exact ⟨1, by omega, by first | rfl | go_num, HOW.out, hB2⟩
            case measure => simp [intOf]
          · rcases Nat.lt_or_ge k 2 with hk2 | hk2
            · obtain rfl : k = 1 := by omega
              have hcc := (hb.cell (p := ⟨c, 1, none⟩) hcl).trans hc1
              have er : rowK s1 s2 1 = s1 := rfl
              have er2 : rowK s1 s2 2 = s1 ++ s2 := rfl
              rcases Nat.eq_zero_or_pos s2.length with hz | hz
              · have hnil : s2 = [] := List.eq_nil_of_length_eq_zero hz
                have E12 := Shh.mk (show rowK s1 s2 2 = rowK s1 s2 1 by rw [er, er2, hnil, List.append_nil])
                clear HK2
                rw [hz] at hcc
                clear hnil hz
                rcases a2 with _ | a2
                · go_wp2_with (at_builtin; refine Lib.wpList_append_run _ rfl _ _ _ _ rfl _ _ rfl rfl _ _ (append_none 51 _ i0 rfl hi _ _ _ _ HO.out) ?_)
                  go_roundw
                  case rel => exact ⟨2, by omega, by first | rfl | go_num, by rw [E12.out]; exact HO.out, hb⟩
                  case measure => simp [intOf]
                · go_wp2_with (at_builtin; refine wpList_append_own _ rfl _ _ 51 rfl W.heap.size 9 i0 (.string ByteArray.empty) 1 16 Try.underlying51 hi hz0 hz1 hz2 rfl (by decide) _ _ _ rfl HO.out a2 0 c2 [] rfl rfl (fun j u h => by simp at h) (fun u h => by simp at h) ?d3 ?d4 ?d5 ?_)
                  case d3 => rw [er]; unfold maxLen; omega
                  case d4 => rw [er]; omega
                  case d5 => exact hsz
                  intro v' w2 hown' hgrow _
                  have hB2 : Below W.heap.size W w2 := hb.grown hgrow hsz (own_blockL HO.out)
                  have HOW := Shh.mk (show OwnS W.heap.size w2 v' (rowK s1 s2 2) by
                    rw [E12.out, er]
                    exact hown')
                  clear hown' hgrow
                  go_wp2
                  go_roundw
                  case rel => exact ⟨2, by omega, by first | rfl | go_num, HOW.out, hB2⟩
                  case measure => simp [intOf]
              · obtain ⟨b2, o2, rfl, hb2, hk2'⟩ := HK2.out hz
                have HK2' := Shh.mk hk2'
                clear hk2' HK2
                go_wp2_with (at_builtin; refine wpList_append_own _ rfl _ _ 51 rfl W.heap.size 9 i0 (.string ByteArray.empty) 1 16 Try.underlying51 hi hz0 hz1 hz2 rfl (by decide) _ _ _ rfl HO.out ⟨b2, o2, none⟩ s2.length c2 (s2.map Value.string) rfl ?d0 ?d1 (strs_one s2) ?d3 ?d4 ?d5 ?_)
                case d0 => simp
                case d1 => exact strs_news fun j hj => (hb.cell (p := ⟨b2, o2 + j, none⟩) hb2).trans (HK2'.out j hj)
                case d3 => rw [er]; unfold maxLen; omega
                case d4 => rw [er]; omega
                case d5 => exact hsz
                intro v' w2 hown' hgrow _
                have hB2 : Below W.heap.size W w2 := hb.grown hgrow hsz (own_blockL HO.out)
                have HOW := Shh.mk (show OwnS W.heap.size w2 v' (rowK s1 s2 2) by
                  rw [← List.map_append] at hown'
                  rw [er2]
                  unfold OwnS
                  rw [List.length_append]
                  exact hown')
                clear hown' hgrow
                go_wp2
                go_roundw
                case rel => exact ⟨2, by omega, by first | rfl | go_num, HOW.out, hB2⟩
                case measure => simp [intOf]
            · obtain rfl : k = 2 := by omega
              go_wp2
              go_ret
              exact ⟨_, rfl, HO.out, hb⟩
end Go.Proofs.Ytpdphimlpeiifaa
