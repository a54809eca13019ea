/-
  The model's repetition of a byte, and all tiles of a tile set as a text.
-/
import Derived.Test.YtaipfampkgpnpaaT3
import Derived.Test.YtaipfampkgpnpaaS1
import Derived.Maps.AppendAt
import Derived.Deep.RegionHeld3
import Derived.WalkSpells
import Derived.Deep.RegionWith
namespace Go.Proofs.Ytaipfampkgpnpaa
open Go.RowKit

theorem fold_push : ∀ (ns : List Int) (s : ByteArray), ns.foldl (fun r n => r.push (UInt8.ofNat n.toNat)) s = ⟨(s.data.toList ++ ns.map fun n => UInt8.ofNat n.toNat).toArray⟩
  | [], s => by simp
  | n :: ns, s => by
    rw [List.foldl_cons, fold_push ns]
    apply Go.WideShapes.bytes_inj
    simp
theorem info8 : (Try.prog.info? 5).map (fun i => (i.zero, i.size, i.bytes)) = some (some (.int .u8 0), 1, 1) := by kernel_rfl
/-- A text out of a row of bytes of the call's own. -/
theorem conv_row {B g cap : Nat} {ns : List Int} {W : World} (h : W.ownsRow B 5 1 (.slice (some ⟨g, 0, none⟩) ns.length cap) ns.length (ns.map (Value.int .u8))) :
    (convert 45 9 (.slice (some ⟨g, 0, none⟩) ns.length cap)).run Try.prog W = .ok (.string ⟨(ns.map fun n => UInt8.ofNat n.toNat).toArray⟩) W := by
  rw [run_convert_bytes_string _ 45 9 5 _ _ _ Try.underlying45 Try.underlying5 Try.underlying9]
  have hl := run_loadCells_list (P := Try.prog) (w := W) ⟨g, 0, none⟩ (ns.map (Value.int .u8)) (by
    intro j v hj
    have hjl : j < ns.length := by
      rcases Nat.lt_or_ge j ns.length with h | h
      · exact h
      · rw [List.getElem?_eq_none (by simpa using h)] at hj; cases hj
    rw [show (⟨g, 0, none⟩ : Addr).add j = ⟨g, j, none⟩ by unfold Addr.add; split <;> simp_all]
    rw [h.cellAt j (by omega)]
    exact hj)
  have e := run_bytesToString (P := Try.prog) W ⟨g, 0, none⟩ ns.length cap ns (by simpa using hl)
  rw [e, fold_push]
  rfl

/-- The same of a byte several times. -/
theorem conv_same {B g cap k : Nat} {c : Int} {x : UInt8} {W : World} (hx : c = (x.toNat : Int)) (h : W.ownsRow B 5 1 (.slice (some ⟨g, 0, none⟩) k cap) k (List.replicate k (.int .u8 c))) :
    (convert 45 9 (.slice (some ⟨g, 0, none⟩) k cap)).run Try.prog W = .ok (.string ⟨(List.replicate k x).toArray⟩) W := by
  have h2 := conv_row (B := B) (g := g) (cap := cap) (ns := List.replicate k c) (W := W) (by simpa using h)
  simp only [List.length_replicate, List.map_replicate] at h2
  rw [h2, hx]
  simp

set_option maxRecDepth 100000 in
set_option maxHeartbeats 2000000 in
theorem l02Repeat_any (c : Int) (x : UInt8) (n : Int) (w : World) (hx : c = (x.toNat : Int)) (h0 : 0 ≤ n) (h1 : n ≤ 200) :
    Calls Try.prog 27 #[.int .u8 c, .int .i64 n] w fun e w' => e = .returned (.string ⟨(List.replicate n.toNat x).toArray⟩) ∧ Below w.heap.size w w' := by
  obtain ⟨N, rfl⟩ := Int.eq_ofNat_of_zero_le h0
  rw [Int.toNat_natCast]
  obtain ⟨i0, hi, hz0, hz1, hz2⟩ := info_parts info8
  have HX := hid hx
  clear hx
  go_enter Try.func27, Try.ntmps27
  go_wp2
  go_loopw [1, 5] (fun m v wr => ∃ (k r cap g : Nat), k + r = N ∧ m = .int .i64 r ∧ v = .slice (some ⟨g, 0, none⟩) k cap ∧ w.heap.size ≤ g ∧ wr.ownsRow w.heap.size 5 1 v k (List.replicate k (.int .u8 c)) ∧ Below w.heap.size w wr) (fun m _ _ => (intOf m).toNat)
  case atStart => exact ⟨0, N, 0, w.heap.size, by omega, rfl, rfl, Nat.le_refl _, World.ownsRow_lit w _ 0 (Nat.le_refl _) (by unfold maxLen; omega) rfl, (Below.refl _ _).alloc (Nat.le_refl _) _⟩
  case round =>
    obtain ⟨k, r, cap, g, hkr, rfl, rfl, hg, ho, hb⟩ := hrel
    by_cases hr : 0 < r
    · have hr1 : 1 ≤ (r : Int) := by omega
      have HKR := hid hkr
      have hk2 : k ≤ 200 := by omega
      have hr2 : r ≤ 200 := by omega
      have HO := hid ho
      clear hkr ho
      go_wp2_with (at_builtin; refine wpList_append_own _ rfl _ _ 45 rfl w.heap.size 5 i0 (.int .u8 0) 1 1 Try.underlying45 hi hz0 hz1 hz2 rfl (by decide) _ _ _ rfl (HO.out.alloc _) ⟨wr.heap.size, 0, none⟩ 1 1 [.int .u8 c] rfl rfl ?c1 ?c2 ?c3 ?c4 ?c5 ?_)
      case c1 => exact cell_one_new _ _ _
      case c2 => intro u hu; simp at hu; subst hu; rfl
      case c3 => simp [maxLen]; omega
      case c4 => simp; omega
      case c5 => have := hb.size; simp; omega
      intro v' w1 hown' hgrow _
      have hsz := hb.size
      have hB1 : Below w.heap.size w w1 := (hb.alloc hb.size _).grown hgrow (by simp; omega) (fun q hq => by simp [Value.ownBlock] at hq; omega)
      obtain ⟨a', cap', hv', _, _, hfo⟩ := own_form hown'
      obtain ⟨g', rfl, hBg, _⟩ := hfo (by omega)
      have HV := hid hv'
      have HOW : Hid (w1.ownsRow w.heap.size 5 1 v' (k + 1) (List.replicate (k + 1) (.int .u8 c))) := by
        rw [Hid, List.replicate_succ']
        exact hown'
      clear hown' hgrow hv' hfo
      go_wp2
      go_roundw
      case rel => exact ⟨k + 1, r - 1, cap', g', by have := HKR.out; omega, congrArg (Value.int .i64) (by omega), HV.out, hBg, HOW.out, hB1⟩
      case measure => simp [intOf]; omega
    · have hr0 : ¬ 0 < (r : Int) := by omega
      have hkN : k = N := by omega
      have hcv := conv_same HX.out ho
      have HK : Hid (Ending.returned (.string ⟨(List.replicate k x).toArray⟩) = .returned (.string ⟨(List.replicate N x).toArray⟩)) := by rw [Hid, hkN]
      clear hkN hkr
      go_wp2
      go_ret
      exact ⟨HK.out, hb⟩

theorem l02Repeat_is (c : Int) (x : UInt8) (n : Int) (l : List UInt8) (w : World) (hl : List.replicate n.toNat x = l) (hx : c = (x.toNat : Int)) (h0 : 0 ≤ n) (h1 : n ≤ 200) :
    Calls Try.prog 27 #[.int .u8 c, .int .i64 n] w fun e w' => e = .returned (.string ⟨l.toArray⟩) ∧ Below w.heap.size w w' := by
  subst hl
  exact l02Repeat_any c x n w hx h0 h1

/-! ### All tiles -/
/-- All tiles of the blanks and of the first k letters. -/
def allTo (L : ByteArray) (zc : List Int) (b : Int) (k : Nat) : List UInt8 := List.replicate b.toNat 63 ++ (List.range k).flatMap fun i => List.replicate (zc.getD i 0).toNat (L.data.toList.getD i 0)
theorem allTo_zero (L : ByteArray) (zc : List Int) (b : Int) : allTo L zc b 0 = List.replicate b.toNat 63 := by simp [allTo]
theorem allTo_succ (L : ByteArray) (zc : List Int) (b : Int) (k : Nat) (h : k < L.size) : allTo L zc b (k + 1) = allTo L zc b k ++ List.replicate (zc.getD k 0).toNat (L[k]'h) := by
  unfold allTo
  have e : L.data.toList.getD k 0 = L[k]'h := by rw [List.getD_eq_getElem?_getD, at_get L k h]; rfl
  rw [List.range_succ, List.flatMap_append, ← List.append_assoc]
  simp only [List.flatMap_cons, List.flatMap_nil, List.append_nil, e]
theorem allTo_len (L : ByteArray) {zv zc : List Int} {b : Int} {n : Nat} (hn : numsTo zv zc n = true) (hb : 0 ≤ b ∧ b ≤ 4) : ∀ k, k ≤ n → (allTo L zc b k).length ≤ 4 + 20 * k
  | 0, _ => by rw [allTo_zero]; simp; omega
  | k + 1, hk => by
    have ih := allTo_len L hn hb k (by omega)
    have h1 : numB zv zc k = true := by
      cases h : numB zv zc k
      · rw [numsTo_not (by omega : k < n) h] at hn; cases hn
      · rfl
    have h2 := (numB_parts.1 h1).2
    unfold allTo at ih ⊢
    rw [List.range_succ, List.flatMap_append, ← List.append_assoc, List.length_append]
    simp only [List.flatMap_cons, List.flatMap_nil, List.append_nil, List.length_replicate]
    omega
theorem cat_arr (a b : List UInt8) : (⟨a.toArray⟩ ++ ⟨b.toArray⟩ : ByteArray) = ⟨(a ++ b).toArray⟩ := by
  apply Go.WideShapes.bytes_inj
  simp
theorem nums_at {zv zc : List Int} {n k : Nat} (hn : numsTo zv zc n = true) (hk : k < n) : numB zv zc k = true := by
  cases h : numB zv zc k
  · rw [numsTo_not hk h] at hn; cases hn
  · rfl

set_option maxRecDepth 100000 in
set_option maxHeartbeats 2000000 in
theorem l02All_any (B : Nat) (L : ByteArray) {vv vc : Value} {zv zc : List Int} (b : Int) (w : World) (_hL : L.size ≤ maxLen) (hp : Blk w B 27 #[.string L, vv, vc, .int .i64 b]) (hc : Ints .i64 w vc zc)
    (h26 : L.size ≤ 26) (hcn : zc.length = L.size) (hb0 : 0 ≤ b ∧ b ≤ 4) (hn : numsTo zv zc L.size = true) :
    Calls Try.prog 19 #[.pointer (some ⟨B, 0, none⟩)] w fun e w' => e = .returned (.string ⟨(allTo L zc b L.size).toArray⟩) ∧ Below w.heap.size w w' := by
  have hlt := hp.lt
  have c0 := hp.cells
  have HP := hid hp
  have HN := hid hn
  have HB := hid hb0
  have nc1 : zc.length ≤ L.size := by omega
  have nc2 : L.size ≤ zc.length := by omega
  obtain ⟨a, cap, rfl, hl, hm, hci, -⟩ := hc
  unfold maxLen at hm
  obtain ⟨A0, hA0⟩ : ∃ A, List.replicate b.toNat (63 : UInt8) = A := ⟨_, rfl⟩
  have HA0 := hid hA0
  clear hp hn hb0 hcn hA0
  go_enter Try.func19, Try.ntmps19
  go_wp2_with fail
  refine (l02Repeat_is 63 63 b A0 w HA0.out rfl HB.out.1 (by have := HB.out.2; omega)).mono ?_
  rintro e w1 ⟨rfl, hb1⟩
  clear c0
  go_wp2
  go_loopw [3, 4] (fun x i wr => ∃ k : Nat, k ≤ L.size ∧ i = .int .i64 k ∧ x = .string ⟨(allTo L zc b k).toArray⟩ ∧ Below w.heap.size w wr) (fun _ i _ => L.size - (intOf i).toNat)
  case atStart => exact ⟨0, Nat.zero_le _, rfl, by rw [allTo_zero, HA0.out], hb1⟩
  case round =>
    obtain ⟨k, hk, rfl, rfl, hb⟩ := hrel
    have p := hid (HP.out.kept hb hlt)
    have cp := p.out.cells
    have hal := allTo_len L HN.out HB.out k hk
    have hsu := allTo_succ L zc b k
    obtain ⟨A, hA⟩ : ∃ A, allTo L zc b k = A := ⟨_, rfl⟩
    rw [hA] at hal hsu ⊢
    have HA := hid hA
    clear hA
    by_cases hlt2 : k < L.size
    · obtain ⟨bc, oc, rfl, hbc, hcc⟩ := hci (by omega)
      have ec := (hb.cell (p := ⟨bc, oc + k, none⟩) hbc).trans (hcc k (by omega))
      have hnb := (numB_parts.1 (nums_at HN.out hlt2)).2
      have hsu' := hsu hlt2
      obtain ⟨y, hy⟩ : ∃ y, zc.getD k 0 = y := ⟨_, rfl⟩
      rw [hy] at ec hnb hsu'
      have HSU := hid hsu'
      obtain ⟨hn1, hn2⟩ := hnb
      obtain ⟨X, hX⟩ : ∃ X, List.replicate y.toNat (L[k]'hlt2) = X := ⟨_, rfl⟩
      have HX := hid hX
      have hxl : X.length ≤ 20 := by rw [← hX]; simp; omega
      clear hcc hci hy hsu hsu' hX
      have hBw : B < wr.heap.size := p.out.lt
      have hbcw : bc < wr.heap.size := Nat.lt_of_lt_of_le hbc hb.size
      have k0 : wr.cell? ⟨B, 0, none⟩ = some (.string L) := cp 0
      have k2 : wr.cell? ⟨B, 2, none⟩ = some (.slice (some ⟨bc, oc, none⟩) zc.length cap) := cp 2
      have hk0 : (0 : Int) ≤ (k : Int) := Int.natCast_nonneg _
      have hk1 : (k : Int) < (zc.length : Int) := by omega
      have hax : ¬ 9223372036854775807 < A.length + X.length := by omega
      clear cp
      go_wp2_with fail
      go_region_held3 (fun w' => w'.cell? ⟨B, 0, none⟩ = some (.string L) ∧ w'.cell? ⟨B, 2, none⟩ = some (.slice (some ⟨bc, oc, none⟩) zc.length cap) ∧ w'.cell? ⟨bc, oc + k, none⟩ = some (.int .i64 y))
        (first
          | go_keep
          | exact ⟨(hb2.cell (p := ⟨B, 0, none⟩) hBw).trans k0, (hb2.cell (p := ⟨B, 2, none⟩) hBw).trans k2, (hb2.cell (p := ⟨bc, oc + k, none⟩) hbcw).trans ec⟩)
        ((go_at_call 27; refine (l02Repeat_is _ (L[k]'hlt2) y X _ HX.out rfl (by omega) (by omega)).mono ?_; rintro e w2 ⟨rfl, hb2⟩))
      all_goals
        go_wp2
        go_roundw
        case rel => exact ⟨k + 1, by omega, by go_num, congrArg Value.string ((cat_arr A X).trans (by rw [← HX.out, HSU.out])), hb.drew.trans (hb2.mono hb.size)⟩
        case measure => simp [intOf]; omega
    · have hk' : k = L.size := by omega
      have HF : Hid (Ending.returned (.string ⟨A.toArray⟩) = .returned (.string ⟨(allTo L zc b L.size).toArray⟩)) := by rw [Hid, ← HA.out, hk']
      clear hk' hsu hci
      go_wp2
      go_ret
      exact ⟨HF.out, hb⟩

end Go.Proofs.Ytaipfampkgpnpaa
