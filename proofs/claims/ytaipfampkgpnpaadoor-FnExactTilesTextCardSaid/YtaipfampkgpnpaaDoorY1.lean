/-
  The text of a tile set: what it is, and the model's.
-/
import Derived.Test.YtaipfampkgpnpaaDoorT3
import Derived.Test.YtaipfampkgpnpaaDoorD1
import Derived.Deep.RegionHeld3
import Derived.WalkSpells
import Derived.Lib.Join
namespace Go.Proofs.YtaipfampkgpnpaaDoor
open Go.RowKit

/-- A thing that the walk shall not look into. -/
structure ShY (p : Prop) : Prop where out : p

/-- A number's text. -/
def txtY (y : Int) : ByteArray := ⟨(Lib.itoa y).toArray⟩
/-- The part of the letter at k. -/
def partT (L : ByteArray) (zv zc : List Int) (k : Nat) : List UInt8 := L.data.toList.getD k 0 :: (Lib.itoa (zv.getD k 0) ++ 120 :: Lib.itoa (zc.getD k 0))
/-- The text of the first k letters. -/
def textTo (L : ByteArray) (zv zc : List Int) : Nat → List UInt8
  | 0 => []
  | k + 1 => (if 0 < k then textTo L zv zc k ++ [32] else textTo L zv zc k) ++ partT L zv zc k
def textAll (L : ByteArray) (zv zc : List Int) (b : Int) : List UInt8 :=
  if 0 < b then textTo L zv zc L.size ++ ([32, 63, 120] ++ Lib.itoa b) else textTo L zv zc L.size
def textOut (L : ByteArray) (zv zc : List Int) (b : Int) : List UInt8 := if okT L.data.toList zv zc b = true then textAll L zv zc b else []

theorem itoa_two {y : Int} (h : 0 ≤ y ∧ y ≤ 20) : (Lib.itoa y).length ≤ 2 := by
  obtain ⟨N, rfl⟩ := Int.eq_ofNat_of_zero_le h.1
  by_cases h0 : N = 0
  · subst h0
    rw [show Lib.itoa ((0 : Nat) : Int) = [48] from itoa_zeroD]
    simp
  · have e : Lib.itoa (N : Int) = ddp N := by
      unfold Lib.itoa ddp
      rw [if_neg (by omega), if_neg h0]
      simp
    rw [e]
    exact ddp_len 2 N (by omega)
theorem txtY_two {y : Int} (h : 0 ≤ y ∧ y ≤ 20) : (txtY y).size ≤ 2 := by
  have := itoa_two h
  unfold txtY
  show (Lib.itoa y).toArray.size ≤ 2
  simpa using this
theorem nums_atY {zv zc : List Int} {n k : Nat} (hn : numsTo zv zc n = true) (hk : k < n) : numB zv zc k = true := by
  cases h : numB zv zc k
  · rw [numsTo_not hk h] at hn; cases hn
  · rfl
theorem part_len {L : ByteArray} {zv zc : List Int} {k : Nat} (h : numB zv zc k = true) : (partT L zv zc k).length ≤ 6 := by
  have h2 := numB_parts.1 h
  have a := itoa_two h2.1
  have b := itoa_two (y := zc.getD k 0) (by omega)
  unfold partT
  simp only [List.length_cons, List.length_append]
  omega
theorem text_len {L : ByteArray} {zv zc : List Int} {n : Nat} (hn : numsTo zv zc n = true) : ∀ k, k ≤ n → (textTo L zv zc k).length ≤ 7 * k
  | 0, _ => by simp [textTo]
  | k + 1, hk => by
    have ih := text_len hn k (by omega) (L := L)
    have h6 := part_len (L := L) (nums_atY hn (by omega : k < n))
    unfold textTo
    split
    · simp only [List.length_append, List.length_singleton]; omega
    · simp only [List.length_append]; omega
theorem letter_of (L : ByteArray) (k : Nat) (h : k < L.size) : L.data.toList.getD k 0 = L[k]'h := by
  rw [List.getD_eq_getElem?_getD, List.getElem?_eq_getElem (by simpa using h)]
  rfl
theorem ext_Y (s : ByteArray) (k : Nat) (h : k < s.size) : s.extract k (k + 1) = ⟨[s[k]'h].toArray⟩ := by
  apply Go.WideShapes.bytes_inj
  have e1 : (s.extract k (k + 1)).data.toList = (s.data.toList.drop k).take 1 := by simp [ByteArray.data_extract]
  rw [e1, List.drop_eq_getElem_cons (by simpa using h)]
  rfl
theorem cat_Y (a b : List UInt8) : (⟨a.toArray⟩ ++ ⟨b.toArray⟩ : ByteArray) = ⟨(a ++ b).toArray⟩ := by
  apply Go.WideShapes.bytes_inj
  simp
/-- The part as the program puts it together. -/
theorem part_bytes (L : ByteArray) {zv zc : List Int} (k : Nat) (h : k < L.size) {E X Z : ByteArray} (hE : L.extract k (k + 1) = E) (hX : txtY (zv.getD k 0) = X) (hZ : txtY (zc.getD k 0) = Z) :
    (((E ++ X) ++ ⟨#[120]⟩) ++ Z : ByteArray) = ⟨(partT L zv zc k).toArray⟩ := by
  subst hE hX hZ
  unfold txtY
  rw [ext_Y L k h, cat_Y, show (⟨#[120]⟩ : ByteArray) = ⟨[120].toArray⟩ from rfl, cat_Y, cat_Y]
  unfold partT
  rw [letter_of L k h]
  simp

theorem sl_Y (L : ByteArray) (k : Nat) (h : k < L.size) {E : ByteArray} (hE : L.extract k (k + 1) = E) (W : World) : (Instr.slice 9 (.string L) (some (.int .i64 (k : Int))) (some (.int .i64 ((k : Int) + 1))) none).run Tryd.prog W = .ok (.string E) W := by
  have e := run_slice_string (P := Tryd.prog) W 9 L .i64 .i64 (k : Int) ((k : Int) + 1) Tryd.underlying9 (by omega) (by omega) (by omega)
  rw [show ((k : Int) + 1).toNat = k + 1 by omega, Int.toNat_natCast, hE] at e
  exact e
theorem dec_on (w0 : World) (y : Int) (X : ByteArray) (hX : txtY y = X) (h : 0 ≤ y ∧ y ≤ 20) (w : World) (hb : Below w0.heap.size w0 w) :
    Calls Tryd.prog 34 #[.int .i64 y] w fun e w' => e = .returned (.string X) ∧ Below w0.heap.size w0 w' := by
  subst hX
  refine (l01Dec_any y (by omega) (by omega) w).mono ?_
  rintro e w' ⟨he, hb'⟩
  exact ⟨he, hb.trans (hb'.mono hb.size)⟩

set_option maxRecDepth 100000 in
set_option maxHeartbeats 4000000 in
theorem l02Text_any (B : Nat) (L : ByteArray) {vv vc : Value} {zv zc : List Int} (b : Int) (w : World) (_hL : L.size ≤ maxLen) (hp : Blk w B 24 #[.string L, vv, vc, .int .i64 b]) (hv : Ints .i64 w vv zv) (hc : Ints .i64 w vc zc)
    (hok : okT L.data.toList zv zc b = true) :
    Calls Tryd.prog 24 #[.pointer (some ⟨B, 0, none⟩)] w fun e w' => e = .returned (.string ⟨(textAll L zv zc b).toArray⟩) ∧ Below w.heap.size w w' := by
  obtain ⟨h1, h26, hvn, hcn, hb04, hlet, hnum, -⟩ := okT_facts hok
  have hlt := hp.lt
  have HP := ShY.mk hp
  have HN := ShY.mk hnum
  have nv1 : zv.length ≤ L.size := by omega
  have nv2 : L.size ≤ zv.length := by omega
  have nc1 : zc.length ≤ L.size := by omega
  have nc2 : L.size ≤ zc.length := by omega
  obtain ⟨av, cv, rfl, hvl, hvm, hvi, -⟩ := hv
  obtain ⟨ac, cc, rfl, hcl, hcm, hci, -⟩ := hc
  obtain ⟨bv, ov, rfl, hbv, hcv⟩ := hvi (by omega)
  obtain ⟨bc, oc, rfl, hbc, hcc⟩ := hci (by omega)
  have HCV := ShY.mk hcv
  have HCC := ShY.mk hcc
  have HALL := ShY.mk (show textAll L zv zc b = if 0 < b then textTo L zv zc L.size ++ ([32, 63, 120] ++ Lib.itoa b) else textTo L zv zc L.size from rfl)
  unfold maxLen at hvm hcm
  clear hp hnum hlet hok hcv hcc hvi hci hvn hcn
  go_enter Tryd.func24, Tryd.ntmps24
  go_wp2
  go_loopw [3, 4] (fun x i wr => ∃ k : Nat, k ≤ L.size ∧ i = .int .i64 k ∧ x = .string ⟨(textTo L zv zc k).toArray⟩ ∧ Below w.heap.size w wr) (fun _ i _ => L.size - (intOf i).toNat)
  case atStart => exact ⟨0, Nat.zero_le _, rfl, rfl, Below.refl _ _⟩
  case round =>
    obtain ⟨k, hk, rfl, rfl, hb⟩ := hrel
    have p := ShY.mk (HP.out.kept hb hlt)
    have cp := p.out.cells
    have k0 : wr.cell? ⟨B, 0, none⟩ = some (.string L) := cp 0
    have k3 : wr.cell? ⟨B, 3, none⟩ = some (.int .i64 b) := cp 3
    have hal := text_len (L := L) HN.out k hk
    have hsu : textTo L zv zc (k + 1) = (if 0 < k then textTo L zv zc k ++ [32] else textTo L zv zc k) ++ partT L zv zc k := rfl
    obtain ⟨A, hA⟩ : ∃ A, textTo L zv zc k = A := ⟨_, rfl⟩
    rw [hA] at hal hsu ⊢
    have HA := ShY.mk hA
    clear hA cp
    by_cases hlt2 : k < L.size
    · have HK := ShY.mk (fun w' (hq : Below w.heap.size w w') => show w'.cell? ⟨B, 0, none⟩ = some (.string L) ∧ w'.cell? ⟨B, 1, none⟩ = some (.slice (some ⟨bv, ov, none⟩) zv.length cv) ∧ w'.cell? ⟨B, 2, none⟩ = some (.slice (some ⟨bc, oc, none⟩) zc.length cc) ∧ w'.cell? ⟨bv, ov + k, none⟩ = some (.int .i64 (zv.getD k 0)) ∧ w'.cell? ⟨bc, oc + k, none⟩ = some (.int .i64 (zc.getD k 0)) from by
        have c := (HP.out.kept hq hlt).cells
        exact ⟨c 0, c 1, c 2, (hq.cell (p := ⟨bv, ov + k, none⟩) hbv).trans (HCV.out k (by omega)), (hq.cell (p := ⟨bc, oc + k, none⟩) hbc).trans (HCC.out k (by omega))⟩)
      have hnb := numB_parts.1 (nums_atY HN.out hlt2)
      have hxl := txtY_two hnb.1
      have hzl := txtY_two (y := zc.getD k 0) (by omega)
      have hpb := fun E X Z hE hX hZ => part_bytes L (zv := zv) (zc := zc) k hlt2 (E := E) (X := X) (Z := Z) hE hX hZ
      have hel : (L.extract k (k + 1)).size ≤ 1 := by rw [ByteArray.size_extract]; omega
      have hsl := fun (E : ByteArray) hE => sl_Y L k hlt2 (E := E) hE
      obtain ⟨E, hE⟩ : ∃ E, L.extract k (k + 1) = E := ⟨_, rfl⟩
      replace hsl := hsl E hE
      rw [hE] at hel
      obtain ⟨Pt, hPt⟩ : ∃ P', partT L zv zc k = P' := ⟨_, rfl⟩
      rw [hPt] at hsu hpb
      clear hPt
      obtain ⟨y, hy⟩ : ∃ y, zv.getD k 0 = y := ⟨_, rfl⟩
      obtain ⟨z, hz⟩ : ∃ z, zc.getD k 0 = z := ⟨_, rfl⟩
      rw [hy] at HK hnb hxl hpb
      rw [hz] at HK hnb hzl hpb
      obtain ⟨X, hX⟩ : ∃ X, txtY y = X := ⟨_, rfl⟩
      obtain ⟨Z, hZ⟩ : ∃ Z, txtY z = Z := ⟨_, rfl⟩
      rw [hX] at hxl
      rw [hZ] at hzl
      have HPB := ShY.mk (hpb E X Z hE hX hZ)
      have HX := ShY.mk hX
      have HZ := ShY.mk hZ
      have HY1 := ShY.mk hnb.1
      have HZ1 := ShY.mk (show 0 ≤ z ∧ z ≤ 20 by omega)
      have HSU := ShY.mk hsu
      clear hpb hX hZ hy hz hsu hnb p hE
      have hk0 : (0 : Int) ≤ (k : Int) := Int.natCast_nonneg _
      have hwk : IntKind.i64.wrap ((k : Int) + 1) = (k : Int) + 1 := IntWalk.i64_in _ (by omega)
      have a1 : ¬ 9223372036854775807 < E.size + X.size := by omega
      have a2 : ¬ 9223372036854775807 < E.size + X.size + 1 := by omega
      have a3 : ¬ 9223372036854775807 < E.size + X.size + 1 + Z.size := by omega
      have hkv : (k : Int) < (zv.length : Int) := by omega
      have hkc : (k : Int) < (zc.length : Int) := by omega
      by_cases hkp : 0 < k
      · have hkd : (0 : Int) < (k : Int) := by omega
        have a4 : ¬ 9223372036854775807 < A.length + 1 := by omega
        have a5 : ¬ 9223372036854775807 < A.length + 1 + (E.size + X.size + 1 + Z.size) := by omega
        go_wp2_with fail
        go_region_held3 (fun w' => w'.cell? ⟨B, 0, none⟩ = some (.string L) ∧ w'.cell? ⟨B, 1, none⟩ = some (.slice (some ⟨bv, ov, none⟩) zv.length cv) ∧ w'.cell? ⟨B, 2, none⟩ = some (.slice (some ⟨bc, oc, none⟩) zc.length cc) ∧ w'.cell? ⟨bv, ov + k, none⟩ = some (.int .i64 y) ∧ w'.cell? ⟨bc, oc + k, none⟩ = some (.int .i64 z))
          (exact HK.out _ (by first | assumption | exact hb.drew))
          (first
            | (go_at_call 34; with_reducible refine (dec_on w y X HX.out HY1.out _ (by first | assumption | exact hb.drew)).mono ?_; rintro e w1 ⟨rfl, hb1⟩)
            | (go_at_call 34; with_reducible refine (dec_on w z Z HZ.out HZ1.out _ (by first | assumption | exact hb.drew)).mono ?_; rintro e w2 ⟨rfl, hb2⟩))
        all_goals
          go_wp2
          go_roundw
          case rel => exact ⟨k + 1, by omega, by go_num, congrArg Value.string ((by rw [HPB.out, HSU.out, if_pos hkp, show (⟨#[32]⟩ : ByteArray) = ⟨[32].toArray⟩ from rfl, cat_Y, cat_Y])), by assumption⟩
          case measure => simp [intOf]; omega
      · have hkd : ¬ (0 : Int) < (k : Int) := by omega
        have a5 : ¬ 9223372036854775807 < A.length + (E.size + X.size + 1 + Z.size) := by omega
        go_wp2_with fail
        go_region_held3 (fun w' => w'.cell? ⟨B, 0, none⟩ = some (.string L) ∧ w'.cell? ⟨B, 1, none⟩ = some (.slice (some ⟨bv, ov, none⟩) zv.length cv) ∧ w'.cell? ⟨B, 2, none⟩ = some (.slice (some ⟨bc, oc, none⟩) zc.length cc) ∧ w'.cell? ⟨bv, ov + k, none⟩ = some (.int .i64 y) ∧ w'.cell? ⟨bc, oc + k, none⟩ = some (.int .i64 z))
          (exact HK.out _ (by first | assumption | exact hb.drew))
          (first
            | (go_at_call 34; with_reducible refine (dec_on w y X HX.out HY1.out _ (by first | assumption | exact hb.drew)).mono ?_; rintro e w1 ⟨rfl, hb1⟩)
            | (go_at_call 34; with_reducible refine (dec_on w z Z HZ.out HZ1.out _ (by first | assumption | exact hb.drew)).mono ?_; rintro e w2 ⟨rfl, hb2⟩))
        all_goals
          go_wp2
          go_roundw
          case rel => exact ⟨k + 1, by omega, by go_num, congrArg Value.string ((by rw [HPB.out, HSU.out, if_neg hkp, cat_Y])), by assumption⟩
          case measure => simp [intOf]; omega
    · have hk' : k = L.size := by omega
      have HL := ShY.mk (show textTo L zv zc L.size = A by rw [← hk', HA.out])
      clear hk' hsu
      by_cases hb0 : 0 < b
      · have HR := ShY.mk (HALL.out.trans (if_pos hb0))
        have hxl := txtY_two (y := b) (by omega)
        obtain ⟨X, hX⟩ : ∃ X, txtY b = X := ⟨_, rfl⟩
        rw [hX] at hxl
        have HX := ShY.mk hX
        clear hX
        have EQ : ShY ((⟨A.toArray⟩ ++ (⟨#[32, 63, 120]⟩ ++ X) : ByteArray) = ⟨(textAll L zv zc b).toArray⟩) := by
          constructor
          rw [HR.out, HL.out, ← HX.out]
          unfold txtY
          rw [show (⟨#[32, 63, 120]⟩ : ByteArray) = ⟨[32, 63, 120].toArray⟩ from rfl, cat_Y, cat_Y]
        have a1 : ¬ 9223372036854775807 < 3 + X.size := by omega
        have a2 : ¬ 9223372036854775807 < A.length + (3 + X.size) := by omega
        go_wp2_with (go_at_call 34; refine (dec_on w b X HX.out (by omega) _ (by assumption)).mono ?_; rintro e w1 ⟨rfl, hb1⟩)
        go_ret
        exact ⟨congrArg (fun x => Ending.returned (.string x)) EQ.out, hb1⟩
      · have HR := ShY.mk (HALL.out.trans (if_neg hb0))
        go_wp2
        go_ret
        exact ⟨congrArg (fun x : List UInt8 => Ending.returned (.string ⟨x.toArray⟩)) (HR.out.trans HL.out).symm, hb⟩

end Go.Proofs.YtaipfampkgpnpaaDoor
