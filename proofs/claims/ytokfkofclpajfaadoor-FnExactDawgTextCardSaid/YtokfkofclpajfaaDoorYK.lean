/-
  DawgText: the model's and the program's answers.
-/
import Derived.Test.YtokfkofclpajfaaDoorYC
import Derived.Test.YtokfkofclpajfaaDoorWM
import Derived.Test.YtokfkofclpajfaaDoorQ3
import Derived.Deep.RegionHeld3
namespace Go.Proofs.YtokfkofclpajfaaDoor
open Go.RowKit

def lineTo (x : Nod) (k : Nat) : List UInt8 := Lib.join (wordsW x k) [32]
theorem lineTo_zero (x : Nod) : lineTo x 0 = [if x.f = true then 43 else 45] := by unfold lineTo wordsW; simp [Lib.join_one]
theorem lineTo_succ (x : Nod) (k : Nat) : lineTo x (k + 1) = lineTo x k ++ 32 :: wordW x k := by
  unfold lineTo wordsW
  rw [Lib.join_cons, Lib.join_cons, List.range_succ]
  unfold Lib.joinTail
  simp
theorem lineTo_all (x : Nod) : lineTo x x.ns.length ++ [10] = lineW x := rfl
theorem lineTo_mono (x : Nod) {j k : Nat} (h : j ≤ k) : (lineTo x j).length ≤ (lineTo x k).length := by
  induction k with
  | zero => obtain rfl : j = 0 := by omega
            exact Nat.le_refl _
  | succ k ih =>
    rcases Nat.lt_or_ge j (k + 1) with h1 | h1
    · rw [lineTo_succ, List.length_append]
      have := ih (by omega)
      omega
    · obtain rfl : j = k + 1 := by omega
      exact Nat.le_refl _
def textTo (xs : List Nod) : Nat → List UInt8
  | 0 => []
  | k + 1 => textTo xs k ++ lineW (nodG xs k)
theorem ShpN.small {xs : List Nod} (hs : Shp xs) {i : Nat} (hi : i < xs.length) : (lineW (nodG xs i)).length ≤ 100000 := by
  have h1 := hs.len
  have h2 := hs.few hi
  rw [hs.E_len hi] at h2
  have := lineW_small (x := nodG xs i) (by omega) (fun z hz => by have := (hs.node i hi).next z hz; omega)
  rw [txt_size] at this
  exact this
theorem textTo_len {xs : List Nod} (hs : Shp xs) : ∀ {k : Nat}, k ≤ xs.length → (textTo xs k).length ≤ k * 100000
  | 0, _ => Nat.le_refl _
  | k + 1, h => by
    have h1 := textTo_len hs (k := k) (by omega)
    have h2 := ShpN.small hs (i := k) (by omega)
    show (textTo xs k ++ lineW (nodG xs k)).length ≤ _
    rw [List.length_append]
    omega
noncomputable def textOut (xs : List Nod) : ByteArray := if okDw xs = true then txt (textTo xs xs.length) else ByteArray.empty
theorem cat_txt (a b : List UInt8) : txt a ++ txt b = txt (a ++ b) := by
  apply Go.WideShapes.bytes_inj
  rw [ByteArray.data_append, Array.toList_append]
  simp [txt]

set_option maxRecDepth 100000 in
set_option maxHeartbeats 8000000 in
theorem l06Text_any {gd : Nat} {v : Value} {xs : List Nod} (W : World) (hd : Blk W gd 29 #[v]) (hx : Nds W v xs) (hs : Shp xs) :
    Calls Tryd.prog 86 #[.pointer (some ⟨gd, 0, none⟩)] W fun e w' => e = .returned (.string (txt (textTo xs xs.length))) ∧ Below W.heap.size W w' := by
  have HGW := Shh.mk (fun (w' : World) (hb : Below W.heap.size W w') => (hd.kept hb hd.lt).cells 0)
  have c0 := hd.cells 0
  have hpos := hs.pos
  have hlen := hs.len
  have HS := Shh.mk hs
  have HTL := Shh.mk (fun {k : Nat} (hk : k ≤ xs.length) => textTo_len hs hk)
  have HLS := Shh.mk (fun {k : Nat} (hk : k < xs.length) => ShpN.small hs hk)
  obtain ⟨a, cap, rfl, hl1, hmm, hcn⟩ := hx
  obtain ⟨bn, on, rfl, hbn, hcc⟩ := hcn hpos
  have HN := Shh.mk hcc
  have he0 : (⟨#[]⟩ : ByteArray) = txt (textTo xs 0) := rfl
  clear hd hs hcc hcn
  go_enter Tryd.func86, Tryd.ntmps86
  go_wp2
  go_loopw [3, 4, 5, 6] (fun t z _ _ wr => ∃ (k : Nat) (O : ByteArray), k ≤ xs.length ∧ z = .int .i64 k ∧ t = .string O ∧ Below W.heap.size W wr ∧ Shh (O = txt (textTo xs k))) (fun _ z _ _ _ => xs.length - (intOf z).toNat)
  case atStart => exact ⟨0, _, Nat.zero_le _, rfl, rfl, Below.refl _ _, ⟨he0⟩⟩
  case round =>
    obtain ⟨w3, hw3⟩ : ∃ w3 : World, w3 = wr := ⟨_, rfl⟩
    subst hw3
    obtain ⟨k, O, hkl, rfl, rfl, hb, hO⟩ := hrel
    have HB := Shh.mk hb
    have d0 := HGW.out w3 hb
    clear c0 he0
    by_cases hk : k < xs.length
    · obtain ⟨m0, m1, u, m2, hu⟩ := HN.out k hk
      have HLEN := Shh.mk ((HS.out.node k hk).len)
      have HNX := Shh.mk (fun z (hz : z ∈ (nodG xs k).ns) => (HS.out.node k hk).next z hz)
      have HT1 := Shh.mk (show textTo xs (k + 1) = textTo xs k ++ lineW (nodG xs k) from rfl)
      have hls := HLS.out hk
      have htl := HTL.out (k := k) (by omega)
      have HOZ := Shh.mk (show O.size ≤ 300000000 from by rw [hO.out, txt_size]; have : k * 100000 ≤ 3000 * 100000 := Nat.mul_le_mul_right _ (by omega); omega)
      obtain ⟨x, hxx⟩ : ∃ x, nodG xs k = x := ⟨_, rfl⟩
      rw [hxx] at m0 m1 hu HLEN HNX HT1 hls
      have HLL := Shh.mk (fun {j : Nat} (hj : j ≤ x.ns.length) => Nat.le_trans (lineTo_mono x hj) (by rw [← lineTo_all, List.length_append] at hls; omega : (lineTo x x.ns.length).length ≤ 100000))
      have HL0 := Shh.mk (lineTo_zero x)
      have HLN := Shh.mk (fun j => lineTo_succ x j)
      have HLA := Shh.mk (lineTo_all x)
      obtain ⟨L, hL⟩ : ∃ L : Nat → List UInt8, lineTo x = L := ⟨_, rfl⟩
      rw [hL] at HLL HL0 HLN HLA
      obtain ⟨WD, hWD⟩ : ∃ WD : Nat → List UInt8, wordW x = WD := ⟨_, rfl⟩
      have HWD := Shh.mk (fun j => show WD j = x.ls.data.toList.getD j 0 :: Lib.itoa (x.ns.getD j 0) from by rw [← hWD]; rfl)
      rw [hWD] at HLN
      obtain ⟨LX, hLX⟩ : ∃ LX, lineW x = LX := ⟨_, rfl⟩
      rw [hLX] at HLA HT1
      obtain ⟨f, ls, ns⟩ := x
      simp only at m0 m1 m2 hu HLEN HNX HLL HL0 HLA HWD
      have hul := hu.len
      obtain ⟨ua, uc, rfl, hu1, hu2, hu3, -⟩ := hu
      have HU := Shh.mk hu3
      have HND := Shh.mk (fun (w' : World) (h' : Below W.heap.size W w') => show w'.cell? ⟨bn, on + k * 3 + 1, none⟩ = some (.string ls) ∧ w'.cell? ⟨bn, on + k * 3 + 2, none⟩ = some (.slice ua ns.length uc) from ⟨(h'.cell (p := ⟨bn, on + k * 3 + 1, none⟩) hbn).trans m1, (h'.cell (p := ⟨bn, on + k * 3 + 2, none⟩) hbn).trans m2⟩)
      have e0 := (hb.cell (p := ⟨bn, on + k * 3, none⟩) hbn).trans m0
      have hoz := HOZ.out
      have hsum : ¬ 9223372036854775807 < O.size + 1 := by omega
      clear hu3 hxx hls htl hL hWD hLX m0 m1 m2 hb
      cases f
      case' false => obtain ⟨O1, hO1⟩ : ∃ O1, O ++ (⟨#[45]⟩ : ByteArray) = O1 := ⟨_, rfl⟩; have HO1 := Shh.mk (show O1 = O ++ txt (L 0) from by rw [← hO1, HL0.out]; rfl)
      case' true => obtain ⟨O1, hO1⟩ : ∃ O1, O ++ (⟨#[43]⟩ : ByteArray) = O1 := ⟨_, rfl⟩; have HO1 := Shh.mk (show O1 = O ++ txt (L 0) from by rw [← hO1, HL0.out]; rfl)
      all_goals
        go_wp2
        go_loopw [3, 6] (fun t z wr => ∃ (j : Nat) (P : ByteArray), j ≤ ns.length ∧ z = .int .i64 j ∧ t = .string P ∧ Below W.heap.size W wr ∧ Shh (P = O ++ txt (L j))) (fun _ z _ => ns.length - (intOf z).toNat)
        case atStart => exact ⟨0, O1, Nat.zero_le _, rfl, by first | rfl | (rw [← hO1]; rfl) | (rw [← hO1]), HB.out, HO1⟩
        case round =>
          obtain ⟨j, P, hjl, rfl, rfl, hb, hP⟩ := hrel
          have HB2 := Shh.mk hb
          clear d0 e0
          obtain ⟨n1, n2⟩ := HND.out wr hb
          have HPZ := Shh.mk (show P.size ≤ 300100000 from by have h1 := HLL.out hjl; have h2 := HOZ.out; rw [hP.out, ByteArray.size_append, txt_size]; omega)
          have hpz := HPZ.out
          by_cases hj : j < ns.length
          · obtain ⟨bu, ou, rfl, hbu, hcu⟩ := HU.out (by omega)
            have cu := (hb.cell (p := ⟨bu, ou + j, none⟩) hbu).trans (hcu j hj)
            have hjl2 : j < ls.size := by have := HLEN.out; omega
            have hzz := HNX.out (ns.getD j 0) (by rw [List.getD_eq_getElem?_getD, List.getElem?_eq_getElem hj]; exact List.getElem_mem hj)
            have hwd := HWD.out j
            obtain ⟨z, hz⟩ : ∃ z, ns.getD j 0 = z := ⟨_, rfl⟩
            rw [hz] at cu hzz hwd
            obtain ⟨E, hE⟩ : ∃ E, ls.extract j (j + 1) = E := ⟨_, rfl⟩
            obtain ⟨X, hX⟩ : ∃ X, (⟨(Lib.itoa z).toArray⟩ : ByteArray) = X := ⟨_, rfl⟩
            have hEl : E.data.toList = [ls.data.toList.getD j 0] := by rw [← hE]; exact one_letter hjl2
            have hEs : E.size = 1 := by rw [← list_size, hEl]; rfl
            have hXs : X.size ≤ 21 := by rw [← hX]; show (txt (Lib.itoa z)).size ≤ 21; rw [txt_size]; exact Lib.itoa_length_le z (by omega) (by omega)
            obtain ⟨E2, hE2⟩ : ∃ E2, (⟨#[32]⟩ : ByteArray) ++ E = E2 := ⟨_, rfl⟩
            obtain ⟨E3, hE3⟩ : ∃ E3, E2 ++ X = E3 := ⟨_, rfl⟩
            obtain ⟨E4, hE4⟩ : ∃ E4, P ++ E3 = E4 := ⟨_, rfl⟩
            have hE2s : E2.size = 2 := by rw [← hE2, ByteArray.size_append, hEs]; rfl
            have hE3s : E3.size = E2.size + X.size := by rw [← hE3, ByteArray.size_append]
            have HNEW := Shh.mk (show E4 = O ++ txt (L (j + 1)) from by
              apply Go.WideShapes.bytes_inj
              rw [← hE4, ← hE3, ← hE2, hP.out, HLN.out j, hwd]
              simp only [ByteArray.data_append, Array.toList_append, hEl, ← hX]
              simp [txt])
            have HDEC := Shh.mk (fun (w1 : World) (h1 : Below W.heap.size W w1) => show Calls Tryd.prog 116 #[.int .i64 z] w1 (fun e w' => e = .returned (.string X) ∧ Below W.heap.size W w') from by
              refine (l01Dec_any z (by omega) (by omega) w1).mono ?_
              rintro e w' ⟨rfl, hb2⟩
              exact ⟨by rw [← hX], h1.trans (hb2.mono h1.size)⟩)
            have HK := Shh.mk (fun (w' : World) (h' : Below W.heap.size W w') => show w'.cell? ⟨bn, on + k * 3 + 1, none⟩ = some (.string ls) ∧ w'.cell? ⟨bn, on + k * 3 + 2, none⟩ = some (.slice (some ⟨bu, ou, none⟩) ns.length uc) ∧ w'.cell? ⟨bu, ou + j, none⟩ = some (.int .i64 z) from ⟨(HND.out w' h').1, (HND.out w' h').2, (h'.cell (p := ⟨bu, ou + j, none⟩) hbu).trans (by rw [← hz]; exact hcu j hj)⟩)
            have hji : (j : Int) < (ns.length : Int) := by omega
            have hlk : (j : Int) + 1 ≤ (ls.size : Int) := by omega
            have hwr : IntKind.i64.wrap ((j : Int) + 1) = (j : Int) + 1 := IntWalk.i64_in _ (by omega)
            have hlo : (0 : Int) ≤ (j : Int) + 1 := by omega
            have hup : (j : Int) ≤ (j : Int) + 1 := by omega
            have hnn : ((j : Int) + 1).toNat = j + 1 := by omega
            have hm1 : ¬ 9223372036854775807 < 1 + E.size := by omega
            have hm2 : ¬ 9223372036854775807 < E2.size + X.size := by omega
            have hm3 : ¬ 9223372036854775807 < P.size + E3.size := by omega
            have HE1 := Shh.mk hEs
            clear hcu hz hEl hwd hX hE2s hE3s hEs hXs hzz
            go_wp2
            go_region_held3 (fun w' => w'.cell? ⟨bn, on + k * 3 + 1, none⟩ = some (.string ls) ∧ w'.cell? ⟨bn, on + k * 3 + 2, none⟩ = some (.slice (some ⟨bu, ou, none⟩) ns.length uc) ∧ w'.cell? ⟨bu, ou + j, none⟩ = some (.int .i64 z))
              (first | exact HK.out _ HB2.out.drew | exact HK.out _ HB2.out | exact HK.out _ hb2)
              (first | (go_at_call 116; with_reducible refine (HDEC.out _ (by first | exact HB2.out.drew | exact HB2.out)).mono ?_; rintro e w2 ⟨rfl, hb2⟩))
            all_goals
              go_wp2
              go_roundw
              case rel => exact ⟨j + 1, E4, by omega, by go_num, rfl, hb2, HNEW⟩
              case measure => simp [intOf]; omega
          · obtain rfl : j = ns.length := by omega
            obtain ⟨E4, hE4⟩ : ∃ E4, P ++ (⟨#[10]⟩ : ByteArray) = E4 := ⟨_, rfl⟩
            have HNEW := Shh.mk (show E4 = txt (textTo xs (k + 1)) from by
              apply Go.WideShapes.bytes_inj
              rw [← hE4, HT1.out, ← HLA.out, hP.out, hO.out]
              simp only [ByteArray.data_append, Array.toList_append]
              simp [txt])
            have hm3 : ¬ 9223372036854775807 < P.size + 1 := by omega
            go_wp2
            go_roundw
            case rel => exact ⟨k + 1, E4, by omega, by go_num, by first | rfl | (rw [← hE4]; rfl), HB2.out, HNEW⟩
            case measure => simp [intOf]; omega
    · obtain rfl : k = xs.length := by omega
      have HR := Shh.mk hO.out
      clear hb
      go_wp2
      go_ret
      exact ⟨by (rw [HR.out]; try rfl), HB.out⟩
end Go.Proofs.YtokfkofclpajfaaDoor
