/-
  The text of a grammar: the model's loops.
-/
import Derived.Test.YtpdphimlpeiifaaHI
namespace Go.Proofs.Ytpdphimlpeiifaa
open Go.RowKit

theorem stm_cat (T : List UInt8) {n : ByteArray} : txt T ++ ((⟨#[115, 116, 101, 109, 32]⟩ : ByteArray) ++ n) = txt (T ++ ([115, 116, 101, 109, 32] ++ n.data.toList)) := by
  apply Go.WideShapes.bytes_inj
  simp [txt]
theorem use_cat (T : List UInt8) {n : ByteArray} : txt T ++ ((⟨#[32]⟩ : ByteArray) ++ n) = txt (T ++ ([32] ++ n.data.toList)) := by
  apply Go.WideShapes.bytes_inj
  simp [txt]
theorem end_cat (T : List UInt8) : txt T ++ (⟨#[10]⟩ : ByteArray) = txt (T ++ [10]) := by
  apply Go.WideShapes.bytes_inj
  simp [txt]

set_option maxRecDepth 100000 in
set_option maxHeartbeats 1000000 in
theorem l04Text_any {g : Nat} {va vs : Value} {xs : List Aff} {ss : List Stm} (W : World) (hg : GramAt W g va vs xs ss) (hsz : gramW xs ss ≤ 1048576) :
    Calls Try.prog 96 #[.pointer (some ⟨g, 0, none⟩)] W fun e w' => e = .returned (.string (txt (gramL xs ss))) ∧ ∃ k, w' = W.drewN k := by
  have hxl := hg.gram.affs.len
  have hsl := hg.gram.stms.len
  have hsm := small_of hsz
  have HGA := Shh.mk hg
  obtain ⟨aa, ac, rfl, hal, ham, hac⟩ := hg.gram.affs
  obtain ⟨sa, sc, rfl, hsl1, hsmm, hsc⟩ := hg.gram.stms
  have HCA := Shh.mk hac
  have HCS := Shh.mk hsc
  have HBA := Shh.mk (fun k (hk : k ≤ xs.length) => affText_bound hsz hk)
  have HBS := Shh.mk (fun k (hk : k ≤ ss.length) => stmText_bound hsz hk)
  have HSM := Shh.mk hsm
  clear hac hsc hg hsm
  go_enter Try.func96, Try.ntmps96
  go_wp2
  go_loopw [3, 4, 5, 6] (fun o i _ _ wr => ∃ k m : Nat, k ≤ xs.length ∧ i = .int .i64 k ∧ o = .string (txt (affText xs k)) ∧ wr = W.drewN m) (fun _ i _ _ _ => xs.length - (intOf i).toNat)
  case atStart => exact ⟨0, 0, Nat.zero_le _, rfl, rfl, rfl⟩
  case round =>
    obtain ⟨k, m, hk, rfl, rfl, hw'⟩ := hrel
    have HW := Shh.mk hw'
    have hgr := Shh.mk (show GramAt wr g _ _ xs ss by rw [hw']; exact HGA.out.drewN m)
    have c0 := hgr.out.blk.cells
    by_cases hlt : k < xs.length
    · obtain ⟨ba, oa, rfl, hba, hcc⟩ := HCA.out (by omega)
      have ha : AffIs wr ba (oa + k * 5) (affG xs k) := by rw [hw']; exact AffAt.drewN (hcc k hlt) m
      have hw1 := HSM.out.aff _ (affG_mem hlt)
      have hT := HBA.out k (by omega)
      have HE : Shh (affText xs (k + 1) = affText xs k ++ affLine (affG xs k)) := ⟨rfl⟩
      obtain ⟨y, hy⟩ : ∃ y, affG xs k = y := ⟨_, rfl⟩
      rw [hy] at ha hw1 HE
      obtain ⟨n, fr, ww, st, ad⟩ := y
      obtain ⟨k0, k1, k2, k3, k4⟩ := ha
      simp only at k0 k1 k2 k3 k4
      have hwn : n.size + ww.size + st.size + ad.size ≤ 1048576 := hw1
      obtain ⟨P1, hP1⟩ : ∃ P, txt (partL ww) = P := ⟨_, rfl⟩
      obtain ⟨P2, hP2⟩ : ∃ P, txt (partL st) = P := ⟨_, rfl⟩
      obtain ⟨P3, hP3⟩ : ∃ P, txt (partL ad) = P := ⟨_, rfl⟩
      obtain ⟨s1, hs1⟩ : ∃ s, txt (sideL fr) = s := ⟨_, rfl⟩
      have z1 : P1.size ≤ ww.size + 1 := by rw [← hP1, txt_size]; exact partL_len ww
      have z2 : P2.size ≤ st.size + 1 := by rw [← hP2, txt_size]; exact partL_len st
      have z3 : P3.size ≤ ad.size + 1 := by rw [← hP3, txt_size]; exact partL_len ad
      have hcat := aff_cat (affText xs k) (x := ⟨n, fr, ww, st, ad⟩) rfl hs1 hP1 hP2 hP3
      rw [← HE.out] at hcat
      obtain ⟨TT, hTT⟩ : ∃ TT, txt (affText xs k) = TT := ⟨_, rfl⟩
      have zT : TT.size ≤ 100000000 := by rw [← hTT, txt_size]; exact hT
      rw [hTT] at hcat
      rw [hTT]
      have HP1 := Shh.mk hP1
      have HP2 := Shh.mk hP2
      have HP3 := Shh.mk hP3
      clear hcc hy hw' hT hw1 hP1 hP2 hP3 hTT HE
      cases fr
      · obtain rfl : ⟨#[98, 97, 99, 107]⟩ = s1 := hs1
        have HCAT := Shh.mk hcat
        clear hcat
        go_wp2
        go_quiet ((go_at_call 130; first | with_reducible exact quietF (part_is HP1.out _) | with_reducible exact quietF (part_is HP2.out _) | with_reducible exact quietF (part_is HP3.out _)))
        go_wp2
        go_roundw
        case rel => exact ⟨k + 1, _, by omega, by go_num, congrArg Value.string HCAT.out, by rw [HW.out]; exact World.drewN_drewN _ _ _⟩
        case measure => simp [intOf]; omega
      · obtain rfl : ⟨#[102, 114, 111, 110, 116]⟩ = s1 := hs1
        have HCAT := Shh.mk hcat
        clear hcat
        go_wp2
        go_quiet ((go_at_call 130; first | with_reducible exact quietF (part_is HP1.out _) | with_reducible exact quietF (part_is HP2.out _) | with_reducible exact quietF (part_is HP3.out _)))
        go_wp2
        go_roundw
        case rel => exact ⟨k + 1, _, by omega, by go_num, congrArg Value.string HCAT.out, by rw [HW.out]; exact World.drewN_drewN _ _ _⟩
        case measure => simp [intOf]; omega
    · obtain rfl : k = xs.length := by omega
      have HW0 := Shh.mk hw'
      obtain ⟨A, hA⟩ : ∃ A, affText xs xs.length = A := ⟨_, rfl⟩
      have hAl := HBA.out xs.length (Nat.le_refl _)
      rw [hA] at hAl ⊢
      have HG0 : Shh (gramL xs ss = A ++ stmText ss ss.length) := ⟨by unfold gramL; rw [hA]⟩
      clear hw' HCA hA HBA
      go_wp2
      clear c0 hgr HW
      go_loopw [3, 7, 8] (fun o i _ w' => ∃ k : Nat, k ≤ ss.length ∧ i = .int .i64 k ∧ o = .string (txt (A ++ stmText ss k)) ∧ w' = wr) (fun _ i _ _ => ss.length - (intOf i).toNat)
      case atStart => exact ⟨0, Nat.zero_le _, rfl, by simp [stmText], rfl⟩
      case round =>
        obtain ⟨k, hk, rfl, rfl, rfl⟩ := hrel
        have hgr := Shh.mk (show GramAt wr g _ _ xs ss by rw [HW0.out]; exact HGA.out.drewN m)
        have c0 := hgr.out.blk.cells
        by_cases hlt : k < ss.length
        · obtain ⟨bs, os, rfl, hbs, hcc⟩ := HCS.out (by omega)
          have ha : StmIs wr bs (os + k * 2) (stmG ss k) := by rw [HW0.out]; exact (hcc k hlt).drewN m
          have hw1 := HSM.out.word _ (stmG_mem hlt)
          have hu1 := HSM.out.use _ (stmG_mem hlt)
          have hT := HBS.out k (by omega)
          have hT1 := HBS.out (k + 1) (by omega)
          have HE : stmText ss (k + 1) = stmText ss k ++ stmLine (stmG ss k) := rfl
          obtain ⟨y, hy⟩ : ∃ y, stmG ss k = y := ⟨_, rfl⟩
          rw [hy] at ha hw1 HE hu1
          obtain ⟨n, us⟩ := y
          obtain ⟨k0, u, k1, hu⟩ := ha
          simp only at k0 k1 hu hw1 hu1
          have hul := hu.len
          obtain ⟨ua, uc, rfl, hul1, hul2, huc⟩ := hu
          have HUC := Shh.mk huc
          obtain ⟨D, hD⟩ : ∃ D, A ++ stmText ss k = D := ⟨_, rfl⟩
          have hDl : D.length ≤ 200000000 := by rw [← hD, List.length_append]; omega
          have HFIN : Shh (txt ((D ++ ([115, 116, 101, 109, 32] ++ n.data.toList)) ++ usesL us us.length ++ [10]) = txt (A ++ stmText ss (k + 1))) := ⟨by
            rw [HE, ← hD]
            unfold stmLine
            simp [List.append_assoc]⟩
          have HUB : Shh (∀ j, j ≤ us.length → (usesL us j).length ≤ 100000000) := ⟨fun j hj => by
            have h1 := usesL_len us j
            have h2 := sumTo_mono (fun j => (strAt us j).size) hj
            have h3 := stmLine_len ⟨n, us⟩
            rw [HE, List.length_append, h3] at hT1
            unfold stmW strsW at hT1
            simp only at hT1
            omega⟩
          have HSC := Shh.mk (stm_cat D (n := n))
          have zD : (txt D).size ≤ 200000000 := by rw [txt_size]; exact hDl
          rw [hD]
          obtain ⟨TD, hTD⟩ : ∃ TD, txt D = TD := ⟨_, rfl⟩
          rw [hTD] at HSC zD ⊢
          have hnl : n.data.toList.length = n.size := by simp
          obtain ⟨E, hE⟩ : ∃ E, D ++ ([115, 116, 101, 109, 32] ++ n.data.toList) = E := ⟨_, rfl⟩
          have hEl : E.length ≤ 300000000 := by rw [← hE]; simp only [List.length_append, List.length_cons, List.length_nil, hnl]; omega
          rw [hE] at HSC HFIN
          clear hcc hy hT hT1 HE huc hD hTD hE
          go_wp2
          rw [HSC.out]
          go_loopw [3, 8] (fun o i w' => ∃ j : Nat, j ≤ us.length ∧ i = .int .i64 j ∧ o = .string (txt (E ++ usesL us j)) ∧ w' = wr) (fun _ i _ => us.length - (intOf i).toNat)
          case atStart => exact ⟨0, Nat.zero_le _, rfl, by simp [usesL], rfl⟩
          case round =>
            obtain ⟨j, hj, rfl, rfl, rfl⟩ := hrel
            by_cases hltj : j < us.length
            · obtain ⟨bu, ou, rfl, hbu, hcu⟩ := HUC.out (by omega)
              have cj := hcu j hltj
              have hul1 := hu1 _ (strAt_mem hltj)
              have hjl := HUB.out j (by omega)
              have hcat := use_cat (E ++ usesL us j) (n := strAt us j)
              have hus : (E ++ usesL us j) ++ ([32] ++ (strAt us j).data.toList) = E ++ usesL us (j + 1) := by
                show _ = E ++ (usesL us j ++ ([32] ++ (strAt us j).data.toList))
                rw [List.append_assoc]
              rw [hus] at hcat
              obtain ⟨y, hy⟩ : ∃ y, strAt us j = y := ⟨_, rfl⟩
              rw [hy] at cj hcat hul1
              have zT : (txt (E ++ usesL us j)).size ≤ 500000000 := by rw [txt_size, List.length_append]; omega
              obtain ⟨TT, hTT⟩ : ∃ TT, txt (E ++ usesL us j) = TT := ⟨_, rfl⟩
              rw [hTT] at hcat zT ⊢
              have HCAT := Shh.mk hcat
              clear hcat hus hy hTT hcu
              go_wp2
              go_roundw
              case rel => exact ⟨j + 1, by omega, by go_num, congrArg Value.string HCAT.out, by first | trivial | rfl⟩
              case measure => simp [intOf]; omega
            · obtain rfl : j = us.length := by omega
              have hjl := HUB.out us.length (Nat.le_refl _)
              have hcat := end_cat (E ++ usesL us us.length)
              rw [HFIN.out] at hcat
              have zT : (txt (E ++ usesL us us.length)).size ≤ 500000000 := by rw [txt_size, List.length_append]; omega
              obtain ⟨TT, hTT⟩ : ∃ TT, txt (E ++ usesL us us.length) = TT := ⟨_, rfl⟩
              rw [hTT] at hcat zT ⊢
              have HCAT := Shh.mk hcat
              clear hcat hTT
              go_wp2
              go_roundw
              case rel => exact ⟨k + 1, by omega, by go_num, congrArg Value.string HCAT.out, by first | trivial | rfl⟩
              case measure => simp [intOf]; omega
        · obtain rfl : k = ss.length := by omega
          rw [← HG0.out]
          go_wp2
          go_ret
          exact ⟨rfl, _, HW0.out⟩
end Go.Proofs.Ytpdphimlpeiifaa
