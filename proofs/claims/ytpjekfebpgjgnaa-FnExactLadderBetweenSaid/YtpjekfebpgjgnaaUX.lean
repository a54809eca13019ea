/-
  The model's LadderBetween.
-/
import Derived.Test.YtpjekfebpgjgnaaUW
namespace Go.Proofs.Ytpjekfebpgjgnaa
open Go.RowKit Go.Lib

theorem Lad.take {us : List ByteArray} {a b : ByteArray} {L : List ByteArray} {n : Nat} (h : Lad us a b L n) {t : Nat} (ht : t < n) : L.take (t + 2) = L.take (t + 1) ++ [strAt L (t + 1)] := takeS_snoc L (t + 1) (by rw [h.len]; omega)
theorem Lad.one {us : List ByteArray} {a b : ByteArray} {L : List ByteArray} {n : Nat} (h : Lad us a b L n) : L.take 1 = [a] := by
  have h1 := takeS_snoc L 0 (by rw [h.len]; omega)
  rw [h.first] at h1
  simpa using h1
def lenX (v : Value) : Nat := match v with
  | .slice _ n _ => n
  | _ => 0
set_option maxRecDepth 100000 in
set_option maxHeartbeats 2000000 in
theorem specLadderBetween_any {v : Value} {us : List ByteArray} (a b : ByteArray) (W : World) (hu : Strs W v us) (hz : ∀ s ∈ us, s.size ≤ maxLen) :
    Calls Try.prog 43 #[.agg #[v], .string a, .string b] W fun e w' => ∃ v0, e = retS v0 (ladOut us a b).2 ∧ Strs w' v0 (ladOut us a b).1 ∧ Below W.heap.size W w' := by
  have hul := hu.len
  have HG := ShE.mk (LexAt.made hu)
  have c0 := HG.out.blk.cells
  have HB := ShE.mk ((Below.refl W.heap.size W).alloc (Nat.le_refl _) (.cells #[v] 26))
  obtain ⟨aa, ac, rfl, -, -, hc⟩ := hu
  cases hok : okL us
  · have HA := ShE.mk (show ladOut us a b = ([], 1) from LadIs.out (.inl ⟨hok, rfl, rfl⟩))
    have HO := ShE.mk hok
    clear hok
    go_enter Try.func43, Try.ntmps43
    go_wp2_with fail
    refine (ok_is HO.out _ HG.out hz).mono ?_
    rintro e w1 ⟨rfl, k, rfl⟩
    go_wp2
    go_ret2
    rw [HA.out]
    exact ⟨_, rfl, Strs.void _ _ (Nat.zero_le _), below_drewN HB.out k⟩
  · have HO := ShE.mk hok
    cases h1 : hasL us a
    · have HA := ShE.mk (show ladOut us a b = ([], 3) from LadIs.out (.inr (.inl ⟨hok, by rw [h1]; rfl, rfl, rfl⟩)))
      have H1 := ShE.mk h1
      clear hok h1
      go_enter Try.func43, Try.ntmps43
      go_wp2_with fail
      refine (ok_is HO.out _ HG.out hz).mono ?_
      rintro e w1 ⟨rfl, k, rfl⟩
      have HG1 := ShE.mk (HG.out.drewN k)
      have c1 := HG1.out.blk.cells
      clear c0
      go_wp2_with fail
      refine (l05Has_any _ a HG1.out.strs H1.out).mono ?_
      rintro e w2 ⟨rfl, rfl⟩
      go_wp2
      go_ret2
      rw [HA.out]
      exact ⟨_, rfl, Strs.void _ _ (Nat.zero_le _), below_drewN HB.out k⟩
    · cases h2 : hasL us b
      · have HA := ShE.mk (show ladOut us a b = ([], 3) from LadIs.out (.inr (.inl ⟨hok, by rw [h1, h2]; rfl, rfl, rfl⟩)))
        have H1 := ShE.mk h1
        have H2 := ShE.mk h2
        clear hok h1 h2
        go_enter Try.func43, Try.ntmps43
        go_wp2_with fail
        refine (ok_is HO.out _ HG.out hz).mono ?_
        rintro e w1 ⟨rfl, k, rfl⟩
        have HG1 := ShE.mk (HG.out.drewN k)
        have c1 := HG1.out.blk.cells
        clear c0
        go_wp2_with fail
        refine (l05Has_any _ a HG1.out.strs H1.out).mono ?_
        rintro e w2 ⟨rfl, rfl⟩
        go_wp2_with fail
        refine (l05Has_any _ b HG1.out.strs H2.out).mono ?_
        rintro e w3 ⟨rfl, rfl⟩
        go_wp2
        go_ret2
        rw [HA.out]
        exact ⟨_, rfl, Strs.void _ _ (Nat.zero_le _), below_drewN HB.out k⟩
      · have H1 := ShE.mk h1
        have H2 := ShE.mk h2
        have HH := ShE.mk (show (hasL us a && hasL us b) = true by rw [h1, h2]; rfl)
        have HRI := ShE.mk (okL_rise hok)
        have HLS := ShE.mk (long_all hok)
        have hn := okL_size hok
        obtain ⟨hAl, hAe⟩ : firstG us a < us.length ∧ strAt us (firstG us a) = a := by
          rw [hasL_is] at h1
          exact of_decide_eq_true h1
        have HAE := ShE.mk hAe
        have HC := ShE.mk hc
        clear hok h1 h2 hAe hc
        go_enter Try.func43, Try.ntmps43
        go_wp2_with fail
        refine (ok_is HO.out _ HG.out hz).mono ?_
        rintro e w1 ⟨rfl, k, rfl⟩
        have HG1 := ShE.mk (HG.out.drewN k)
        have c1 := HG1.out.blk.cells
        clear c0
        go_wp2_with fail
        refine (l05Has_any _ a HG1.out.strs H1.out).mono ?_
        rintro e w2 ⟨rfl, rfl⟩
        go_wp2_with fail
        refine (l05Has_any _ b HG1.out.strs H2.out).mono ?_
        rintro e w3 ⟨rfl, rfl⟩
        go_wp2_with fail
        refine (l10Far_any b _ HG1.out HLS.out hn).mono ?_
        rintro e w4 ⟨fv, m, rfl, hro, hfs, hb4⟩
        have HB4 := ShE.mk ((below_drewN HB.out k).trans (hb4.mono (below_drewN HB.out k).size))
        have HG4 := ShE.mk (HG1.out.belowG hb4)
        have HFS := ShE.mk hfs
        obtain ⟨ra, rcap, rfl, r1, r2, r3⟩ := own_form hro
        obtain ⟨gr, rfl, hg1, hg2⟩ := r3 (by omega)
        have HRO := ShE.mk hro
        have c4 := HG4.out.blk.cells
        clear hro hfs r3 c1 hb4
        go_wp2_with fail
        refine (l05First_any _ a HG4.out.strs).mono ?_
        rintro e w5 ⟨rfl, rfl⟩
        obtain ⟨A0, hA0⟩ : ∃ A0, firstG us a = A0 := ⟨_, rfl⟩
        rw [hA0] at hAl HAE ⊢
        clear hA0
        obtain ⟨ca, fa⟩ := HRO.out.at hAl
        have hsm := HFS.out.small hAl
        obtain ⟨M, hM⟩ : ∃ M, m A0 = M := ⟨_, rfl⟩
        rw [hM] at ca hsm
        have HM := ShE.mk hM
        clear hM fa
        by_cases hneg : M < 0
        · have HA := ShE.mk (show ladOut us a b = ([], 6) from LadIs.out (.inr (.inr (.inl ⟨HO.out, HH.out, fun n hw => HFS.out.neg HRI.out hAl (by rw [HM.out]; exact hneg) n (by rw [HAE.out]; exact hw), rfl, rfl⟩))))
          go_wp2
          go_ret2
          rw [HA.out]
          exact ⟨_, rfl, Strs.void _ _ (Nat.zero_le _), HB4.out⟩
        · obtain ⟨d, hd1, hd2⟩ := HFS.out.pos HRI.out hAl (by rw [HM.out]; omega)
          rw [HAE.out] at hd2
          obtain ⟨L, hL⟩ := Lad.exists HRI.out (by rw [← HAE.out]; exact strAt_mem hAl) hd2
          have HA := ShE.mk (show ladOut us a b = (L, 0) from LadIs.out (.inr (.inr (.inr ⟨HO.out, HH.out, ⟨_, hL⟩, rfl⟩))))
          have HL := ShE.mk hL
          have hdm : M = (d : Int) := by rw [← HM.out]; exact hd1
          subst hdm
          clear hd2 hL hneg hd1
          go_wp2
          clear c4 ca
          have HO5 := ShE.mk (show OwnS w4.heap.size (w4.alloc (.cells #[.string a] 9)) (.slice (some ⟨w4.heap.size, 0, none⟩) 1 1) (L.take 1) by rw [HL.out.one]; exact World.ownsRow_lit w4 #[.string a] 1 (Nat.le_refl _) (by unfold maxLen; omega) rfl)
          go_loopw [9, 10] (fun at_ x wr => ∃ t A : Nat, t ≤ d ∧ A < us.length ∧ ShE (strAt us A = strAt L t) ∧ at_ = .int .i64 A ∧ ShE (OwnS w4.heap.size wr x (L.take (t + 1))) ∧ ShE (Below w4.heap.size w4 wr)) (fun _ x _ => d + 1 - lenX x)
          case atStart => exact ⟨0, A0, Nat.zero_le _, hAl, ⟨by rw [HAE.out, HL.out.first]⟩, rfl, HO5, ⟨(Below.refl _ _).alloc (Nat.le_refl _) _⟩⟩
          case round =>
            obtain ⟨t, A, ht, hA, hAt, rfl, ho, hb⟩ := hrel
            have HRW := ShE.mk (HRO.out.below hb.out)
            obtain ⟨cA, fA⟩ := HRW.out.at hA
            have hdi := HL.out.dist t ht
            rw [← hAt.out] at hdi
            have hmA := (HFS.out.iff HRI.out hA (d - t)).2 hdi
            rw [hmA] at cA
            have hLl := HL.out.len
            have htl : (L.take (t + 1)).length = t + 1 := by rw [List.length_take]; omega
            obtain ⟨xa, xc, rfl, x1, x2, -⟩ := own_form ho.out
            rw [htl] at ho x1 ⊢
            have HGW := ShE.mk (HG4.out.belowG hb.out)
            have cL := HGW.out.blk.cells
            clear fA hdi hmA
            by_cases hlt : t < d
            · obtain ⟨X, hX, hXe⟩ := mem_at (HL.out.mem (t + 1) (by omega))
              have HX := ShE.mk hXe
              obtain ⟨bb, off, rfl, hbl, hcc⟩ := HC.out (by omega)
              have HWB := ShE.mk (HB4.out.trans (hb.out.mono HB4.out.size))
              have HCC := ShE.mk (fun j hj => (HWB.out.cell (p := ⟨bb, off + j, none⟩) hbl).trans (hcc j hj))
              have cw := HCC.out A hA
              have hyz := HLS.out A hA
              obtain ⟨y, hy⟩ : ∃ y, strAt us A = y := ⟨_, rfl⟩
              have HY := ShE.mk (show strAt L t = y by rw [← hAt.out]; exact hy)
              rw [hy] at cw hyz
              obtain ⟨D, hD⟩ : ∃ D, d - t = D + 1 := ⟨d - t - 1, by omega⟩
              rw [hD] at cA
              have hDl : D < us.length := by
                obtain ⟨n0, h1, h2⟩ := dist_few HRI.out (strAt_mem hAl) (b := b) (m := d) (by rw [HAE.out, ← HL.out.first]; exact (HL.out.dist 0 (Nat.zero_le _)).1)
                rw [HAE.out, ← HL.out.first] at h2
                have h3 := h2.one (HL.out.dist 0 (Nat.zero_le _))
                omega
              clear hcc hy hXe
              go_wp2
              go_loopw [11] (fun nx wr2 => ∃ N k : Nat, N ≤ X ∧ nx = .int .i64 N ∧ wr2 = wr.drewN k) (fun nx _ => X - (RowKit.intOf nx).toNat)
              case atStart => exact ⟨0, 0, Nat.zero_le _, rfl, rfl⟩
              case round =>
                obtain ⟨N, k5, hN, rfl, rfl⟩ := hrel
                have hNl : N < us.length := by omega
                obtain ⟨cN, -⟩ := HRW.out.at hNl
                have cz := HCC.out N hNl
                have hzz := HLS.out N hNl
                have hsN := HFS.out.small hNl
                have HNX := ShE.mk (fun hN' => HL.out.next HRI.out hlt hX HX.out (N := N) hN')
                have HIF := ShE.mk (HFS.out.iff HRI.out hNl D)
                obtain ⟨Z, hZ⟩ : ∃ Z, m N = Z := ⟨_, rfl⟩
                obtain ⟨z, hzN⟩ : ∃ z, strAt us N = z := ⟨_, rfl⟩
                have HZN := ShE.mk hzN
                rw [hzN] at cz hzz HNX HIF
                rw [hZ] at cN hsN HIF
                rw [HY.out, show d - t - 1 = D by omega] at HNX
                clear hzN hZ
                have hwr : IntKind.i64.wrap (D : Int) = (D : Int) := IntWalk.i64_in _ (by omega)
                have hwr2 : IntKind.i64.wrap ((D : Int) + 1 - 1) = (D : Int) := by rw [Int.add_sub_cancel]; exact hwr
                obtain ⟨wq, hwq⟩ : ∃ wq, wr.drewN k5 = wq := ⟨_, rfl⟩
                have qN : wq.cell? ⟨gr, N, none⟩ = some (.int .i64 Z) := by rw [← hwq]; exact cN
                have qA : wq.cell? ⟨gr, A, none⟩ = some (.int .i64 ((D + 1 : Nat) : Int)) := by rw [← hwq]; exact cA
                have qz : wq.cell? ⟨bb, off + N, none⟩ = some (.string z) := by rw [← hwq]; exact cz
                have qw : wq.cell? ⟨bb, off + A, none⟩ = some (.string y) := by rw [← hwq]; exact cw
                have qL : wq.cell? ⟨W.heap.size, 0, none⟩ = some (.slice (some ⟨bb, off, none⟩) us.length ac) := by rw [← hwq]; exact cL 0
                have HOQ := ShE.mk (show OwnS w4.heap.size wq (.slice xa (t + 1) xc) (L.take (t + 1)) by rw [← hwq]; exact ho.out)
                have HBQ := ShE.mk (show Below w4.heap.size w4 wq by rw [← hwq]; exact below_drewN hb.out k5)
                have HWQ := ShE.mk hwq
                rw [hwq]
                clear cN hwq
                by_cases hZD : Z = (D : Int)
                · have hbz : (Z != (D : Int)) = false := by simp [hZD]
                  cases hnr : nearS y z
                  · have HNR := ShE.mk hnr
                    have hlX : N < X := by
                      rcases Nat.lt_or_ge N X with h | h
                      · exact h
                      · obtain rfl : N = X := by omega
                        have h1 := HL.out.near t hlt
                        rw [HY.out, ← HX.out, HZN.out, hnr] at h1
                        cases h1
                    go_wp2
                    go_quiet (first | (go_at_call 97; exact Calls.quiet_of (near_is HNR.out _ hyz hzz)))
                    go_wp2
                    go_roundw
                    case rel => exact ⟨N + 1, _, by omega, by go_num, by rw [← HWQ.out]; exact World.drewN_drewN _ _ _⟩
                    case measure => simp [RowKit.intOf]; omega
                  · have HNR := ShE.mk hnr
                    have hlX : N = X := by
                      rcases Nat.lt_or_ge N X with h | h
                      · exact (HNX.out h ⟨HIF.out.1 hZD, hnr⟩).elim
                      · omega
                    subst hlX
                    have HTK := ShE.mk (show L.take (t + 1 + 1) = L.take (t + 1) ++ [z] by rw [HL.out.take hlt, ← HX.out, HZN.out])
                    go_wp2
                    go_quiet (first | (go_at_call 97; exact Calls.quiet_of (near_is HNR.out _ hyz hzz)))
                    have qz2 : (wq.drewN nq).cell? ⟨bb, off + N, none⟩ = some (.string z) := qz
                    have HO6 := ShE.mk (show OwnS w4.heap.size (wq.drewN nq) (.slice xa (t + 1) xc) (L.take (t + 1)) from HOQ.out)
                    have HB6 := ShE.mk (below_drewN HBQ.out nq)
                    go_wp2_with (at_builtin; refine wpList_append_word rfl _ _ rfl z rfl rfl HO6.out (by omega) HB6.out.size ?_; intro x' w6 ho6 hg6 _; have HO7 := ShE.mk (show OwnS w4.heap.size w6 x' (L.take (t + 1 + 1)) by rw [HTK.out]; exact ho6); have HB7 := ShE.mk (HB6.out.grown hg6 HB6.out.size (OwnS.block HO6.out)); clear ho6 hg6)
                    obtain ⟨xa6, xc6, rfl, -, -, -⟩ := own_form HO7.out
                    go_roundw
                    case rel => exact ⟨t + 1, N, by omega, hNl, HX, rfl, HO7, HB7⟩
                    case measure => simp [lenX, HL.out.len]; omega
                · have hbz : (Z != (D : Int)) = true := by simp [hZD]
                  have hlX : N < X := by
                    rcases Nat.lt_or_ge N X with h | h
                    · exact h
                    · obtain rfl : N = X := by omega
                      exact (hZD (HIF.out.2 (by
                        have h1 := HL.out.dist (t + 1) (by omega)
                        rw [← HX.out, HZN.out, show d - (t + 1) = D by omega] at h1
                        exact h1))).elim
                  go_wp2
                  go_quiet (fail)
                  go_wp2
                  go_roundw
                  case rel => exact ⟨N + 1, _, by omega, by go_num, by rw [← HWQ.out]; exact World.drewN_drewN _ _ _⟩
                  case measure => simp [RowKit.intOf]; omega
            · obtain rfl : t = d := by omega
              rw [Nat.sub_self] at cA
              go_wp2
              go_ret2
              rw [HA.out]
              refine ⟨_, rfl, ?_, HB4.out.trans (hb.out.mono HB4.out.size)⟩
              have h1 := OwnS.strs ho.out
              rw [List.take_of_length_le (by omega)] at h1
              exact h1
end Go.Proofs.Ytpjekfebpgjgnaa
