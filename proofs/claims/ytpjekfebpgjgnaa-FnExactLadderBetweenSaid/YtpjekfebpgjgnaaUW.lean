/-
  The model's distances, and its LadderBetween.
-/
import Derived.Test.YtpjekfebpgjgnaaUT
import Derived.Test.YtpjekfebpgjgnaaLN
import Derived.Test.YtpjekfebpgjgnaaUH
import Derived.Deep.QuietTactic
import Derived.BigQuiet
namespace Go.Proofs.Ytpjekfebpgjgnaa
open Go.RowKit Go.Lib

theorem near_on {a b : ByteArray} {t : Bool} (h : nearS a b = t) (w0 w : World) (hb : Below w0.heap.size w0 w) (ha : a.size ≤ 1048576) (hb2 : b.size ≤ 1048576) : Calls Try.prog 97 #[.string a, .string b] w fun e w' => e = .returned (.bool t) ∧ Below w0.heap.size w0 w' :=
  (near_is h w ha hb2).mono fun e w' ⟨h1, k, h2⟩ => ⟨h1, by rw [h2]; exact below_drewN hb k⟩
set_option maxRecDepth 100000 in
set_option maxHeartbeats 2000000 in
theorem l10Far_any {g : Nat} {v : Value} {us : List ByteArray} (b : ByteArray) (W : World) (hg : LexAt W g v us) (hz : ∀ k, k < us.length → (strAt us k).size ≤ 1048576) (hn : us.length ≤ 200) :
    Calls Try.prog 95 #[.pointer (some ⟨g, 0, none⟩), .string b] W fun e w' => ∃ v0 m, e = .returned v0 ∧ RowF W.heap.size w' v0 us.length m ∧ FarSt us b us.length 0 0 m ∧ Below W.heap.size W w' := by
  have HG := ShE.mk hg
  have HZ := ShE.mk hz
  have c0 := hg.blk.cells
  obtain ⟨aa, ac, rfl, -, -, hc⟩ := hg.strs
  have HC := ShE.mk hc
  clear hc hg hz
  go_enter Try.func95, Try.ntmps95
  go_wp2
  go_loopw [5, 6] (fun x i wr => ∃ k : Nat, k ≤ us.length ∧ i = .int .i64 k ∧ RowF W.heap.size wr x k (farZ us b) ∧ Below W.heap.size W wr) (fun _ i _ => us.length - (RowKit.intOf i).toNat)
  case atStart => exact ⟨0, Nat.zero_le _, rfl, World.ownsRow_lit W #[] 0 (Nat.le_refl _) (by unfold maxLen; omega) rfl, (Below.refl _ _).alloc (Nat.le_refl _) _⟩
  case round =>
    obtain ⟨k, hk, rfl, ho, hb⟩ := hrel
    have HO := ShE.mk ho
    have HB := ShE.mk hb
    have c1 := (HG.out.belowG hb).blk.cells
    clear ho
    by_cases hlt : k < us.length
    · obtain ⟨bb, off, rfl, hbl, hcc⟩ := HC.out (by omega)
      have ck := (hb.cell (p := ⟨bb, off + k, none⟩) hbl).trans (hcc k hlt)
      have HF0 := ShE.mk (show farZ us b k = if strAt us k = b then 0 else -1 from rfl)
      obtain ⟨y, hy⟩ : ∃ y, strAt us k = y := ⟨_, rfl⟩
      rw [hy] at ck HF0
      clear hcc hb c0 hy
      by_cases hyb : y = b
      · subst hyb
        have hbn : (y.toList == y.toList) = true := strSame y
        have HF1 := ShE.mk (show farZ us y k = 0 by rw [HF0.out, if_pos rfl])
        go_wp2_with (at_builtin; refine wpList_append_numF rfl _ _ rfl rfl 0 rfl HF1.out HO.out (by omega) HB.out.size ?_; intro x' w4 ho4 hg4; have HO4 := ShE.mk ho4; have HB4 := ShE.mk (HB.out.grown hg4 HB.out.size (fun j hj => (World.ownsRow.lt HO.out j hj).1)); clear ho4 hg4)
        go_roundw
        case rel => exact ⟨k + 1, by omega, by go_num, HO4.out, HB4.out⟩
        case measure => simp [RowKit.intOf]; omega
      · have hbn : (y.toList == b.toList) = false := strNe hyb
        have HF1 := ShE.mk (show farZ us b k = -1 by rw [HF0.out, if_neg hyb])
        go_wp2_with (at_builtin; refine wpList_append_numF rfl _ _ rfl rfl (-1) rfl HF1.out HO.out (by omega) HB.out.size ?_; intro x' w4 ho4 hg4; have HO4 := ShE.mk ho4; have HB4 := ShE.mk (HB.out.grown hg4 HB.out.size (fun j hj => (World.ownsRow.lt HO.out j hj).1)); clear ho4 hg4)
        go_roundw
        case rel => exact ⟨k + 1, by omega, by go_num, HO4.out, HB4.out⟩
        case measure => simp [RowKit.intOf]; omega
    · obtain rfl : k = us.length := by omega
      clear hb c0
      have HST := ShE.mk (FarSt.start us b)
      go_wp2
      obtain ⟨ra, rcap, rfl, r1, r2, r3⟩ := own_form HO.out
      have HR3 := ShE.mk r3
      clear r3 c1 hlt
      go_loopw [8] (fun f wr2 => ∃ (F : Nat) (m : Nat → Int), F ≤ us.length ∧ f = .int .i64 F ∧ ShE (RowF W.heap.size wr2 (.slice ra us.length rcap) us.length m) ∧ ShE (FarSt us b F 0 0 m) ∧ ShE (Below W.heap.size W wr2)) (fun f _ => us.length - (RowKit.intOf f).toNat)
      case atStart => exact ⟨0, _, Nat.zero_le _, rfl, HO, HST, HB⟩
      case round =>
        obtain ⟨F, m, hF, rfl, HO2, HS2, HB2⟩ := hrel
        by_cases hFl : F < us.length
        · go_wp2
          go_loopw [9] (fun i wr3 => ∃ (n : Nat) (m2 : Nat → Int), n ≤ us.length ∧ i = .int .i64 n ∧ ShE (RowF W.heap.size wr3 (.slice ra us.length rcap) us.length m2) ∧ ShE (FarSt us b F n 0 m2) ∧ ShE (Below W.heap.size W wr3)) (fun i _ => us.length - (RowKit.intOf i).toNat)
          case atStart => exact ⟨0, _, Nat.zero_le _, rfl, HO2, HS2, HB2⟩
          case round =>
            obtain ⟨i, m2, hi, rfl, HO3, HS3, HB3⟩ := hrel
            by_cases hil : i < us.length
            · go_wp2
              go_loopw [10] (fun k wr4 => ∃ (n : Nat) (m3 : Nat → Int), n ≤ us.length ∧ k = .int .i64 n ∧ ShE (RowF W.heap.size wr4 (.slice ra us.length rcap) us.length m3) ∧ ShE (FarSt us b F i n m3) ∧ ShE (Below W.heap.size W wr4)) (fun k _ => us.length - (RowKit.intOf k).toNat)
              case atStart => exact ⟨0, _, Nat.zero_le _, rfl, HO3, HS3, HB3⟩
              case round =>
                obtain ⟨k, m3, hk3, rfl, HO4, HS4, HB4⟩ := hrel
                by_cases hkl : k < us.length
                · obtain ⟨gr, rfl, hgr1, hgr2⟩ := HR3.out (by omega)
                  obtain ⟨ci, fi⟩ := HO4.out.at hil
                  obtain ⟨ck, fk⟩ := HO4.out.at hkl
                  have hsi := HS4.out.small hil
                  have hsk := HS4.out.small hkl
                  obtain ⟨M, hM⟩ : ∃ M, m3 i = M := ⟨_, rfl⟩
                  have HM := ShE.mk hM
                  rw [hM] at ci hsi
                  clear hM fi
                  by_cases hMF : M = (F : Int)
                  · subst hMF
                    obtain ⟨Z, hZ⟩ : ∃ Z, m3 k = Z := ⟨_, rfl⟩
                    have HZk := ShE.mk hZ
                    rw [hZ] at ck hsk
                    clear hZ
                    by_cases hneg : Z < 0
                    · obtain ⟨bb, off, rfl, hbl, hcc⟩ := HC.out (by omega)
                      have c2 := (HG.out.belowG HB4.out).blk.cells
                      have ca := (HB4.out.cell (p := ⟨bb, off + i, none⟩) hbl).trans (hcc i hil)
                      have cb := (HB4.out.cell (p := ⟨bb, off + k, none⟩) hbl).trans (hcc k hkl)
                      have hza := HZ.out i hil
                      have hzb := HZ.out k hkl
                      have HPUT := ShE.mk (fun h => HS4.out.put hil hkl HM.out (by rw [HZk.out]; exact hneg) h)
                      have HPASS := ShE.mk (fun h => HS4.out.pass (k := k) h)
                      obtain ⟨x, hx⟩ : ∃ x, strAt us i = x := ⟨_, rfl⟩
                      obtain ⟨y, hy⟩ : ∃ y, strAt us k = y := ⟨_, rfl⟩
                      rw [hx, hy] at HPUT HPASS
                      rw [hx] at ca hza
                      rw [hy] at cb hzb
                      clear hcc hx hy
                      cases hnr : nearS x y
                      · have HNR := ShE.mk hnr
                        have hdz : decide (Z < 0) = true := decide_eq_true hneg
                        go_wp2
                        go_quiet (first | (go_at_call 97; exact Calls.quiet_of (near_is HNR.out _ hza hzb)))
                        go_wp2
                        go_roundw
                        case rel => exact ⟨k + 1, m3, by omega, by go_num, ⟨HO4.out⟩, ⟨HPASS.out (fun h => by rw [HNR.out] at h; cases h.2)⟩, ⟨below_drewN HB4.out nq⟩⟩
                        case measure => simp [RowKit.intOf]; omega
                      · have HNR := ShE.mk hnr
                        have hdz : decide (Z < 0) = true := decide_eq_true hneg
                        go_wp2
                        go_quiet (first | (go_at_call 97; exact Calls.quiet_of (near_is HNR.out _ hza hzb)))
                        have ho5 : RowF W.heap.size (wr.drewN nq) (.slice (some ⟨gr, 0, none⟩) us.length rcap) us.length m3 := HO4.out
                        have HO5 := ShE.mk ho5
                        have HB5 := ShE.mk (below_drewN HB4.out nq)
                        have HP5 := ShE.mk (HPUT.out HNR.out)
                        clear ho5
                        go_wp2
                        go_roundw
                        case rel => exact ⟨k + 1, setF m3 k ((F + 1 : Nat) : Int), by omega, by go_num, ⟨HO5.out.put k _⟩, HP5, ⟨HB5.out.setCell (p := ⟨gr, k, none⟩) hgr1 _⟩⟩
                        case measure => simp [RowKit.intOf]; omega
                    · have HK := ShE.mk (fun w' (hb' : Below wr.heap.size wr w') => (hb'.cell (p := ⟨gr, k, none⟩) (World.ownsRow.lt HO4.out gr rfl).2).trans ck)
                      have hdz : decide (Z < 0) = false := decide_eq_false hneg
                      have HNEG := ShE.mk (show 0 ≤ Z by omega)
                      go_wp2
                      go_quiet (fail)
                      go_wp2
                      go_roundw
                      case rel => exact ⟨k + 1, m3, by omega, by go_num, ⟨HO4.out⟩, ⟨HS4.out.pass (fun h => by have h1 := h.1; rw [HZk.out] at h1; have := HNEG.out; omega)⟩, ⟨below_drewN HB4.out nq⟩⟩
                      case measure => simp [RowKit.intOf]; omega
                  · go_wp2
                    go_roundw
                    case rel => exact ⟨i + 1, m3, by omega, by go_num, HO4, ⟨HS4.out.row (.inr ⟨hil, by rw [HM.out]; exact hMF⟩)⟩, HB4⟩
                    case measure => simp [RowKit.intOf]; omega
                · obtain rfl : k = us.length := by omega
                  go_wp2
                  go_roundw
                  case rel => exact ⟨i + 1, m3, by omega, by go_num, HO4, ⟨HS4.out.row (.inl (Nat.le_refl _))⟩, HB4⟩
                  case measure => simp [RowKit.intOf]; omega
            · obtain rfl : i = us.length := by omega
              go_wp2
              go_roundw
              case rel => exact ⟨F + 1, m2, by omega, by go_num, HO3, ⟨HS3.out.layer (Nat.le_refl _)⟩, HB3⟩
              case measure => simp [RowKit.intOf]; omega
        · obtain rfl : F = us.length := by omega
          go_wp2
          go_ret
          exact ⟨_, m, rfl, HO2.out, HS2.out, HB2.out⟩
end Go.Proofs.Ytpjekfebpgjgnaa
