/-
  The contract of the model's ValidTiles.
-/
import Derived.Test.YtaipfampkgpnpaaDoorT2
import Derived.IntWalk
namespace Go.Proofs.YtaipfampkgpnpaaDoor
open Go.RowKit

theorem drawn {w wr : World} (h : ∃ n, wr = w.drewN n) (m : Nat) : ∃ n, wr.drewN m = w.drewN n := by
  obtain ⟨n, rfl⟩ := h
  exact ⟨_, World.drewN_drewN _ _ _⟩
/-- A text's byte at a place that is reckoned. -/
theorem byte_at (L : ByteArray) (i : Int) (j : Nat) (hi : i = (j : Int)) (hj : j < L.size) (w : World) : (Instr.index 9 (.string L) (.int .i64 i)).run Tryd.prog w = .ok (.int .u8 ((L[j]'hj).toNat : Int)) w := by
  subst hi
  rw [run_index_string (h := Tryd.underlying9), dif_pos ⟨by omega, by omega⟩]
  rfl
/-- A contract that leaves the world alone, met inside a region that draws. -/
theorem quietL {P : Program} {f : FuncId} {args : Array Value} {w : World} {n : Nat} {v : Value} (h : Calls P f args (w.drewN n) fun e w' => e = .returned v ∧ w.drewN n = w') : Calls P f args (w.drewN n) fun e w'' => e = .returned v ∧ ∃ m, w'' = w.drewN m :=
  h.mono fun _ _ ⟨he, hm⟩ => ⟨he, n, hm.symm⟩
theorem smallL {c : Int} {w : World} {v : Bool} (h : smallB c = v) : Calls Tryd.prog 33 #[.int .u8 c] w fun e w' => e = .returned (.bool v) ∧ w = w' := by rw [← h]; exact l01Small_any c w
theorem inL {n l h : Int} {w : World} {v : Bool} (e : inB n l h = v) : Calls Tryd.prog 32 #[.int .i64 n, .int .i64 l, .int .i64 h] w fun e w' => e = .returned (.bool v) ∧ w = w' := by rw [← e]; exact l00In_any n l h w

set_option maxRecDepth 100000 in
set_option maxHeartbeats 4000000 in
theorem l02Ok_any (B : Nat) (L : ByteArray) {vv vc : Value} {zv zc : List Int} (b : Int) (w : World) (hL : L.size ≤ maxLen) (hp : Blk w B 24 #[.string L, vv, vc, .int .i64 b]) (hv : Ints .i64 w vv zv) (hc : Ints .i64 w vc zc) :
    Calls Tryd.prog 23 #[.pointer (some ⟨B, 0, none⟩)] w fun e w' => e = .returned (.bool (okT L.data.toList zv zc b)) ∧ ∃ n, w' = w.drewN n := by
  unfold maxLen at hL
  have hvl := hv.len
  have hcl := hc.len
  have HLe := hid (len_eq L)
  have c0 := hp.cells
  have HP := hid hp
  clear hp
  cases hV : inB (L.size : Int) 1 26
  · have HN : Hid (okT L.data.toList zv zc b = false) := by
      have h : ¬ ((1 : Int) ≤ (L.size : Int) ∧ (L.size : Int) ≤ 26) := fun h => by rw [inB_yes h.1 h.2] at hV; cases hV
      rcases Nat.eq_zero_or_pos L.size with h0 | h0
      · exact okT_empty (by rw [HLe.out]; exact h0)
      · exact okT_long (by rw [HLe.out]; omega)
    have HV := hid hV
    clear hV
    go_enter Tryd.func23, Tryd.ntmps23
    go_wp2_with (go_at_call 32; refine (l00In_any _ _ _ _).mono ?_; rw [HV.out]; rintro e w' ⟨rfl, rfl⟩)
    go_ret
    exact ⟨ret_bool HN.out.symm, 0, rfl⟩
  · obtain ⟨h1, h26⟩ := inB_iff.1 hV
    have HV := hid hV
    clear hV
    by_cases hvn : zv.length = L.size
    · by_cases hcn : zc.length = L.size
      · have t1 : ((zv.length : Int) != (L.size : Int)) = false := bne_no (by omega)
        have t2 : ((zc.length : Int) != (L.size : Int)) = false := bne_no (by omega)
        have nv1 : zv.length ≤ L.size := by omega
        have nv2 : L.size ≤ zv.length := by omega
        have nc1 : zc.length ≤ L.size := by omega
        have nc2 : L.size ≤ zc.length := by omega
        have hv0 := hv
        have hc0 := hc
        obtain ⟨av, cv, rfl, hvc, hvm, hvi, -⟩ := hv
        obtain ⟨ac, cc, rfl, hcc, hcm, hci, -⟩ := hc
        unfold maxLen at hvm hcm
        cases hb : inB b 0 4
        · have HN := hid (okT_blanks (l := L.data.toList) (zv := zv) (zc := zc) (b := b) hb)
          have HB := hid hb
          clear hb hvn hcn hvi hci
          go_enter Tryd.func23, Tryd.ntmps23
          go_wp2_with fail
          refine (l00In_any _ _ _ _).mono ?_; rw [HV.out]; rintro e w' ⟨rfl, rfl⟩
          go_wp2_with fail
          refine (l00In_any _ _ _ _).mono ?_; rw [HB.out]; rintro e w' ⟨rfl, rfl⟩
          go_wp2
          go_ret
          exact ⟨ret_bool HN.out.symm, 0, rfl⟩
        · have HY := hid (okT_yes (l := L.data.toList) (zv := zv) (zc := zc) (b := b) (by rw [HLe.out]; omega) (by rw [HLe.out]; exact hvn) (by rw [HLe.out]; exact hcn) hb)
          have HN1 := hid (okT_nums (l := L.data.toList) (zv := zv) (zc := zc) (b := b))
          have HN2 := hid (okT_letters (l := L.data.toList) (zv := zv) (zc := zc) (b := b))
          have hbb := inB_iff.1 hb
          have HB := hid hb
          obtain ⟨b0, b4⟩ := hbb
          clear hb hvn hcn
          go_enter Tryd.func23, Tryd.ntmps23
          go_wp2_with fail
          refine (l00In_any _ _ _ _).mono ?_; rw [HV.out]; rintro e w' ⟨rfl, rfl⟩
          go_wp2_with fail
          refine (l00In_any _ _ _ _).mono ?_; rw [HB.out]; rintro e w' ⟨rfl, rfl⟩
          go_wp2
          go_loopw [4, 5] (fun s i w' => ∃ k : Nat, k ≤ L.size ∧ i = .int .i64 k ∧ s = .int .i64 (b + (zc.take k).sum) ∧ Hid (∃ n, w' = w.drewN n) ∧ Hid (numsTo zv zc k = true) ∧ Hid (lettersTo L.data.toList k = true)) (fun _ i _ => L.size - (intOf i).toNat)
          case atStart => exact ⟨0, Nat.zero_le _, rfl, by simp, ⟨0, rfl⟩, by simp [Hid, numsTo], by simp [Hid, lettersTo]⟩
          case round =>
            obtain ⟨k, hk, rfl, rfl, hwr, hnum, hlet⟩ := hrel
            have hS := sum_bounds (zv := zv) (zc := zc) (k := k) (by omega) hnum.out
            have hsn := sum_snoc zc k
            obtain ⟨S, hSe⟩ : ∃ S, (zc.take k).sum = S := ⟨_, rfl⟩
            rw [hSe] at hS hsn ⊢
            have HS := hid hSe
            have hce : ∀ a, wr.cell? a = w.cell? a := by obtain ⟨n, hn⟩ := hwr.out; intro a; rw [hn]; rfl
            clear hSe
            by_cases hlt : k < L.size
            · obtain ⟨bv, ov, rfl, hbv, hcv⟩ := hvi (by omega)
              obtain ⟨bc, oc, rfl, hbc, hcc'⟩ := hci (by omega)
              have ev := (hce _).trans (hcv k (by omega))
              have ec := (hce _).trans (hcc' k (by omega))
              have cB : ∀ j, wr.cell? ⟨B, j, none⟩ = _ := fun j => (hce _).trans (c0 j)
              have hgr := hid (numsTo_succ zv zc k)
              have hgl := hid (lettersTo_succ L.data.toList k)
              have hsn' := hsn (by omega)
              obtain ⟨x, hx⟩ : ∃ x, zc.getD k 0 = x := ⟨_, rfl⟩
              obtain ⟨y, hy⟩ : ∃ y, zv.getD k 0 = y := ⟨_, rfl⟩
              rw [hx] at ec hsn'
              rw [hy] at ev
              have HSN := hid hsn'
              have HX := hid hx
              have HYY := hid hy
              have hwx : IntKind.i64.wrap ((k : Int) - 1) = (k : Int) - 1 := IntWalk.i64_in _ (by omega)
              clear hcv hcc' hvi hci hsn hsn' hx hy hce c0 hc0 hv0
              cases hsm : smallB ((L[k]'hlt).toNat : Int)
              · have HK := hid (HN2.out (lettersTo_not (by rw [HLe.out]; exact hlt) (letterB_no1 hlt hsm)))
                have HSM := hid hsm
                clear hsm
                go_wp2
                go_quiet ((go_at_call 33; exact quietL (smallL HSM.out)))
                go_wp2
                go_ret
                exact ⟨ret_bool HK.out.symm, drawn hwr.out _⟩
              · have HSM := hid hsm
                have hsm' := smallB_iff.1 hsm
                by_cases hk0 : 0 < k
                · have hkm : k - 1 < L.size := by omega
                  have hd0 : decide ((0 : Int) < (k : Int)) = true := decide_eq_true (by omega)
                  have hix := byte_at L ((k : Int) - 1) (k - 1) (by omega) hkm
                  have hla : lastAt L.data.toList k = ((L[k - 1]'hkm).toNat : Int) := by
                    obtain ⟨m, rfl⟩ : ∃ m, k = m + 1 := ⟨k - 1, by omega⟩
                    rw [lastAt_succ, byteAt_eq L m (by omega)]
                    rfl
                  by_cases hle : ((L[k]'hlt).toNat : Int) ≤ ((L[k - 1]'hkm).toNat : Int)
                  · have hd1 : decide (((L[k]'hlt).toNat : Int) ≤ ((L[k - 1]'hkm).toNat : Int)) = true := decide_eq_true hle
                    have hd2 : decide ((L[k]'hlt).toNat ≤ (L[k - 1]'hkm).toNat) = true := decide_eq_true (by omega)
                    have HK := hid (HN2.out (lettersTo_not (by rw [HLe.out]; exact hlt) (letterB_no2 hlt (by rw [hla]; exact hle))))
                    clear hsm hsm' hle hla
                    go_wp2
                    go_quiet ((go_at_call 33; exact quietL (smallL HSM.out)))
                    go_wp2
                    go_ret
                    exact ⟨ret_bool HK.out.symm, drawn hwr.out _⟩
                  · have hd1 : decide (((L[k]'hlt).toNat : Int) ≤ ((L[k - 1]'hkm).toNat : Int)) = false := decide_eq_false hle
                    have hd2 : decide ((L[k]'hlt).toNat ≤ (L[k - 1]'hkm).toNat) = false := decide_eq_false (by omega)
                    have HLB := hid (letterB_yes hlt hsm (by rw [hla]; exact hle))
                    clear hsm' hle hla
                    cases hval : inB y 0 20
                    · have HK := hid (HN1.out (numsTo_not (by rw [HLe.out]; exact hlt) (by unfold numB; rw [HYY.out, hval]; rfl)))
                      have HV1 := hid hval
                      have HC1 := HV1
                      clear hval hsm
                      go_wp2
                      go_quiet ((first | (go_at_call 33; exact quietL (smallL HSM.out)) | (go_at_call 32; first | with_reducible exact quietL (inL HV1.out) | with_reducible exact quietL (inL HC1.out))))
                      go_wp2
                      go_ret
                      exact ⟨ret_bool HK.out.symm, drawn hwr.out _⟩
                    · have HV1 := hid hval
                      cases hcnt : inB x 1 20
                      · have HK := hid (HN1.out (numsTo_not (by rw [HLe.out]; exact hlt) (by unfold numB; rw [HX.out, hcnt, Bool.and_false])))
                        have HC1 := hid hcnt
                        clear hval hsm hcnt
                        go_wp2
                        go_quiet ((first | (go_at_call 33; exact quietL (smallL HSM.out)) | (go_at_call 32; first | with_reducible exact quietL (inL HV1.out) | with_reducible exact quietL (inL HC1.out))))
                        go_wp2
                        go_ret
                        exact ⟨ret_bool HK.out.symm, drawn hwr.out _⟩
                      · have HK : Hid (numB zv zc k = true) := by unfold numB; rw [HYY.out, HX.out, hval, hcnt]; rfl
                        have HC1 := hid hcnt
                        obtain ⟨x0, x1⟩ := inB_iff.1 hcnt
                        clear hval hsm hcnt
                        go_wp2
                        go_quiet ((first | (go_at_call 33; exact quietL (smallL HSM.out)) | (go_at_call 32; first | with_reducible exact quietL (inL HV1.out) | with_reducible exact quietL (inL HC1.out))))
                        go_wp2
                        go_roundw
                        case rel => exact ⟨k + 1, by omega, by go_num, by rw [HSN.out, Int.add_assoc], drawn hwr.out _, by rw [Hid, hgr.out, hnum.out, HK.out]; rfl, by rw [Hid, hgl.out, hlet.out, HLB.out]; rfl⟩
                        case measure => simp [intOf]; omega
                · have hd0 : decide ((0 : Int) < (k : Int)) = false := decide_eq_false (by omega)
                  have hd1 : decide (0 < k) = false := decide_eq_false hk0
                  have HLB := hid (letterB_yes hlt hsm (by
                    obtain rfl : k = 0 := by omega
                    rw [lastAt_zero]
                    omega))
                  clear hsm'
                  cases hval : inB y 0 20
                  · have HK := hid (HN1.out (numsTo_not (by rw [HLe.out]; exact hlt) (by unfold numB; rw [HYY.out, hval]; rfl)))
                    have HV1 := hid hval
                    have HC1 := HV1
                    clear hval hsm
                    go_wp2
                    go_quiet ((first | (go_at_call 33; exact quietL (smallL HSM.out)) | (go_at_call 32; first | with_reducible exact quietL (inL HV1.out) | with_reducible exact quietL (inL HC1.out))))
                    go_wp2
                    go_ret
                    exact ⟨ret_bool HK.out.symm, drawn hwr.out _⟩
                  · have HV1 := hid hval
                    cases hcnt : inB x 1 20
                    · have HK := hid (HN1.out (numsTo_not (by rw [HLe.out]; exact hlt) (by unfold numB; rw [HX.out, hcnt, Bool.and_false])))
                      have HC1 := hid hcnt
                      clear hval hsm hcnt
                      go_wp2
                      go_quiet ((first | (go_at_call 33; exact quietL (smallL HSM.out)) | (go_at_call 32; first | with_reducible exact quietL (inL HV1.out) | with_reducible exact quietL (inL HC1.out))))
                      go_wp2
                      go_ret
                      exact ⟨ret_bool HK.out.symm, drawn hwr.out _⟩
                    · have HK : Hid (numB zv zc k = true) := by unfold numB; rw [HYY.out, HX.out, hval, hcnt]; rfl
                      have HC1 := hid hcnt
                      obtain ⟨x0, x1⟩ := inB_iff.1 hcnt
                      clear hval hsm hcnt
                      go_wp2
                      go_quiet ((first | (go_at_call 33; exact quietL (smallL HSM.out)) | (go_at_call 32; first | with_reducible exact quietL (inL HV1.out) | with_reducible exact quietL (inL HC1.out))))
                      go_wp2
                      go_roundw
                      case rel => exact ⟨k + 1, by omega, by go_num, by rw [HSN.out, Int.add_assoc], drawn hwr.out _, by rw [Hid, hgr.out, hnum.out, HK.out]; rfl, by rw [Hid, hgl.out, hlet.out, HLB.out]; rfl⟩
                      case measure => simp [intOf]; omega
            · have hkk : k = L.size := by omega
              have HF : Hid (okT L.data.toList zv zc b = decide (b + S ≤ 120)) := by
                rw [Hid, HY.out (by rw [HLe.out, ← hkk]; exact hlet.out) (by rw [HLe.out, ← hkk]; exact hnum.out), ← HS.out, List.take_of_length_le (by omega)]
              clear hkk hsn hvi hci
              go_wp2
              go_ret
              exact ⟨ret_bool HF.out.symm, hwr.out⟩
      · have HN := hid (okT_counts (l := L.data.toList) (zv := zv) (zc := zc) (b := b) (by rw [HLe.out]; exact hcn))
        have t1 : ((zv.length : Int) != (L.size : Int)) = false := bne_no (by omega)
        have t2 : ((zc.length : Int) != (L.size : Int)) = true := bne_yes (by omega)
        obtain ⟨av, cv, rfl, -⟩ := hv
        obtain ⟨ac, cc, rfl, -⟩ := hc
        clear hvn hcn
        go_enter Tryd.func23, Tryd.ntmps23
        go_wp2_with (go_at_call 32; refine (l00In_any _ _ _ _).mono ?_; rw [HV.out]; rintro e w' ⟨rfl, rfl⟩)
        go_ret
        exact ⟨ret_bool HN.out.symm, 0, rfl⟩
    · have HN := hid (okT_values (l := L.data.toList) (zv := zv) (zc := zc) (b := b) (by rw [HLe.out]; exact hvn))
      have t1 : ((zv.length : Int) != (L.size : Int)) = true := bne_yes (by omega)
      obtain ⟨av, cv, rfl, -⟩ := hv
      clear hvn
      go_enter Tryd.func23, Tryd.ntmps23
      go_wp2_with (go_at_call 32; refine (l00In_any _ _ _ _).mono ?_; rw [HV.out]; rintro e w' ⟨rfl, rfl⟩)
      go_ret
      exact ⟨ret_bool HN.out.symm, 0, rfl⟩

end Go.Proofs.YtaipfampkgpnpaaDoor
