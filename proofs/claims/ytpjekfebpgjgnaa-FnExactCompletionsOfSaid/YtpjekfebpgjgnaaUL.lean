/-
  Whether a function value wants one of some strings: the library's IndexFunc and ContainsFunc; the letters that complete a rack: the program's functions of a letter.
  The letters that complete a rack: both sides.
-/
import Derived.Test.YtpjekfebpgjgnaaUK
import Derived.Test.YtpjekfebpgjgnaaUG
import Derived.Test.YtpjekfebpgjgnaaLK
import Derived.Test.YtpjekfebpgjgnaaOA
import Derived.Test.YtpjekfebpgjgnaaO7
import Derived.Test.YtpjekfebpgjgnaaO9
import Derived.Deep.RegionHeld3
namespace Go.Proofs.Ytpjekfebpgjgnaa
open Go.RowKit

def anyTo (q : ByteArray → Bool) (us : List ByteArray) (k : Nat) : Bool := (us.take k).any q
theorem anyTo_skip {q : ByteArray → Bool} {us : List ByteArray} {k : Nat} (h : k < us.length) (h0 : anyTo q us k = false) (e : q (strAt us k) = false) : anyTo q us (k + 1) = false := by
  unfold anyTo at *
  rw [List.take_succ_eq_append_getElem h, List.any_append, ← strAt_eq h, h0]
  simp [e]
theorem anyTo_hit {q : ByteArray → Bool} {us : List ByteArray} {k : Nat} (h : k < us.length) (e : q (strAt us k) = true) : us.any q = true := by
  rw [List.any_eq_true]
  exact ⟨_, strAt_mem h, e⟩
theorem anyTo_all {q : ByteArray → Bool} {us : List ByteArray} (h : anyTo q us us.length = false) : us.any q = false := by
  unfold anyTo at h
  rwa [List.take_of_length_le (Nat.le_refl _)] at h
set_option maxRecDepth 100000 in
set_option maxHeartbeats 1000000 in
theorem indexFunc_any {v : Value} {us : List ByteArray} {q : ByteArray → Bool} {K : FuncId} {g : Nat} (w : World) (hu : Strs w v us) (hn : us.length ≤ 1048576)
    (hK : ∀ args w, (callFunc K args).run Try.prog w = .ok (.enter K args) w) (hq : Tells K g w us q) :
    Calls Try.prog 153 #[v, .func (.func K) #[] #[.pointer (some ⟨g, 0, none⟩)]] w fun e w' => ∃ n : Int, e = .returned (.int .i64 n) ∧ decide (0 ≤ n) = us.any q ∧ Below w.heap.size w w' := by
  obtain ⟨a, cap, rfl, -, -, hc⟩ := hu
  have HC := ShE.mk hc
  have HQ := ShE.mk hq
  clear hc hq
  go_enter Try.func153, Try.ntmps153
  go_wp2
  go_loopw [5, 8] (fun _ i wr => ∃ k : Nat, k ≤ us.length ∧ i = .int .i64 k ∧ ShE (anyTo q us k = false) ∧ ShE (Below w.heap.size w wr)) (fun _ i _ => us.length - (intOf i).toNat)
  case atStart => exact ⟨0, Nat.zero_le _, rfl, ⟨rfl⟩, ⟨Below.refl _ _⟩⟩
  case round =>
    obtain ⟨k, hk, rfl, hf, hb⟩ := hrel
    by_cases hlt : k < us.length
    · obtain ⟨b, off, rfl, hbl, hcc⟩ := HC.out (by omega)
      have ck := (hb.out.cell (p := ⟨b, off + k, none⟩) hbl).trans (hcc k hlt)
      have HT := ShE.mk (HQ.out k hlt wr hb.out)
      have hS := anyTo_skip (q := q) hlt hf.out
      have hM := anyTo_hit (q := q) hlt
      obtain ⟨y, hy⟩ : ∃ y, strAt us k = y := ⟨_, rfl⟩
      rw [hy] at ck HT hS hM
      clear hcc hy
      cases hqy : q y
      · have HE := ShE.mk (hS hqy)
        rw [hqy] at HT
        clear hS hM hqy
        go_wp2_with fail
        refine HT.out.mono ?_
        rintro e w3 ⟨rfl, hb3⟩
        have HB3 := ShE.mk (hb.out.trans (hb3.mono hb.out.size))
        clear hb3 ck
        go_wp2
        go_roundw
        case rel => exact ⟨k + 1, by omega, by go_num, HE, HB3⟩
        case measure => simp [intOf]; omega
      · have HE := ShE.mk (hM hqy)
        rw [hqy] at HT
        clear hS hM hqy
        go_wp2_with fail
        refine HT.out.mono ?_
        rintro e w3 ⟨rfl, hb3⟩
        have HB3 := ShE.mk (hb.out.trans (hb3.mono hb.out.size))
        clear hb3 ck
        go_wp2
        go_ret
        exact ⟨_, rfl, by rw [HE.out]; exact decide_eq_true (by omega), HB3.out⟩
    · obtain rfl : k = us.length := by omega
      have HE := ShE.mk (anyTo_all hf.out)
      go_wp2
      go_ret
      exact ⟨_, rfl, by rw [HE.out]; rfl, hb.out⟩
theorem containsFunc_any {v : Value} {us : List ByteArray} {q : ByteArray → Bool} {K : FuncId} {g : Nat} (w : World) (hu : Strs w v us) (hn : us.length ≤ 1048576)
    (hK : ∀ args w, (callFunc K args).run Try.prog w = .ok (.enter K args) w) (hq : Tells K g w us q) :
    Calls Try.prog 105 #[v, .func (.func K) #[] #[.pointer (some ⟨g, 0, none⟩)]] w fun e w' => e = .returned (.bool (us.any q)) ∧ Below w.heap.size w w' := by
  have HU := ShE.mk hu
  have HK := ShE.mk hK
  have HQ := ShE.mk hq
  obtain ⟨a, cap, rfl, -⟩ := hu
  clear hq
  go_enter Try.func105, Try.ntmps105
  go_wp2_with fail
  refine (indexFunc_any _ HU.out hn HK.out HQ.out).mono ?_
  rintro e w1 ⟨n, rfl, hd, hb⟩
  have HD := ShE.mk hd
  clear hd
  go_wp2
  go_ret
  exact ⟨ret_bool HD.out, hb⟩

/-! ### A rack and a letter more -/
/-- The tiles of a rack and a letter more. -/
def moreP (r : ByteArray) (k : Nat) : ByteArray := txt (sortL (r.data.toList ++ [letU k]))
def compQ (r : ByteArray) (k : Nat) (x : ByteArray) : Bool := decide (x.size = r.size + 1) && canL (moreP r k).data.toList x.data.toList
def compB (us : List ByteArray) (r : ByteArray) (k : Nat) : Bool := us.any (compQ r k)
def compOut (us : List ByteArray) (r : ByteArray) : ByteArray × Int := if okL us = true ∧ rackB r = true then (⟨(letsTo (compB us r) 26).toArray⟩, 0) else (⟨#[]⟩, 1)
theorem compOut_yes {us : List ByteArray} {r : ByteArray} (h : okL us = true) (h2 : rackB r = true) : compOut us r = (⟨(letsTo (compB us r) 26).toArray⟩, 0) := if_pos ⟨h, h2⟩
theorem compOut_no1 {us : List ByteArray} {r : ByteArray} (h : okL us = false) : compOut us r = (⟨#[]⟩, 1) := if_neg (fun h' => by rw [h] at h'; cases h'.1)
theorem compOut_no2 {us : List ByteArray} {r : ByteArray} (h : rackB r = false) : compOut us r = (⟨#[]⟩, 1) := if_neg (fun h' => by rw [h] at h'; cases h'.2)
theorem rack_pile {r : ByteArray} (h : rackB r = true) : pileB r.data.toList = true ∧ r.size ≤ 7 := by
  unfold rackB at h
  simp only [Bool.and_eq_true, decide_eq_true_eq] at h
  exact h
theorem letter_pile : ∀ k, k < 26 → pileB [letU k] = true := by decide +kernel
theorem rack_more {r : ByteArray} (h : rackB r = true) {k : Nat} (hk : k < 26) : allTiles (r.data.toList ++ [letU k]) = true := by
  rw [tiles_cat, (pileB_iff.1 (rack_pile h).1).1, (pileB_iff.1 (letter_pile k hk)).1]; rfl
theorem more_size {r : ByteArray} (h : rackB r = true) {k : Nat} (hk : k < 26) : (moreP r k).size = r.size + 1 := by
  unfold moreP
  rw [txt_size, sortL_len (rack_more h hk)]
  simp
theorem more_pile {r : ByteArray} (h : rackB r = true) {k : Nat} (hk : k < 26) : pileB (moreP r k).data.toList = true := by
  have hl : (sortL (r.data.toList ++ [letU k])).length ≤ 120 := by
    rw [sortL_len (rack_more h hk)]
    have := (rack_pile h).2
    simp
    omega
  rw [show (moreP r k).data.toList = sortL (r.data.toList ++ [letU k]) from rfl, pileB_iff]
  exact ⟨sortL_tiles _, sortL_asc _, hl⟩
theorem add_more {r : ByteArray} (h : rackB r = true) {k : Nat} (hk : k < 26) : addOut r.data.toList (letS k).data.toList = (sortL (r.data.toList ++ [letU k]), 0) := by
  have h7 := (rack_pile h).2
  refine addOut_yes (rack_pile h).1 (letter_pile k hk) ?_
  have : r.data.toList.length = r.size := len_list r
  have h1 : (letS k).data.toList.length = 1 := rfl
  omega
theorem canI {p s : ByteArray} {b : Bool} (h : canL p.data.toList s.data.toList = b) (w : World) (hp : p.size ≤ 1048576) (hs : s.size ≤ 1048576) (hpl : pileB p.data.toList = true) (hw : isWordB s.data.toList = true) :
    Calls Try.prog 107 #[.string p, .string s] w fun e w' => e = .returned (.bool b) ∧ Below w.heap.size w w' := by
  have := implCanMake_any p s w hp hs
  rw [canB_yes hpl hw, h] at this
  exact this
theorem completes_tells {g : Nat} {p : ByteArray} {us : List ByteArray} (W : World) (hg : Blk W g 9 #[.string p]) (hw : ∀ k, k < us.length → isWordB (strAt us k).data.toList = true) (hp : p.size ≤ 1048576) (hpl : pileB p.data.toList = true) : Tells 106 g W us (fun x => canL p.data.toList x.data.toList) := by
  intro k hk wr hb
  have c0 := (hg.kept hb hg.lt).cells
  have HW := ShE.mk (hw k hk)
  have hs12 := isWordB_size (hw k hk)
  obtain ⟨y, hy⟩ : ∃ y, strAt us k = y := ⟨_, rfl⟩
  rw [hy] at HW hs12 ⊢
  go_enter Try.func106, Try.ntmps106
  go_wp2_with fail
  refine (canI rfl _ hp (by omega) hpl HW.out).mono ?_
  rintro e w' ⟨rfl, hb'⟩
  go_wp2
  go_ret
  exact ⟨rfl, hb'⟩
theorem completes_enters : ∀ args w, (callFunc 106 args).run Try.prog w = .ok (.enter 106 args) w := enters_of Try.func106 (by kernel_rfl) rfl
theorem completeOne_enters : ∀ args w, (callFunc 103 args).run Try.prog w = .ok (.enter 103 args) w := enters_of Try.func103 (by kernel_rfl) rfl
set_option maxRecDepth 100000 in
set_option maxHeartbeats 1000000 in
theorem completeOne_any {rb wb : Nat} {r : ByteArray} {v : Value} {os : List ByteArray} (w : World) (hr : Blk w rb 9 #[.string r]) (hv : Blk w wb 24 #[v]) (ho : Strs w v os) (hn : os.length ≤ 200)
    (hos : ∀ k, k < os.length → isWordB (strAt os k).data.toList = true) (hrk : rackB r = true) :
    TellsL 103 (.pointer (some ⟨rb, 0, none⟩)) (.pointer (some ⟨wb, 0, none⟩)) w (fun k => os.any fun x => canL (moreP r k).data.toList x.data.toList) := by
  intro k hk wr hb
  have c0 := (hr.kept hb hr.lt).cells
  have HV := ShE.mk (hv.kept hb hv.lt)
  have HO := ShE.mk (ho.below hb)
  have HA := ShE.mk (add_more hrk hk)
  have HMP := ShE.mk (more_pile hrk hk)
  have HOS := ShE.mk hos
  have h7 := (rack_pile hrk).2
  have HMS := ShE.mk (more_size hrk hk)
  have hms : (moreP r k).size ≤ 1048576 := by rw [more_size hrk hk]; omega
  have hl1 := letS_size k
  have HM := ShE.mk (show moreP r k = txt (sortL (r.data.toList ++ [letU k])) from rfl)
  obtain ⟨M, hM⟩ : ∃ M, moreP r k = M := ⟨_, rfl⟩
  rw [hM] at HMP HMS hms HM
  show Calls _ _ _ _ fun e w' => e = .returned (.bool (os.any fun x => canL (moreP r k).data.toList x.data.toList)) ∧ _
  rw [hM]
  have HAD := ShE.mk (fun W => implAddTiles_any r (letS k) W (by omega) (by omega))
  rw [HA.out] at HAD
  have HRT := ShE.mk (show ret2 (sortL (r.data.toList ++ [letU k]), 0) = .tuple #[.string M, .int .i64 0] by rw [HM.out]; rfl)
  rw [HRT.out] at HAD
  obtain ⟨Y, hY⟩ : ∃ Y, letS k = Y := ⟨_, rfl⟩
  rw [hY] at HAD hl1 ⊢
  clear hY hM hos hrk hr hv ho hb
  go_enter Try.func103, Try.ntmps103
  go_wp2_with fail
  refine (HAD.out _).mono ?_
  rintro e w1 ⟨rfl, hb1⟩
  have HP := ShE.mk (Blk.made w1 9 #[.string M])
  have HB1 := ShE.mk (hb1.alloc hb1.size (.cells #[.string M] 9))
  have HV1 := ShE.mk ((HV.out.kept hb1 HV.out.lt).alloc (.cells #[.string M] 9))
  have c1 := HV1.out.cells
  have HO1 := ShE.mk ((HO.out.below hb1).alloc (.cells #[.string M] 9))
  clear c0 hb1
  go_wp2_with fail
  refine (containsFunc_any _ HO1.out (by omega) completes_enters (completes_tells _ HP.out HOS.out hms HMP.out)).mono ?_
  rintro e w2 ⟨rfl, hb2⟩
  go_wp2
  go_ret
  exact ⟨rfl, HB1.out.trans (hb2.mono HB1.out.size)⟩
end Go.Proofs.Ytpjekfebpgjgnaa

namespace Go.Proofs.Ytpjekfebpgjgnaa
open Go.RowKit

theorem rackF {r : ByteArray} {b : Bool} (h : rackB r = b) (w : World) (hs : r.size ≤ 1048576) : Calls Try.prog 108 #[.string r] w fun e w' => e = .returned (.bool b) ∧ Below w.heap.size w w' := by
  rw [← h]; exact l03Rack_any r w hs
theorem rackI {r : ByteArray} {b : Bool} (h : rackB r = b) (w : World) (hs : r.size ≤ 1048576) : Calls Try.prog 99 #[.string r] w fun e w' => e = .returned (.bool b) ∧ Below w.heap.size w w' := by
  rw [← h]; exact implValidRack_any r w hs
theorem compB_no {us : List ByteArray} {r : ByteArray} {k : Nat} (h : anyTo (compQ r k) us us.length = false) : compB us r k = false := anyTo_all h
set_option maxRecDepth 100000 in
set_option maxHeartbeats 4000000 in
theorem specCompletionsOf_any {v : Value} {us : List ByteArray} (r : ByteArray) (W : World) (hu : Strs W v us) (hz : ∀ s ∈ us, s.size ≤ maxLen) (hr : r.size ≤ 1048576) :
    Calls Try.prog 46 #[.agg #[v], .string r] W fun e w' => e = .returned (retT (compOut us r)) ∧ Below W.heap.size W w' := by
  have HG := ShE.mk (LexAt.made hu)
  have HB := ShE.mk ((Below.refl W.heap.size W).alloc (Nat.le_refl _) (.cells #[v] 26))
  obtain ⟨aa, ac, rfl, -, -, hc⟩ := hu
  have HC := ShE.mk hc
  clear hc
  cases hok : okL us
  · have HA := ShE.mk (compOut_no1 (r := r) hok)
    have HO := ShE.mk hok
    clear hok
    go_enter Try.func46, Try.ntmps46
    go_wp2_with fail
    refine (ok_is HO.out _ HG.out hz).mono ?_
    rintro e w1 ⟨rfl, k, rfl⟩
    go_wp2
    go_ret2
    rw [HA.out]
    exact ⟨rfl, below_drewN HB.out k⟩
  · cases hrk : rackB r
    · have HA := ShE.mk (compOut_no2 (us := us) hrk)
      have HO := ShE.mk hok
      have HR := ShE.mk hrk
      clear hok hrk
      go_enter Try.func46, Try.ntmps46
      go_wp2_with fail
      refine (ok_is HO.out _ HG.out hz).mono ?_
      rintro e w1 ⟨rfl, k, hw1⟩
      have HB1 := ShE.mk (show Below W.heap.size W w1 by rw [hw1]; exact below_drewN HB.out k)
      clear hw1
      go_wp2_with fail
      refine (rackF HR.out _ hr).mono ?_
      rintro e w2 ⟨rfl, hb2⟩
      go_wp2
      go_ret2
      rw [HA.out]
      exact ⟨rfl, HB1.out.trans (hb2.mono HB1.out.size)⟩
    · have HA := ShE.mk (compOut_yes hok hrk)
      have HO := ShE.mk hok
      have HR := ShE.mk hrk
      have h7 := (rack_pile hrk).2
      have hn := okL_size hok
      have HLW := ShE.mk (fun (k : Nat) (hk : k < us.length) => long_word (long_small hok hk).1)
      clear hok hrk
      go_enter Try.func46, Try.ntmps46
      go_wp2_with fail
      refine (ok_is HO.out _ HG.out hz).mono ?_
      rintro e w1 ⟨rfl, k, hw1⟩
      have HB1 := ShE.mk (show Below W.heap.size W w1 by rw [hw1]; exact below_drewN HB.out k)
      have HG1 := ShE.mk (show LexAt w1 W.heap.size _ us by rw [hw1]; exact HG.out.drewN k)
      clear hw1
      go_wp2_with fail
      refine (rackF HR.out _ hr).mono ?_
      rintro e w2 ⟨rfl, hb2⟩
      have HB2 := ShE.mk (HB1.out.trans (hb2.mono HB1.out.size))
      have HG2 := ShE.mk (HG1.out.belowG hb2)
      have HBW : ∀ {wq : World}, Below w2.heap.size w2 wq → Below W.heap.size W wq := fun h => HB2.out.trans (h.mono HB2.out.size)
      clear hb2
      go_wp2
      go_loopw [6, 7, 8, 9, 10] (fun o c _ _ _ wr => ∃ k : Nat, k ≤ 26 ∧ c = .int .u8 ((97 + k : Nat) : Int) ∧ ShE (o = .string ⟨(letsTo (compB us r) k).toArray⟩) ∧ ShE (Below w2.heap.size w2 wr)) (fun _ c _ _ _ _ => 123 - (RowKit.intOf c).toNat)
      case atStart => exact ⟨0, Nat.zero_le _, rfl, ⟨rfl⟩, ⟨Below.refl _ _⟩⟩
      case round =>
        obtain ⟨k, hk, rfl, ⟨ho⟩, hb⟩ := hrel
        subst ho
        by_cases hlt : k < 26
        · have hcv := one_letter wr k
          have HB3 := ShE.mk (hb.out.alloc hb.out.size (.cells #[.int .u8 ((97 + k : Nat) : Int)] 5))
          have HLN := letsTo_len (compB us r) k
          have hS := letsTo_skip (q := compB us r) (n := k)
          have hM := letsTo_more (q := compB us r) (n := k)
          have HLM := ShE.mk (lets_more (letsTo (compB us r) k) k)
          have hl1 := letS_size k
          have hsz2 : ((⟨(letsTo (compB us r) k).toArray⟩ : ByteArray)).size ≤ 26 := by simp [ByteArray.size]; omega
          have HSO := ShE.mk (fun W => l03Sort_cat (a := r) (b := letS k) (X := sortL (r.data.toList ++ [letU k])) rfl W (by rw [letS_size]; omega) (rack_more HR.out hlt))
          have HMS := ShE.mk (more_size HR.out hlt)
          have HCQ := ShE.mk (fun x => show compQ r k x = (decide (x.size = r.size + 1) && canL (moreP r k).data.toList x.data.toList) from rfl)
          have HMD := ShE.mk (show txt (sortL (r.data.toList ++ [letU k])) = moreP r k from rfl)
          rw [HMD.out] at HSO
          obtain ⟨M, hMM⟩ : ∃ M, moreP r k = M := ⟨_, rfl⟩
          rw [hMM] at HSO HMS HCQ
          obtain ⟨S, hS0⟩ : ∃ S : ByteArray, ⟨(letsTo (compB us r) k).toArray⟩ = S := ⟨_, rfl⟩
          rw [hS0] at HLM hsz2 ⊢
          have HS0 := ShE.mk hS0
          obtain ⟨Y, hY⟩ : ∃ Y, letS k = Y := ⟨_, rfl⟩
          rw [hY] at hcv HLM hl1 HSO
          have hle : ((97 + k : Nat) : Int) ≤ 122 := by omega
          have hw1 : ((97 + k : Nat) : Int) + 1 = ((97 + (k + 1) : Nat) : Int) := by omega
          have hw2 : ((97 + k : Nat) : Int) + 1 < 256 := by omega
          have hw3 : (0 : Int) ≤ ((97 + k : Nat) : Int) := by omega
          have HW1 := ShE.mk hw1
          obtain ⟨C, hC⟩ : ∃ C : Int, ((97 + k : Nat) : Int) = C := ⟨_, rfl⟩
          rw [hC] at hcv hle hw2 hw3 HB3 HW1 ⊢
          have g1 : ¬ 9223372036854775807 < r.size + Y.size := by omega
          have g3 : ¬ 9223372036854775807 < S.size + Y.size := by omega
          have HSK := ShE.mk (fun (h : compB us r k = false) => (show letsTo (compB us r) (k + 1) = letsTo (compB us r) k from hS h))
          have HMO := ShE.mk (fun (h : compB us r k = true) => (show letsTo (compB us r) (k + 1) = letsTo (compB us r) k ++ [letU k] from hM h))
          have HCM := ShE.mk (show 123 - (RowKit.intOf (.int .u8 C)).toNat = 123 - C.toNat by simp [RowKit.intOf])
          clear hS hM hY hS0 hC hw1 hMM hb HMD
          go_wp2_with fail
          refine (HSO.out _).mono ?_
          rintro e w3 ⟨rfl, hb3⟩
          have HB4 := ShE.mk (HB3.out.trans (hb3.mono HB3.out.size))
          clear hb3 hcv HB3
          go_wp2
          go_loopw [6, 10] (fun o i wq => ∃ j : Nat, j ≤ us.length ∧ i = .int .i64 j ∧ o = .string S ∧ ShE (anyTo (compQ r k) us j = false) ∧ ShE (Below w2.heap.size w2 wq)) (fun _ i _ => us.length - (RowKit.intOf i).toNat)
          case atStart => exact ⟨0, Nat.zero_le _, rfl, rfl, ⟨rfl⟩, HB4⟩
          case round =>
            obtain ⟨j, hj, rfl, rfl, hf, hbq⟩ := hrel
            have c0 := (HG2.out.belowG hbq.out).blk.cells
            by_cases hlj : j < us.length
            · obtain ⟨b, off, hab, hbl, hcc⟩ := HC.out (by omega)
              have ck := (HBW hbq.out).cell (p := ⟨b, off + j, none⟩) hbl
              rw [hcc j hlj] at ck
              subst hab
              have hS := anyTo_skip (q := compQ r k) hlj hf.out
              have hM := anyTo_hit (q := compQ r k) hlj
              have hwd := HLW.out j hlj
              obtain ⟨y, hy⟩ : ∃ y, strAt us j = y := ⟨_, rfl⟩
              rw [hy] at ck hS hM hwd
              have HWD := ShE.mk hwd
              have hy12 := isWordB_size hwd
              have HQ := ShE.mk (HCQ.out y)
              clear hcc hy hwd hf
              by_cases hsz : y.size = r.size + 1
              · have hbn : ((y.size : Int) == (M.size : Int)) = true := beq_iff_eq.2 (by have := HMS.out; omega)
                rw [decide_eq_true hsz, Bool.true_and] at HQ
                have hMle : M.size ≤ 1048576 := by have := HMS.out; omega
                cases hcan : canL M.data.toList y.data.toList
                · have HE := ShE.mk (hS (HQ.out.trans hcan))
                  have HCN := ShE.mk hcan
                  clear hS hM hsz hcan
                  go_wp2_with fail
                  refine (can_is HCN.out _ hMle (by omega) HWD.out).mono ?_
                  rintro e w5 ⟨rfl, hb5⟩
                  have HB5 := ShE.mk (hbq.out.trans (hb5.mono hbq.out.size))
                  clear hb5 c0 ck
                  go_wp2
                  go_roundw
                  case rel => exact ⟨j + 1, by omega, by go_num, rfl, HE, HB5⟩
                  case measure => simp [RowKit.intOf]; omega
                · have HE := ShE.mk (HMO.out (hM (HQ.out.trans hcan)))
                  have HCN := ShE.mk hcan
                  clear hS hM hsz hcan
                  go_wp2_with fail
                  refine (can_is HCN.out _ hMle (by omega) HWD.out).mono ?_
                  rintro e w5 ⟨rfl, hb5⟩
                  have HB5 := ShE.mk (hbq.out.trans (hb5.mono hbq.out.size))
                  clear hb5 c0 ck
                  go_wp2
                  go_roundw
                  case rel => exact ⟨k + 1, by omega, by first | rfl | (rw [← HW1.out]) | go_num, ⟨by rw [HE.out, ← HLM.out]⟩, HB5⟩
                  case measure => simp [RowKit.intOf]; omega
              · have hbn : ((y.size : Int) == (M.size : Int)) = false := beq_eq_false_iff_ne.2 (by have := HMS.out; omega)
                have HE := ShE.mk (hS (HQ.out.trans (by rw [decide_eq_false hsz, Bool.false_and])))
                clear hS hM hsz
                go_wp2
                go_roundw
                case rel => exact ⟨j + 1, by omega, by go_num, rfl, HE, hbq⟩
                case measure => simp [RowKit.intOf]; omega
            · obtain rfl : j = us.length := by omega
              have HE := ShE.mk (HSK.out (compB_no hf.out))
              go_wp2
              go_roundw
              case rel => exact ⟨k + 1, by omega, by first | rfl | (rw [← HW1.out]) | go_num, ⟨by rw [HE.out, HS0.out]⟩, hbq⟩
              case measure => simp [RowKit.intOf]; omega
        · obtain rfl : k = 26 := by omega
          go_wp2
          go_ret2
          rw [HA.out]
          exact ⟨rfl, HB2.out.trans (hb.out.mono HB2.out.size)⟩

/-! ### The program's -/
theorem comp_pick (us : List ByteArray) (r : ByteArray) (k : Nat) : (pickTo (sizeQ (.int .i64 ((r.size : Int) + 1))) us us.length).any (fun x => canL (moreP r k).data.toList x.data.toList) = compB us r k := by
  unfold pickTo compB
  rw [List.take_of_length_le (Nat.le_refl _), List.any_filter]
  congr 1
  funext x
  unfold compQ sizeQ
  congr 1
  exact decide_eq_decide.2 (by omega)
theorem pick_words {us : List ByteArray} {q : ByteArray → Bool} (h : okL us = true) (k : Nat) (hk : k < (pickTo q us us.length).length) : isWordB (strAt (pickTo q us us.length) k).data.toList = true := by
  have hm := strAt_mem hk
  obtain ⟨y, hy⟩ : ∃ y, strAt (pickTo q us us.length) k = y := ⟨_, rfl⟩
  rw [hy] at hm ⊢
  unfold pickTo at hm
  have hu := (List.mem_filter.1 hm).1
  rw [List.take_of_length_le (Nat.le_refl _)] at hu
  obtain ⟨j, hj, e⟩ := List.mem_iff_getElem.1 hu
  rw [← e, ← strAt_eq hj]
  exact long_word (long_small h hj).1
theorem len_on (r : ByteArray) (w0 W : World) (hb : Below w0.heap.size w0 W) (hr : r.size ≤ 1048576) : Calls Try.prog 101 #[.string r] W fun e w' => e = .returned (.int .i64 (r.size : Int)) ∧ Below w0.heap.size w0 w' ∧ Below W.heap.size W w' :=
  (lengthOf_any r W hr).mono fun _ _ ⟨h1, h2⟩ => ⟨h1, by rw [← h2]; exact hb, by rw [← h2]; exact Below.refl _ _⟩
theorem wol_on {v : Value} {us os : List ByteArray} {n : Int} (ho : pickTo (sizeQ (.int .i64 n)) us us.length = os) (hok : okL us = true) (w0 W : World) (hb : Below w0.heap.size w0 W) (hu : Strs w0 v us) (hz : ∀ s ∈ us, s.size ≤ maxLen) (hw : (Lit.int .i64 n).wf = true) :
    Calls Try.prog 100 #[.agg #[v], .int .i64 n] W fun e w' => ∃ a m c, e = .returned (.tuple #[.slice a m c, .int .i64 0]) ∧ OwnS W.heap.size w' (.slice a m c) os ∧ Below w0.heap.size w0 w' ∧ Below W.heap.size W w' :=
  (implWordsOfLength_any n W (hu.below hb) hz hw).mono fun _ _ ⟨v0, h1, h2, h3⟩ => by
    rw [lenOut_yes hok, ho] at h1 h2
    obtain ⟨a, c, rfl, -⟩ := own_form h2
    exact ⟨a, _, c, h1, h2, hb.trans (h3.mono hb.size), h3⟩
theorem made_keptU {w X y : World} {t : TypeId} (hX : (w.alloc (.cells #[.slice none 0 0] t)) = X ∨ (w.alloc (.cells #[.slice none 0 0] t)).drew = X) (hb : Below X.heap.size X y) : Blk y w.heap.size t #[.slice none 0 0] := by
  rcases hX with rfl | rfl
  · exact (Blk.made w t #[.slice none 0 0]).kept hb (by simp)
  · exact (Blk.drew (Blk.made w t #[.slice none 0 0])).kept hb (Blk.drew (Blk.made w t #[.slice none 0 0])).lt
set_option maxRecDepth 100000 in
set_option maxHeartbeats 4000000 in
theorem implCompletionsOf_any {v : Value} {us : List ByteArray} (r : ByteArray) (W : World) (hu : Strs W v us) (hz : ∀ s ∈ us, s.size ≤ maxLen) (hr : r.size ≤ 1048576) :
    Calls Try.prog 45 #[.agg #[v], .string r] W fun e w' => e = .returned (retT (compOut us r)) ∧ Below W.heap.size W w' := by
  have HG := ShE.mk ((LexAt.made hu).belowG ((Below.refl _ _).alloc (Nat.le_refl _) (.cells #[.string r] 9)))
  have hg := Blk.made (W.alloc (.cells #[v] 26)) 9 #[.string r]
  rw [World.size_alloc] at hg
  have HS := ShE.mk hg
  have HB := ShE.mk (((Below.refl W.heap.size W).alloc (Nat.le_refl _) (.cells #[v] 26)).alloc (by simp) (.cells #[.string r] 9))
  have c0 := HG.out.blk.cells
  have c1 := HS.out.cells
  obtain ⟨aa, ac, rfl, -⟩ := hu
  clear hg
  cases hok : okL us
  · have HA := ShE.mk (compOut_no1 (r := r) hok)
    have HO := ShE.mk hok
    clear hok
    go_enter Try.func45, Try.ntmps45
    go_wp2_with fail
    refine (valid_on HO.out _ HG.out.strs hz).mono ?_
    rintro e w1 ⟨rfl, hb1⟩
    go_wp2
    go_ret2
    rw [HA.out]
    exact ⟨rfl, HB.out.trans (hb1.mono HB.out.size)⟩
  · cases hrk : rackB r
    · have HA := ShE.mk (compOut_no2 (us := us) hrk)
      have HO := ShE.mk hok
      have HR := ShE.mk hrk
      clear hok hrk
      go_enter Try.func45, Try.ntmps45
      go_wp2_with fail
      refine (valid_on HO.out _ HG.out.strs hz).mono ?_
      rintro e w1 ⟨rfl, hb1⟩
      have HB1 := ShE.mk (HB.out.trans (hb1.mono HB.out.size))
      have c2 := (HS.out.kept hb1 HS.out.lt).cells
      clear c0 c1 hb1
      go_wp2_with fail
      refine (rackI HR.out _ hr).mono ?_
      rintro e w2 ⟨rfl, hb2⟩
      go_wp2
      go_ret2
      rw [HA.out]
      exact ⟨rfl, HB1.out.trans (hb2.mono HB1.out.size)⟩
    · have HA := ShE.mk (compOut_yes hok hrk)
      have HO := ShE.mk hok
      have HR := ShE.mk hrk
      have h7 := (rack_pile hrk).2
      have hn := okL_size hok
      obtain ⟨os, hos⟩ : ∃ os, pickTo (sizeQ (.int .i64 ((r.size : Int) + 1))) us us.length = os := ⟨_, rfl⟩
      have HOS := ShE.mk hos
      have HOW := ShE.mk (fun k hk => show isWordB (strAt os k).data.toList = true by rw [← hos]; exact pick_words hok k (by rw [hos]; exact hk))
      have HON := ShE.mk (show os.length ≤ 200 by rw [← hos]; exact Nat.le_trans (pickTo_len _ us us.length) hn)
      have HQQ := ShE.mk (show (fun k => os.any fun x => canL (moreP r k).data.toList x.data.toList) = compB us r from funext fun k => by rw [← hos]; exact comp_pick us r k)
      have HWF := ShE.mk (show (Lit.int .i64 ((r.size : Int) + 1)).wf = true from WalkArith.wf_i64 (by omega))
      have HWR := ShE.mk (show IntKind.i64.wrap ((r.size : Int) + 1) = (r.size : Int) + 1 from IntWalk.i64_in _ (by omega))
      clear hok hrk hos
      go_enter Try.func45, Try.ntmps45
      go_wp2_with fail
      refine (valid_on HO.out _ HG.out.strs hz).mono ?_
      rintro e w1 ⟨rfl, hb1⟩
      have HB1 := ShE.mk (HB.out.trans (hb1.mono HB.out.size))
      have HS1 := ShE.mk (HS.out.kept hb1 HS.out.lt)
      have HG1 := ShE.mk (HG.out.belowG hb1)
      have c2 := HS1.out.cells
      clear c0 c1 hb1
      go_wp2_with fail
      refine (rackI HR.out _ hr).mono ?_
      rintro e w2 ⟨rfl, hb2⟩
      have HB2 := ShE.mk (HB1.out.trans (hb2.mono HB1.out.size))
      have HS2 := ShE.mk (HS1.out.kept hb2 HS1.out.lt)
      have HG2 := ShE.mk (HG1.out.belowG hb2)
      clear c2 hb2
      go_upto_region 3 with fail
      go_cut [6, 7] (fun sp sc wx => ∃ g a n c, sp = .pointer (some ⟨g, 0, none⟩) ∧ sc = .int .i64 0 ∧ ShE (Blk wx g 24 #[.slice a n c]) ∧ ShE (OwnS w2.heap.size wx (.slice a n c) os) ∧ ShE (Below w2.heap.size w2 wx))
      case first =>
        have HK := ShE.mk (fun w' (hb : Below w2.heap.size w2 w') => (⟨(HG2.out.blk.kept hb HG2.out.blk.lt).cells 0, (HS2.out.kept hb HS2.out.lt).cells 0⟩ : w'.cell? ⟨W.heap.size, 0, none⟩ = some (.slice aa us.length ac) ∧ w'.cell? ⟨W.heap.size + 1, 0, none⟩ = some (.string r)))
        have hr2 : r.size ≤ 1048576 := hr
        go_region_held3 (fun w' => w'.cell? ⟨W.heap.size, 0, none⟩ = some (.slice aa us.length ac) ∧ w'.cell? ⟨W.heap.size + 1, 0, none⟩ = some (.string r))
          (exact HK.out _ (by first | assumption | exact (Below.refl _ _).drew | exact ((Below.refl _ _).alloc (Nat.le_refl _) _).drew | exact Below.alloc (by assumption) (Below.size (by assumption)) _ | exact Below.setCell (by assumption) (by first | exact Nat.le_refl _ | exact Below.size (by assumption)) _ | exact Below.setCell (Below.alloc (by assumption) (Below.size (by assumption)) _) (by first | exact Nat.le_refl _ | exact Below.size (by assumption)) _))
          (first
            | (go_at_call 101; with_reducible refine (len_on r w2 _ (by first | assumption | exact (Below.refl _ _).drew | exact ((Below.refl _ _).alloc (Nat.le_refl _) _).drew | exact Below.alloc (by assumption) (Below.size (by assumption)) _) hr2).mono ?_; rintro e ya ⟨rfl, hba, hca⟩; (first | (have qa := made_keptU (t := 24) (.inl rfl) hca; have cqa := qa.cells; have mqa := qa.marks) | (have qa := made_keptU (t := 24) (.inr rfl) hca; have cqa := qa.cells; have mqa := qa.marks) | skip))
            | (go_at_call 100; rw [HWR.out]; refine (wol_on HOS.out HO.out w2 _ (by first | assumption | exact (Below.refl _ _).drew | exact ((Below.refl _ _).alloc (Nat.le_refl _) _).drew | exact Below.alloc (by assumption) (Below.size (by assumption)) _) HG2.out.strs hz HWF.out).mono ?_; rintro e y3 ⟨a3, n3, c3, rfl, hs3, hb3, hc3⟩; (first | (have q3 := made_keptU (t := 24) (.inl rfl) hc3; have cq3 := q3.cells; have mq3 := q3.marks) | (have q3 := made_keptU (t := 24) (.inr rfl) hc3; have cq3 := q3.cells; have mq3 := q3.marks) | (have q3 := Blk.kept (show Blk _ _ 24 #[.slice none 0 0] by assumption) hc3 (Blk.lt (by assumption)); have cq3 := q3.cells; have mq3 := q3.marks) | skip)))
        all_goals
          go_wp2_with fail
          go_meet
          first
            | exact ⟨_, _, _, _, rfl, rfl, ⟨Blk.made _ _ _⟩, ⟨OwnS.lower (OwnS.kept hs3 ((Below.refl _ _).alloc (Nat.le_refl _) _)) (by first | exact Nat.le_refl _ | exact hba.size | simp)⟩, ⟨Below.alloc (by assumption) (Below.size (by assumption)) _⟩⟩
            | exact ⟨_, _, _, _, rfl, rfl, ⟨q3.stored 0 _⟩, ⟨OwnS.lower (OwnS.off hs3 (by first | simp | exact Blk.lt (by assumption)) 0 _) (by first | exact Nat.le_refl _ | exact hba.size | exact Nat.le_trans hba.size (by simp) | simp)⟩, ⟨Below.setCell (by assumption) (by first | exact Nat.le_refl _ | exact Below.size (by assumption)) _⟩⟩
      case rest =>
        obtain ⟨g, a, n, c, rfl, rfl, blk, own, bel⟩ := hcut
        have HS3 := ShE.mk (HS2.out.kept bel.out HS2.out.lt)
        have HB3 := ShE.mk (HB2.out.trans (bel.out.mono HB2.out.size))
        go_wp2_with fail
        refine (lettersWith_any _ completeOne_enters (completeOne_any _ HS3.out blk.out own.out.strs HON.out HOW.out HR.out)).mono ?_
        rw [HQQ.out]
        rintro e w4 ⟨rfl, hb4⟩
        go_wp2
        go_ret2
        rw [HA.out]
        exact ⟨rfl, HB3.out.trans (hb4.mono HB3.out.size)⟩
end Go.Proofs.Ytpjekfebpgjgnaa
