/-
  What makes a grammar valid: the model's search and its stems.
-/
import Derived.Test.YtilagppmljpclaaHB
import Derived.Test.YtilagppmljpclaaF4
import Derived.Test.YtilagppmljpclaaH5
namespace Go.Proofs.Ytilagppmljpclaa
open Go.RowKit

/-- The first affix with a name, among the first k; -1 if there is none. -/
def findTo (xs : List Aff) (name : ByteArray) : Nat → Int
  | 0 => -1
  | k + 1 => if knowsTo xs name k = true then findTo xs name k else if ((affG xs k).n.toList == name.toList) = true then (k : Int) else -1
theorem find_none {xs : List Aff} {name : ByteArray} : ∀ {k : Nat}, knowsTo xs name k = false → findTo xs name k = -1
  | 0, _ => rfl
  | k + 1, h => by
    unfold knowsTo at h
    rw [Bool.or_eq_false_iff] at h
    unfold findTo
    rw [if_neg (by rw [h.1]; exact fun e => by cases e), if_neg (by rw [h.2]; exact fun e => by cases e)]
theorem find_at {xs : List Aff} {name : ByteArray} {i : Nat} (h : knowsTo xs name i = false) (he : ((affG xs i).n.toList == name.toList) = true) : ∀ {k : Nat}, i < k → findTo xs name k = (i : Int)
  | 0, hk => absurd hk (by omega)
  | k + 1, hk => by
    unfold findTo
    rcases Nat.lt_or_ge i k with h1 | h1
    · rw [if_pos (knowsTo_mono h1 he)]
      exact find_at h he h1
    · obtain rfl : i = k := by omega
      rw [if_neg (by rw [h]; exact fun e => by cases e), if_pos he]
theorem find_old {xs : List Aff} {name : ByteArray} {i : Nat} : ∀ {k : Nat}, knowsTo xs name i = true → i ≤ k → 0 ≤ findTo xs name k ∧ findTo xs name k < (i : Int)
  | 0, h, hk => by
    obtain rfl : i = 0 := by omega
    simp [knowsTo] at h
  | k + 1, h, hk => by
    rcases Nat.lt_or_ge i (k + 1) with h1 | h1
    · have hkk : knowsTo xs name k = true := by
        obtain ⟨j, hj, e⟩ := knowsTo_at h
        exact knowsTo_mono (by omega) e
      unfold findTo
      rw [if_pos hkk]
      exact find_old h (by omega)
    · obtain rfl : i = k + 1 := by omega
      unfold findTo
      cases hkk : knowsTo xs name k
      · unfold knowsTo at h
        rw [hkk, Bool.false_or] at h
        rw [if_neg (by exact fun e => by cases e), if_pos h]
        omega
      · rw [if_pos rfl]
        have := find_old hkk (Nat.le_refl k)
        omega

/-- A grammar in a block of its own. -/
structure GramAt (W : World) (g : Nat) (va vs : Value) (xs : List Aff) (ss : List Stm) : Prop where
  blk : Blk W g 48 #[va, vs]
  gram : Gram W va vs xs ss

set_option maxHeartbeats 2000000 in
theorem l04Find_any {g : Nat} {va vs : Value} {xs : List Aff} {ss : List Stm} (W : World) (hg : GramAt W g va vs xs ss) (name : ByteArray) :
    Calls Try.prog 123 #[.pointer (some ⟨g, 0, none⟩), .string name] W fun e w' => e = .returned (.int .i64 (findTo xs name xs.length)) ∧ W = w' := by
  have hxl := hg.gram.affs.len
  have c0 := hg.blk.cells
  obtain ⟨a, cap, rfl, hl, hm, hc⟩ := hg.gram.affs
  have HC := Shh.mk hc
  clear hc hg
  go_enter Try.func123, Try.ntmps123
  go_wp2
  go_loop [5] (fun i => ∃ k : Nat, k ≤ xs.length ∧ i = .int .i64 k ∧ Hid (knowsTo xs name k = false)) (fun i => xs.length - (intOf i).toNat)
  case atStart => exact ⟨0, Nat.zero_le _, rfl, rfl⟩
  case round =>
    obtain ⟨k, hk, rfl, hn⟩ := hrel
    by_cases hlt : k < xs.length
    · obtain ⟨b, off, rfl, hb, hcc⟩ := HC.out (by omega)
      have k0 := (hcc k hlt).c0
      obtain ⟨y, hy⟩ : ∃ y, (affG xs k).n = y := ⟨_, rfl⟩
      rw [hy] at k0
      clear hcc
      by_cases he : y = name
      · subst he
        have HF := Shh.mk (find_at hn.out (by rw [hy]; exact strSame y) hlt)
        have hs := strSame y
        clear hy
        go_wp2
        go_ret
        exact ⟨congrArg (fun x => Ending.returned (.int .i64 x)) HF.out.symm, rfl⟩
      · have hs := strNe he
        have HN : Hid (knowsTo xs name (k + 1) = false) := by
          rw [Hid]
          unfold knowsTo
          rw [hn.out, hy, hs]
          rfl
        clear he hy
        go_wp2
        go_round
        case rel => exact ⟨k + 1, by omega, by go_num, HN⟩
        case measure => simp [intOf]; omega
    · obtain rfl : k = xs.length := by omega
      have HF := Shh.mk (find_none hn.out)
      go_wp2
      go_ret
      exact ⟨congrArg (fun x => Ending.returned (.int .i64 x)) HF.out.symm, rfl⟩
theorem find_is {g : Nat} {va vs : Value} {xs : List Aff} {ss : List Stm} {name : ByteArray} {r : Int} (h : findTo xs name xs.length = r) (W : World) (hg : GramAt W g va vs xs ss) :
    Calls Try.prog 123 #[.pointer (some ⟨g, 0, none⟩), .string name] W fun e w' => e = .returned (.int .i64 r) ∧ W = w' := by rw [← h]; exact l04Find_any W hg name
theorem GramAt.drewN {W : World} {g : Nat} {va vs : Value} {xs : List Aff} {ss : List Stm} (h : GramAt W g va vs xs ss) (m : Nat) : GramAt (W.drewN m) g va vs xs ss := ⟨h.blk, h.gram.below (below_drewN (Below.refl _ _) m)⟩

theorem useB_known {xs : List Aff} {us : List ByteArray} {j : Nat} (h : knowsTo xs (strAt us j) xs.length = false) : useB xs us j = false := by simp [useB, h]
theorem useB_first {xs : List Aff} {us : List ByteArray} (h : knowsTo xs (strAt us 0) xs.length = true) : useB xs us 0 = true := by simp [useB, h]
theorem useB_next {xs : List Aff} {us : List ByteArray} {j : Nat} (h : knowsTo xs (strAt us (j + 1)) xs.length = true) : useB xs us (j + 1) = upS (strAt us j) (strAt us (j + 1)) := by simp [useB, h]
theorem stemB_no {xs : List Aff} {x : Stm} (h : allTo (useB xs x.uses) x.uses.length = false) : stemB xs x = false := by simp [stemB, h]
theorem stemB_yes {xs : List Aff} {x : Stm} (h : allTo (useB xs x.uses) x.uses.length = true) : stemB xs x = longB x.word := by simp [stemB, h]

set_option maxRecDepth 100000 in
set_option maxHeartbeats 4000000 in
theorem l04Stem_any {g b o : Nat} {va vs : Value} {xs : List Aff} {ss : List Stm} (W : World) (hg : GramAt W g va vs xs ss) (x : Stm) (hx : StmIs W b o x) (hw : x.word.size ≤ maxLen) :
    Calls Try.prog 124 #[.pointer (some ⟨g, 0, none⟩), .pointer (some ⟨b, o, none⟩)] W fun e w' => e = .returned (.bool (stemB xs x)) ∧ ∃ k, w' = W.drewN k := by
  obtain ⟨word, us⟩ := x
  obtain ⟨k0, u, k1, hu⟩ := hx
  simp only at k0 k1 hu hw
  have hul := hu.len
  obtain ⟨ua, uc, rfl, hul1, hul2, huc⟩ := hu
  have HNO := Shh.mk (fun h => stemB_no (xs := xs) (x := ⟨word, us⟩) h)
  have HYES := Shh.mk (fun h => stemB_yes (xs := xs) (x := ⟨word, us⟩) h)
  have HC := Shh.mk huc
  have HGA := Shh.mk hg
  clear huc hg
  go_enter Try.func124, Try.ntmps124
  go_wp2
  go_loopw [5] (fun i wr => ∃ k m : Nat, k ≤ us.length ∧ i = .int .i64 k ∧ wr = W.drewN m ∧ Hid (allTo (useB xs us) k = true)) (fun i _ => us.length - (intOf i).toNat)
  case atStart => exact ⟨0, 0, Nat.zero_le _, rfl, rfl, allTo_zero _⟩
  case round =>
    obtain ⟨k, m, hk, rfl, hw', ht⟩ := hrel
    have HW := Shh.mk hw'
    have hgr := Shh.mk (show GramAt wr g va vs xs ss by rw [hw']; exact HGA.out.drewN m)
    have k0' : wr.cell? ⟨b, o, none⟩ = some (.string word) := by rw [hw']; exact k0
    have k1' : wr.cell? ⟨b, o + 1, none⟩ = some (.slice ua us.length uc) := by rw [hw']; exact k1
    by_cases hlt : k < us.length
    · obtain ⟨bu, ou, rfl, hbu, hcc⟩ := HC.out (by omega)
      have ck : wr.cell? ⟨bu, ou + k, none⟩ = some (.string (strAt us k)) := by rw [hw']; exact hcc k hlt
      have HS := Shh.mk (allTo_succ (useB xs us) k)
      have HN0 := Shh.mk (fun h => HNO.out (allTo_not (p := useB xs us) (n := us.length) hlt h))
      cases hkn : knowsTo xs (strAt us k) xs.length
      · have HF := Shh.mk (find_none hkn)
        have HN := Shh.mk (HN0.out (useB_known hkn))
        obtain ⟨y, hy⟩ : ∃ y, strAt us k = y := ⟨_, rfl⟩
        rw [hy] at ck HF
        clear hkn hy hcc hw' HN0
        go_wp2
        go_quiet ((go_at_call 123; exact quietF (find_is HF.out _ (hgr.out.drewN _))))
        go_wp2
        go_ret
        exact ⟨ret_bool HN.out.symm, _, by rw [HW.out]; exact World.drewN_drewN _ _ _⟩
      · have hold := find_old hkn (Nat.le_refl _)
        obtain ⟨r, hr⟩ : ∃ r, findTo xs (strAt us k) xs.length = r := ⟨_, rfl⟩
        rw [hr] at hold
        have HF := Shh.mk hr
        have hr0 : decide (r < 0) = false := decide_eq_false (by omega)
        clear hold hr
        rcases Nat.eq_zero_or_pos k with hk0 | hk0
        · have HU : Shh (useB xs us k = true) := ⟨by subst hk0; exact useB_first hkn⟩
          have hkz : decide (0 < k) = false := decide_eq_false (by omega)
          obtain ⟨y, hy⟩ : ∃ y, strAt us k = y := ⟨_, rfl⟩
          rw [hy] at ck HF
          clear hkn hy hcc hw' HN0 hk0
          go_wp2
          go_quiet ((go_at_call 123; exact quietF (find_is HF.out _ (hgr.out.drewN _))))
          go_wp2
          go_roundw
          case rel => exact ⟨k + 1, _, by omega, by go_num, by rw [HW.out]; exact World.drewN_drewN _ _ _, by rw [Hid, HS.out, ht.out, HU.out]; rfl⟩
          case measure => simp [intOf]; omega
        · obtain ⟨j, hj⟩ : ∃ j, k = j + 1 := ⟨k - 1, by omega⟩
          have cj : wr.cell? ⟨bu, ou + j, none⟩ = some (.string (strAt us j)) := by rw [hw']; exact hcc j (by omega)
          have hU : useB xs us k = upS (strAt us j) (strAt us k) := by subst hj; exact useB_next hkn
          obtain ⟨y, hy⟩ : ∃ y, strAt us k = y := ⟨_, rfl⟩
          obtain ⟨z, hz⟩ : ∃ z, strAt us j = z := ⟨_, rfl⟩
          rw [hy] at ck HF hU
          rw [hz] at cj hU
          have hjl : j < us.length := by omega
          have hp1 : (k : Int) - 1 = (j : Int) := by omega
          have hp3 : IntKind.i64.wrap (j : Int) = (j : Int) := IntWalk.i64_in _ (by omega)
          have hpos : decide (0 < k) = true := decide_eq_true (by omega)
          clear hkn hy hz hcc hw' hj
          cases hup : Op.bytesLess z.toList y.toList
          · have HN := Shh.mk (HN0.out (hU.trans hup))
            clear hU HN0
            go_wp2
            go_quiet ((go_at_call 123; exact quietF (find_is HF.out _ (hgr.out.drewN _))))
            go_wp2
            go_ret
            exact ⟨ret_bool HN.out.symm, _, by rw [HW.out]; exact World.drewN_drewN _ _ _⟩
          · have HU := Shh.mk (hU.trans hup)
            clear hU HN0
            go_wp2
            go_quiet ((go_at_call 123; exact quietF (find_is HF.out _ (hgr.out.drewN _))))
            go_wp2
            go_roundw
            case rel => exact ⟨k + 1, _, by omega, by go_num, by rw [HW.out]; exact World.drewN_drewN _ _ _, by rw [Hid, HS.out, ht.out, HU.out]; rfl⟩
            case measure => simp [intOf]; omega
    · obtain rfl : k = us.length := by omega
      have HR := Shh.mk (HYES.out ht.out)
      clear hw'
      go_wp2_with fail
      refine (l05Long_any word _ hw).mono ?_
      rintro e w' ⟨rfl, rfl⟩
      go_wp2
      go_ret
      exact ⟨ret_bool HR.out.symm, _, HW.out⟩
end Go.Proofs.Ytilagppmljpclaa
