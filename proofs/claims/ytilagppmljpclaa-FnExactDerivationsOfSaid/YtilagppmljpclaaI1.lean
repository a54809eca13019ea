/-
  Derivations: the word that a row of affixes makes; the model's.
-/
import Derived.Test.YtilagppmljpclaaHD
import Derived.Test.YtilagppmljpclaaF5
namespace Go.Proofs.Ytilagppmljpclaa
open Go.RowKit

def idxOf (xs : List Aff) (n : ByteArray) : Nat := (findTo xs n xs.length).toNat
def applyA (x : Aff) (word : ByteArray) : ByteArray × Int := applyX x.f x.w x.s x.a word
/-- The word that the affixes with these names make of a word, one after the other; or the first failure. -/
def wordX (xs : List Aff) : List ByteArray → ByteArray → ByteArray × Int
  | [], word => (word, 0)
  | n :: ns, word => if (applyA (affG xs (idxOf xs n)) word).2 = 0 then wordX xs ns (applyA (affG xs (idxOf xs n)) word).1 else (ByteArray.empty, (applyA (affG xs (idxOf xs n)) word).2)
theorem wordX_ok {xs : List Aff} {us : List ByteArray} {word nx : ByteArray} {k : Nat} (h : k < us.length) (ha : applyA (affG xs (idxOf xs (strAt us k))) word = (nx, 0)) : wordX xs (us.drop k) word = wordX xs (us.drop (k + 1)) nx := by
  have e : us.drop k = strAt us k :: us.drop (k + 1) := by
    rw [List.drop_eq_getElem_cons h]
    unfold strAt
    simp [List.getD_eq_getElem?_getD, List.getElem?_eq_getElem h]
  rw [e]
  show (if _ then _ else _) = _
  rw [ha]
  exact if_pos rfl
theorem wordX_bad {xs : List Aff} {us : List ByteArray} {word nx : ByteArray} {c : Int} {k : Nat} (h : k < us.length) (ha : applyA (affG xs (idxOf xs (strAt us k))) word = (nx, c)) (hc : ¬ c = 0) : wordX xs (us.drop k) word = (ByteArray.empty, c) := by
  have e : us.drop k = strAt us k :: us.drop (k + 1) := by
    rw [List.drop_eq_getElem_cons h]
    unfold strAt
    simp [List.getD_eq_getElem?_getD, List.getElem?_eq_getElem h]
  rw [e]
  show (if _ then _ else _) = _
  rw [ha]
  exact if_neg hc
theorem applyX_ok_size {f : Bool} {w s a word nx : ByteArray} (h : applyX f w s a word = (nx, 0)) : nx.size ≤ 12 := by
  cases h1 : matchX f w s word
  · rw [applyX_no h1] at h; simp at h
  · cases h2 : longB (joinX f (restX f word s.size) a)
    · rw [applyX_short h1 h2] at h; simp at h
    · rw [applyX_yes h1 h2] at h
      simp at h
      rw [← h]
      exact (longB_size h2).2
theorem findZ_is {g : Nat} {va vs : Value} {xs : List Aff} {ss : List Stm} {name : ByteArray} {z : Nat} (h : findTo xs name xs.length = (z : Int)) (W : World) (hg : GramAt W g va vs xs ss) :
    Calls Try.prog 123 #[.pointer (some ⟨g, 0, none⟩), .string name] W fun e w' => e = .returned (.int .i64 (z : Int)) ∧ W = w' := by rw [← h]; exact l04Find_any W hg name

theorem apply2_is {g o : Nat} {f : Bool} {n w s a word r : ByteArray} {c : Int} (h : applyX f w s a word = (r, c)) (W : World) (hg : AffAt W g o f n w s a) (hw : w.size ≤ maxLen) (hs : s.size ≤ maxLen) (ha : a.size ≤ 1000) (hwd : word.size ≤ 1000) :
    Calls Try.prog 125 #[.pointer (some ⟨g, o, none⟩), .string word] W fun e w' => e = .returned (.tuple #[.string r, .int .i64 c]) ∧ ∃ k, w' = W.drewN k := apply_is h W hg hw hs ha hwd
set_option maxRecDepth 100000 in
set_option maxHeartbeats 1000000 in
theorem l04Word_any {g : Nat} {va vs v : Value} {xs : List Aff} {ss : List Stm} {us : List ByteArray} (word : ByteArray) (W : World) (hg : GramAt W g va vs xs ss) (hu : Strs W v us) (hx : ∀ x ∈ xs, AffFine x) (hxa : ∀ x ∈ xs, x.a.size ≤ 1000)
    (hk : ∀ u ∈ us, knowsTo xs u xs.length = true) (hw : word.size ≤ 1000) :
    Calls Try.prog 70 #[.pointer (some ⟨g, 0, none⟩), .string word, v] W fun e w' => e = .returned (retX (wordX xs us word)) ∧ ∃ k, w' = W.drewN k := by
  have hul := hu.len
  have HGA := Shh.mk hg
  have HX := Shh.mk hx
  have HXA := Shh.mk hxa
  have HK := Shh.mk hk
  obtain ⟨aa, ac, rfl, hal, ham, hac⟩ := hg.gram.affs
  obtain ⟨ua, uc, rfl, hul1, hul2, huc⟩ := hu
  have HCA := Shh.mk hac
  have HUC := Shh.mk huc
  clear hac huc hg hx hxa hk
  go_enter Try.func70, Try.ntmps70
  go_wp2
  go_loopw [1, 8, 9, 10] (fun o i _ _ wr => ∃ (k m : Nat) (cur : ByteArray), k ≤ us.length ∧ i = .int .i64 k ∧ o = .string cur ∧ wr = W.drewN m ∧ cur.size ≤ 1000 ∧ Shh (wordX xs us word = wordX xs (us.drop k) cur)) (fun _ i _ _ _ => us.length - (intOf i).toNat)
  case atStart => exact ⟨0, 0, word, Nat.zero_le _, rfl, rfl, rfl, hw, ⟨rfl⟩⟩
  case round =>
    obtain ⟨k, m, cur, hk, rfl, rfl, hw', hcur, hE⟩ := hrel
    have HW := Shh.mk hw'
    have hgr := Shh.mk (show GramAt wr g _ _ xs ss by rw [hw']; exact HGA.out.drewN m)
    have c0 := hgr.out.blk.cells
    by_cases hlt : k < us.length
    · obtain ⟨bu, ou, rfl, hbu, hcu⟩ := HUC.out (by omega)
      have cu : wr.cell? ⟨bu, ou + k, none⟩ = some (.string (strAt us k)) := by rw [hw']; exact hcu k hlt
      have hkn := HK.out _ (strAt_mem hlt)
      have hfr := find_old hkn (Nat.le_refl _)
      obtain ⟨z, hz⟩ : ∃ z : Nat, findTo xs (strAt us k) xs.length = (z : Int) := ⟨(findTo xs (strAt us k) xs.length).toNat, by omega⟩
      have hzl : z < xs.length := by omega
      have hid0 : idxOf xs (strAt us k) = z := by unfold idxOf; rw [hz]; rfl
      obtain ⟨ba, oa, rfl, hba, hcc⟩ := HCA.out (by omega)
      have ha : AffIs wr ba (oa + z * 5) (affG xs z) := by rw [hw']; exact AffAt.drewN (hcc z hzl) m
      have HAF := Shh.mk (HX.out _ (affG_mem hzl))
      have hax := HXA.out _ (affG_mem hzl)
      have HOK := Shh.mk (fun nx h => wordX_ok (xs := xs) (us := us) (word := cur) (nx := nx) hlt (by rw [hid0]; exact h))
      have HBAD := Shh.mk (fun nx c h => wordX_bad (xs := xs) (us := us) (word := cur) (nx := nx) (c := c) hlt (by rw [hid0]; exact h))
      obtain ⟨⟨nx, c⟩, hp⟩ : ∃ p, applyA (affG xs z) cur = p := ⟨_, rfl⟩
      have HP := Shh.mk hp
      have HF := Shh.mk hz
      obtain ⟨name, hname⟩ : ∃ name, strAt us k = name := ⟨_, rfl⟩
      rw [hname] at cu HF
      have HA := Shh.mk ha
      clear hcu hkn hfr hz hid0 hcc ha hname hw'
      by_cases hc : c = 0
      · subst hc
        have hnx : nx.size ≤ 12 := applyX_ok_size hp
        have HN := Shh.mk (HOK.out nx hp)
        clear hp HOK HBAD
        go_wp2
        go_quiet (first
          | (go_at_call 123; exact quietF (findZ_is HF.out _ (hgr.out.drewN _)))
          | (go_at_call 125; exact Calls.quiet_of (apply2_is HP.out _ (HA.out.drewN _) HAF.out.w HAF.out.s hax hcur)))
        go_wp2
        go_roundw
        case rel => exact ⟨k + 1, _, nx, by omega, by go_num, rfl, by rw [HW.out]; exact World.drewN_drewN _ _ _, by omega, ⟨hE.out.trans HN.out⟩⟩
        case measure => simp [intOf]; omega
      · have HN := Shh.mk (hE.out.trans (HBAD.out nx c hp hc))
        have hcb : (c != 0) = true := by simpa using hc
        clear hp HOK HBAD
        go_wp2
        go_quiet (first
          | (go_at_call 123; exact quietF (findZ_is HF.out _ (hgr.out.drewN _)))
          | (go_at_call 125; exact Calls.quiet_of (apply2_is HP.out _ (HA.out.drewN _) HAF.out.w HAF.out.s hax hcur)))
        go_wp2
        go_ret2
        exact ⟨by rw [HN.out]; rfl, _, by rw [HW.out]; exact World.drewN_drewN _ _ _⟩
    · obtain rfl : k = us.length := by omega
      have HN := Shh.mk (hE.out.trans (show wordX xs (us.drop us.length) cur = (cur, 0) by rw [List.drop_length]; rfl))
      go_wp2
      go_ret2
      exact ⟨by rw [HN.out]; rfl, m, by first | exact HW.out | rfl⟩
end Go.Proofs.Ytilagppmljpclaa
