/-
  All ways to place a word with tiles: the model's WaysToMake and the program's.
-/
import Derived.Test.YtilagppmljpclaaJ3
import Derived.Test.YtilagppmljpclaaJ5
import Derived.Test.YtilagppmljpclaaO9
import Derived.Test.YtilagppmljpclaaO4
import Derived.Test.YtilagppmljpclaaLM
import Derived.Laws.EntriesVeiled
namespace Go.Proofs.Ytilagppmljpclaa
open Go.RowKit

def waysOut (p s : ByteArray) : List ByteArray × Int :=
  if pileB p.data.toList = false then ([], 1) else if isWordB s.data.toList = false then ([], 7) else ((waysL (cnt p.data.toList) s.data.toList).map txt, 0)
theorem waysOut_pile {p s : ByteArray} (h : pileB p.data.toList = false) : waysOut p s = ([], 1) := by simp [waysOut, h]
theorem waysOut_word {p s : ByteArray} (h : pileB p.data.toList = true) (h2 : isWordB s.data.toList = false) : waysOut p s = ([], 7) := by simp [waysOut, h, h2]
theorem waysOut_yes {p s : ByteArray} (h : pileB p.data.toList = true) (h2 : isWordB s.data.toList = true) : waysOut p s = ((waysL (cnt p.data.toList) s.data.toList).map txt, 0) := by simp [waysOut, h, h2]
theorem ways_4096 (f : Nat → Nat) {l : List UInt8} (h : l.length ≤ 12) : (waysL f l).length ≤ 4096 := Nat.le_trans (waysL_len l f) (Nat.pow_le_pow_right (n := 2) (by decide) h)
theorem waysOut_len (p s : ByteArray) : (waysOut p s).1.length ≤ 4096 := by
  unfold waysOut
  by_cases h1 : pileB p.data.toList = false
  · rw [if_pos h1]; simp
  · rw [if_neg h1]
    by_cases h2 : isWordB s.data.toList = false
    · rw [if_pos h2]; simp
    · rw [if_neg h2]
      have := ways_4096 (cnt p.data.toList) (word_len (by simpa using h2))
      simpa using this
theorem isWordW_is {s : ByteArray} {b : Bool} (h : isWordB s.data.toList = b) (w : World) (hs : s.size ≤ maxLen) : Calls Try.prog 57 #[.string s] w fun e w' => e = .returned (.bool b) ∧ w = w' := by rw [← h]; exact specIsWord_any s w hs
theorem isWordV_is {s : ByteArray} {b : Bool} (h : isWordB s.data.toList = b) (w : World) (hs : s.size ≤ maxLen) : Calls Try.prog 60 #[.string s] w fun e w' => e = .returned (.bool b) ∧ Below w.heap.size w w' := by rw [← h]; exact implIsWord_any s w hs

/-- A variable for a function, behind a variable for a list. -/
theorem newFunc (w : World) : ((w.alloc (.cells #[.slice none 0 0] 25)).alloc (.cells #[.nilFunc] 87)).cell? ⟨w.heap.size + 1, 0, none⟩ = some .nilFunc ∧
    ((w.alloc (.cells #[.slice none 0 0] 25)).alloc (.cells #[.nilFunc] 87)).frozen? ⟨w.heap.size + 1, 0, none⟩ = false := by
  have h := Blk.made (w.alloc (.cells #[.slice none 0 0] 25)) 87 #[.nilFunc]
  rw [World.size_alloc] at h
  exact ⟨h.cells 0, h.marks 0⟩
set_option maxHeartbeats 2000000 in
theorem specWaysToMake_any (p s : ByteArray) (w : World) (hp : p.size ≤ 1048576) (hs : s.size ≤ 1048576) :
    Calls Try.prog 18 #[.string p, .string s] w fun e w' => ∃ v, e = retS v (waysOut p s).2 ∧ Strs w' v (waysOut p s).1 ∧ Below w.heap.size w w' := by
  have hsm : s.size ≤ maxLen := by unfold maxLen; omega
  cases h1 : pileB p.data.toList
  · have HP := Shh.mk h1
    have HO := Shh.mk (waysOut_pile (s := s) h1)
    clear h1
    go_enter Try.func18, Try.ntmps18
    go_wp2_with fail
    refine (pile_is HP.out _ hp).mono ?_
    rintro e w1 ⟨rfl, hb1⟩
    go_wp2
    go_ret2
    rw [HO.out]
    exact ⟨_, rfl, (OwnS.voidG 0 _).strs, hb1⟩
  · cases h2 : isWordB s.data.toList
    · have HP := Shh.mk h1
      have HW := Shh.mk h2
      have HO := Shh.mk (waysOut_word h1 h2)
      clear h1 h2
      go_enter Try.func18, Try.ntmps18
      go_wp2_with fail
      refine (pile_is HP.out _ hp).mono ?_
      rintro e w1 ⟨rfl, hb1⟩
      go_wp2_with fail
      refine (isWordW_is HW.out _ hsm).mono ?_
      rintro e w2 ⟨rfl, rfl⟩
      go_wp2
      go_ret2
      rw [HO.out]
      exact ⟨_, rfl, (OwnS.voidG 0 _).strs, hb1⟩
    · cases h3 : canL p.data.toList s.data.toList
      · have HP := Shh.mk h1
        have HW := Shh.mk h2
        have HC := Shh.mk h3
        have HO := Shh.mk ((waysOut_yes h1 h2).trans (by rw [ways_none h2 h3]; rfl : _ = (([], 0) : List ByteArray × Int)))
        clear h1 h2 h3
        go_enter Try.func18, Try.ntmps18
        go_wp2_with fail
        refine (pile_is HP.out _ hp).mono ?_
        rintro e w1 ⟨rfl, hb1⟩
        go_wp2_with fail
        refine (isWordW_is HW.out _ hsm).mono ?_
        rintro e w2 ⟨rfl, rfl⟩
        go_wp2_with fail
        refine (can_is HC.out _ hp hs HW.out).mono ?_
        rintro e w3 ⟨rfl, hb3⟩
        have HE := Shh.mk (show OwnS w3.heap.size (w3.alloc (.cells #[] 9)) (.slice (some ⟨w3.heap.size, 0, none⟩) 0 0) [] from World.ownsRow_lit (size := 1) w3 #[] 0 (Nat.le_refl _) (by unfold maxLen; omega) rfl)
        have HB := Shh.mk ((hb1.trans (hb3.mono hb1.size)).alloc (by have := hb1.size; have := hb3.size; omega) (.cells #[] 9))
        clear hb1 hb3
        go_wp2
        go_ret2
        rw [HO.out]
        exact ⟨_, rfl, HE.out.strs, HB.out⟩
      · have HP := Shh.mk h1
        have HW := Shh.mk h2
        have HC := Shh.mk h3
        have HO := Shh.mk (waysOut_yes h1 h2)
        have hl := word_len h2
        have hL := l03Ways_any s.data.toList hl (fun c hc => word_small h2 hc) s rfl p.data.toList
        obtain ⟨Z, hZ⟩ : ∃ Z, (waysL (cnt p.data.toList) s.data.toList).map txt = Z := ⟨_, rfl⟩
        rw [hZ] at HO hL
        have HL := Shh.mk hL
        clear h1 h2 h3 hl hZ hL
        go_enter Try.func18, Try.ntmps18
        go_wp2_with fail
        refine (pile_is HP.out _ hp).mono ?_
        rintro e w1 ⟨rfl, hb1⟩
        go_wp2_with fail
        refine (isWordW_is HW.out _ hsm).mono ?_
        rintro e w2 ⟨rfl, rfl⟩
        go_wp2_with fail
        refine (can_is HC.out _ hp hs HW.out).mono ?_
        rintro e w3 ⟨rfl, hb3⟩
        have HB := Shh.mk (hb1.trans (hb3.mono hb1.size))
        clear hb1 hb3
        go_wp2_with fail
        have := HL.out w3 (by rw [len_list]; exact hp)
        rw [txt_of] at this
        refine this.mono ?_
        rintro e w4 ⟨v4, rfl, ho, hb4⟩
        have HR := Shh.mk (OwnS.strs ho)
        obtain ⟨a4, c4, rfl, -⟩ := own_form ho
        have HB4 := Shh.mk (HB.out.trans (hb4.mono HB.out.size))
        clear ho hb4 this
        go_wp2
        go_ret2
        rw [HO.out]
        exact ⟨_, rfl, HR.out, HB4.out⟩

set_option maxRecDepth 100000 in
set_option maxHeartbeats 2000000 in
theorem implWaysToMake_any (p s : ByteArray) (w : World) (hp : p.size ≤ 1048576) (hs : s.size ≤ 1048576) :
    Calls Try.prog 19 #[.string p, .string s] w fun e w' => ∃ v, e = retS v (waysOut p s).2 ∧ OwnS w.heap.size w' v (waysOut p s).1 ∧ Below w.heap.size w w' := by
  have hsm : s.size ≤ maxLen := by unfold maxLen; omega
  have HX := Shh.mk (Blk.made w 9 #[.string s])
  have HB0 := Shh.mk ((Below.refl w.heap.size w).alloc (Nat.le_refl _) (.cells #[.string s] 9))
  have hx0 := HX.out.cells
  obtain ⟨F0, hF⟩ : ∃ F, cntP p.data.toList = F := ⟨_, rfl⟩
  have HF := Shh.mk hF
  cases h1 : pileB p.data.toList
  · have HP := Shh.mk h1
    have HO := Shh.mk (waysOut_pile (s := s) h1)
    clear h1 hF
    go_enter Try.func19, Try.ntmps19
    go_wp2_with fail
    refine (countPile_any p _ hp).mono ?_
    rw [HP.out, HF.out]
    rintro e w1 ⟨rfl, hb1⟩
    go_wp2_with (refine store_lastN rfl _ _ rfl w1 F0 _ rfl (by rfl) (by rfl) rfl ?_)
    go_ret2
    rw [HO.out]
    exact ⟨_, rfl, OwnS.voidG _ _, (HB0.out.trans (hb1.mono HB0.out.size)).alloc (by have := HB0.out.size; have := hb1.size; omega) _⟩
  · have HCN := Shh.mk ((cntP_yes h1).symm.trans hF)
    have hFb : ∀ k, F0 k ≤ 1000 := fun k => by rw [← hF, cntP_yes h1]; have := cnt_le p.data.toList k; have := (pileB_iff.1 h1).2.2; omega
    cases h2 : isWordB s.data.toList
    · have HP := Shh.mk h1
      have HW := Shh.mk h2
      have HO := Shh.mk (waysOut_word h1 h2)
      clear h1 h2 hF
      go_enter Try.func19, Try.ntmps19
      go_wp2_with fail
      refine (countPile_any p _ hp).mono ?_
      rw [HP.out, HF.out]
      rintro e w1 ⟨rfl, hb1⟩
      have hx1 := (HX.out.kept hb1 HX.out.lt).alloc (.cells (arrN F0) 74)
      have hc1 := hx1.cells 0
      have HB1 := Shh.mk ((HB0.out.trans (hb1.mono HB0.out.size)).alloc (by have := HB0.out.size; have := hb1.size; omega) (.cells (arrN F0) 74))
      clear hb1 hx0 hx1
      go_wp2_with (first
        | (refine store_lastN rfl _ _ rfl w1 F0 _ rfl (by rfl) (by rfl) rfl ?_)
        | (go_at_call 60; refine (isWordV_is HW.out _ hsm).mono ?_; rintro e w2 ⟨rfl, hb2⟩))
      go_ret2
      rw [HO.out]
      exact ⟨_, rfl, OwnS.voidG _ _, HB1.out.trans (hb2.mono HB1.out.size)⟩
    · have HP := Shh.mk h1
      have HW := Shh.mk h2
      have HO := Shh.mk (waysOut_yes h1 h2)
      clear h1 h2 hF
      go_enter Try.func19, Try.ntmps19
      go_wp2_with fail
      refine (countPile_any p _ hp).mono ?_
      rw [HP.out, HF.out]
      rintro e w1 ⟨rfl, hb1⟩
      have hx1 := (HX.out.kept hb1 HX.out.lt).alloc (.cells (arrN F0) 74)
      have hc1 := hx1.cells 0
      have HX1 := Shh.mk hx1
      have HB1 := Shh.mk ((HB0.out.trans (hb1.mono HB0.out.size)).alloc (by have := HB0.out.size; have := hb1.size; omega) (.cells (arrN F0) 74))
      have HL1 := Shh.mk (Blk.made w1 74 (arrN F0))
      have HS1 := Shh.mk (show w.heap.size + 1 ≤ w1.heap.size by have := hb1.size; simpa using this)
      clear hb1 hx0 hx1
      go_wp2_with (first
        | (refine store_lastN rfl _ _ rfl w1 F0 _ rfl (by rfl) (by rfl) rfl ?_)
        | (go_at_call 60; refine (isWordV_is HW.out _ hsm).mono ?_; rintro e w2 ⟨rfl, hb2⟩; have HN := newFunc w2; have hcp := HN.1; have hfp := HN.2; have HN2 := Shh.mk hb2; clear HN hb2))
      have HB2 := Shh.mk (HB1.out.trans (HN2.out.mono HB1.out.size))
      have hsz2 : w1.heap.size + 1 ≤ w2.heap.size := by have := HN2.out.size; simpa using this
      have hsz1 := HS1.out
      have HV := Shh.mk (Vars.Apart.mk (B := w.heap.size) (c := ⟨w.heap.size, w2.heap.size, w1.heap.size, w2.heap.size + 1⟩) (by simp; omega) (by simp; omega) (by simp; omega) (by simp; omega) (by simp) (by simp; omega) (by simp) (by simp; omega) (by simp; omega) (by simp; omega))
      obtain ⟨c, hc⟩ : ∃ c : Vars, c = ⟨w.heap.size, w2.heap.size, w1.heap.size, w2.heap.size + 1⟩ := ⟨_, rfl⟩
      have hm := (Blk.made w2 25 #[.slice none 0 0]).alloc (.cells #[.func (.func 61) #[] c.ptrs] 87)
      have hm2 := Blk.made (w2.alloc (.cells #[.slice none 0 0] 25)) 87 #[.func (.func 61) #[] c.ptrs]
      rw [World.size_alloc] at hm2
      have HSIT := Shh.mk (show Sit w.heap.size c s ((w2.alloc (.cells #[.slice none 0 0] 25)).alloc (.cells #[.func (.func 61) #[] c.ptrs] 87)) (.slice none 0 0) [] F0 from
        ⟨by rw [hc]; exact ((HX1.out.kept HN2.out HX1.out.lt).alloc _).alloc _, by rw [hc] at hm ⊢; exact hm, OwnS.voidG _ _, by rw [hc]; exact ((HL1.out.kept HN2.out HL1.out.lt).alloc _).alloc _, by rw [hc] at hm2 ⊢; exact hm2, fun k hk => by simp [Value.ownBlock] at hk⟩)
      rw [hc] at HSIT
      have HB3 := Shh.mk ((HB2.out.alloc HB2.out.size (.cells #[.slice none 0 0] 25)).alloc (by have := HB2.out.size; simp; omega) (.cells #[.func (.func 61) #[] (Vars.ptrs ⟨w.heap.size, w2.heap.size, w1.heap.size, w2.heap.size + 1⟩)] 87))
      have HEL := Shh.mk (show Held ⟨w.heap.size, w2.heap.size, w1.heap.size, w2.heap.size + 1⟩ w.heap.size ((w2.alloc (.cells #[.slice none 0 0] 25)).alloc (.cells #[.func (.func 61) #[] (Vars.ptrs ⟨w.heap.size, w2.heap.size, w1.heap.size, w2.heap.size + 1⟩)] 87)) (.slice none 0 0) (.slice none 0 0) [] from
        ⟨⟨rfl, .inl ⟨rfl, rfl⟩⟩, fun k hk => by simp [Value.ownBlock] at hk⟩)
      have hp12 : 2 ^ s.data.toList.length ≤ 4096 := Nat.pow_le_pow_right (n := 2) (by decide) (word_len HW.out)
      have hs12 : s.size ≤ 12 := by have := word_len HW.out; rw [len_list] at this; exact this
      clear hcp hfp hm hm2 hc hc1
      refine (place_any HV.out hs12 s.data.toList (fun c hc => word_small HW.out hc) [] rfl (Nat.zero_le _) F0 _ _ [] _ HSIT.out HEL.out hFb (by rw [List.length_nil]; omega)).mono ?_
      rintro e w4 ⟨rfl, y', hp4⟩
      have hy4 := hp4.sit.ways.cells 0
      have HO4 := Shh.mk (show OwnS w.heap.size w4 y' ((waysL F0 s.data.toList).map txt) by have := hp4.sit.own; rw [List.nil_append] at this; exact this)
      have HB4 := Shh.mk (show Below w.heap.size w w4 from HB3.out.trans (hp4.apart.below (fun i hi h => by
        rcases h with h | h | h
        · have := HV.out.b2; simp at h this; omega
        · have := HV.out.b3; simp at h this; omega
        · simp [Value.ownBlock] at h) HB3.out.size))
      obtain ⟨ya, yc, rfl, -, -, -⟩ := own_form hp4.sit.own
      obtain ⟨Z, hZ⟩ : ∃ Z, (waysL F0 s.data.toList).map txt = Z := ⟨_, rfl⟩
      rw [HCN.out, hZ] at HO
      have hyl : ([] ++ outW [] F0 s.data.toList).length = Z.length := by rw [← hZ]; rfl
      rw [hyl] at hy4 HO4
      rw [hZ] at HO4
      have hy4' : w4.cell? ⟨w2.heap.size, 0, none⟩ = some (.slice ya Z.length yc) := hy4
      clear hp4 hZ hy4 hyl
      go_wp2
      go_ret2
      rw [HO.out]
      exact ⟨_, rfl, HO4.out, HB4.out⟩
end Go.Proofs.Ytilagppmljpclaa
