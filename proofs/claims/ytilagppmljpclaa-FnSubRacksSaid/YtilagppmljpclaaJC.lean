/-
  The sub-racks of a rack: the program's SubRacks.
-/
import Derived.Test.YtilagppmljpclaaJA
import Derived.Test.YtilagppmljpclaaJ9
import Derived.Test.YtilagppmljpclaaJB
import Derived.Test.YtilagppmljpclaaQ8
import Derived.Test.YtilagppmljpclaaO4
import Derived.Laws.EntriesVeiled
namespace Go.Proofs.Ytilagppmljpclaa
open Go.RowKit

theorem validRack_is {s : ByteArray} {b : Bool} (h : rackB s = b) (w : World) (hs : s.size ≤ 1048576) : Calls Try.prog 44 #[.string s] w fun e w' => e = .returned (.bool b) ∧ Below w.heap.size w w' := by
  rw [← h]; exact implValidRack_any s w hs
/-- A variable for a function, behind a variable for a list. -/
theorem newFuncC (w : World) : ((w.alloc (.cells #[.slice none 0 0] 25)).alloc (.cells #[.nilFunc] 77)).cell? ⟨w.heap.size + 1, 0, none⟩ = some .nilFunc ∧
    ((w.alloc (.cells #[.slice none 0 0] 25)).alloc (.cells #[.nilFunc] 77)).frozen? ⟨w.heap.size + 1, 0, none⟩ = false := by
  have h := Blk.made (w.alloc (.cells #[.slice none 0 0] 25)) 77 #[.nilFunc]
  rw [World.size_alloc] at h
  exact ⟨h.cells 0, h.marks 0⟩
theorem tot_cnt {l : List UInt8} (ht : allTiles l = true) : tot (cnt l) 27 = l.length := by
  induction l with
  | nil => rfl
  | cons c l ih =>
    unfold allTiles at ht
    rw [List.all_cons, Bool.and_eq_true] at ht
    have hk := kindN_lt ht.1
    have h1 : ∀ n, n ≤ 27 → tot (cnt (c :: l)) n = tot (cnt l) n + if kindN c < n then 1 else 0 := by
      intro n
      induction n with
      | zero => intro _; simp [tot]
      | succ n ihn =>
        intro hn
        rw [tot, tot, ihn (by omega), cnt_cons_kind ht.1 (by omega)]
        by_cases e : n = kindN c
        · rw [if_pos e, if_neg (by omega), if_pos (by omega)]; omega
        · rw [if_neg e]
          by_cases h2 : kindN c < n
          · rw [if_pos h2, if_pos (by omega)]; omega
          · rw [if_neg h2, if_neg (by omega)]; omega
    rw [h1 27 (Nat.le_refl _), if_pos hk, ih ht.2]
    rfl
/-- The racks that are chosen, sorted, are the sub-racks. -/
theorem chosen_are {s : ByteArray} {t : List ByteArray × Int} (h : SubOut s t) (hr : rackB s = true) {L' : List ByteArray} (hp : L'.Perm ((chooseL s.size (cnt s.data.toList) 0 []).map txt)) (hs : L'.Pairwise (fun x y => ltS y x = false)) : L' = t.1 := by
  obtain ⟨h1, h7⟩ := rack_seven hr
  obtain ⟨ht, ha, -⟩ := pileB_iff.1 h1
  have htot : tot (cnt s.data.toList) 27 ≤ s.size := by rw [tot_cnt ht, len_list]; exact Nat.le_refl _
  have hn := choose_nodup s.size (cnt s.data.toList) 0 [] (by omega) htot
  have hn2 : ((chooseL s.size (cnt s.data.toList) 0 []).map txt).Nodup := by
    unfold List.Nodup
    rw [List.pairwise_map]
    refine List.Pairwise.imp (fun {a b} hab e => hab ?_) hn
    have := congrArg (fun x : ByteArray => x.data.toList) e
    simpa [txt_list] using this
  have hn3 : L'.Nodup := hp.nodup_iff.2 hn2
  have ho : Ord L' := by
    refine List.Pairwise.imp₂ (fun {a b} h1 h2 => ?_) hs hn3
    cases h3 : ltS a b
    · exact absurd (ltS_total h3 h1) h2
    · rfl
  refine ord_one ho ((h.subs hr).1.ord) fun x => ?_
  rw [hp.mem_iff, (h.subs hr).1.mem, List.mem_map]
  constructor
  · rintro ⟨y, hy, rfl⟩
    obtain ⟨z, hz0, hz⟩ := (choose_mem _ _ _ _ _ (by omega) htot).1 hy
    rw [List.nil_append] at hz0
    subst hz0
    rw [txt_list]
    exact (adds_sub ht ha).1 hz
  · intro hx
    exact ⟨x.data.toList, (choose_mem _ _ _ _ _ (by omega) htot).2 ⟨_, rfl, (adds_sub ht ha).2 hx⟩, txt_of x⟩
theorem chosen_few {s : ByteArray} {t : List ByteArray × Int} (h : SubOut s t) (hr : rackB s = true) : (chooseL s.size (cnt s.data.toList) 0 []).length ≤ 1024 := by
  obtain ⟨h1, h7⟩ := rack_seven hr
  obtain ⟨ht, ha, -⟩ := pileB_iff.1 h1
  have htot : tot (cnt s.data.toList) 27 ≤ s.size := by rw [tot_cnt ht, len_list]; exact Nat.le_refl _
  have hn := choose_nodup s.size (cnt s.data.toList) 0 [] (by omega) htot
  have hm : (t.1.map fun x : ByteArray => x.data.toList).Nodup := by
    unfold List.Nodup
    rw [List.pairwise_map]
    exact List.Pairwise.imp (fun {a b} hab e => hab (Go.WideShapes.bytes_inj e)) (ord_nodup (h.subs hr).1.ord)
  have hp := (List.perm_ext_iff_of_nodup hn hm).2 fun x => by
    rw [List.mem_map]
    constructor
    · intro hx
      obtain ⟨z, hz0, hz⟩ := (choose_mem _ _ _ _ _ (by omega) htot).1 hx
      rw [List.nil_append] at hz0
      subst hz0
      exact ⟨txt x, ((h.subs hr).1.mem _).2 (by rw [txt_list]; exact (adds_sub ht ha).1 hz), by rw [txt_list]⟩
    · rintro ⟨y, hy, rfl⟩
      exact (choose_mem _ _ _ _ _ (by omega) htot).2 ⟨_, rfl, (adds_sub ht ha).2 (((h.subs hr).1.mem _).1 hy)⟩
  have := hp.length_eq
  rw [List.length_map] at this
  rw [this]
  exact h.len
theorem choose_some (n : Nat) (F : Nat → Nat) (k : Nat) (c : List UInt8) : 1 ≤ (chooseL n F k c).length := by
  cases n <;> simp [chooseL]

set_option maxRecDepth 100000 in
set_option maxHeartbeats 4000000 in
theorem implSubRacks_any (s : ByteArray) (t : List ByteArray × Int) (ht : SubOut s t) (w : World) (hs : s.size ≤ 1048576) :
    Calls Try.prog 12 #[.string s] w fun e w' => ∃ v, e = retS v t.2 ∧ OwnS w.heap.size w' v t.1 ∧ Below w.heap.size w w' := by
  cases h1 : rackB s
  · have HP := Shh.mk h1
    have HO := Shh.mk (ht.bad h1)
    clear h1 ht
    go_enter Try.func12, Try.ntmps12
    go_wp2_with fail
    refine (validRack_is HP.out _ hs).mono ?_
    rintro e w1 ⟨rfl, hb1⟩
    go_wp2
    go_ret2
    rw [HO.out]
    exact ⟨_, rfl, OwnS.voidG _ _, hb1⟩
  · have HP := Shh.mk h1
    have HT := Shh.mk ht
    obtain ⟨F0, hF⟩ : ∃ F, cntP s.data.toList = F := ⟨_, rfl⟩
    have hpl := (rack_seven h1).1
    have HPL := Shh.mk hpl
    have HF := Shh.mk hF
    have HCN := Shh.mk ((cntP_yes hpl).symm.trans hF)
    have hFb : ∀ k, F0 k ≤ 1000 := fun k => by rw [← hF, cntP_yes hpl]; have := cnt_le s.data.toList k; have := (pileB_iff.1 hpl).2.2; omega
    have HFB := Shh.mk hFb
    have hs7 := (rack_seven h1).2
    clear h1 ht hpl hF hFb
    go_enter Try.func12, Try.ntmps12
    go_wp2_with fail
    refine (validRack_is HP.out _ hs).mono ?_
    rintro e w1 ⟨rfl, hb1⟩
    have HB1 := Shh.mk hb1
    clear hb1
    go_wp2_with fail
    refine (countPile_any s _ hs).mono ?_
    rw [HPL.out, HF.out]
    rintro e w2 ⟨rfl, hb2⟩
    have HB2 := Shh.mk (HB1.out.trans (hb2.mono HB1.out.size))
    have HL2 := Shh.mk (Blk.made w2 74 (arrN F0))
    have HB3 := Shh.mk (HB2.out.alloc HB2.out.size (.cells (arrN F0) 74))
    have HN := newFuncC (w2.alloc (.cells (arrN F0) 74))
    rw [World.size_alloc] at HN
    have hcp := HN.1
    have hfp := HN.2
    clear hb2 HN
    go_wp2_with (refine store_lastN rfl _ _ rfl w2 F0 _ rfl (by rfl) (by rfl) rfl ?_)
    have HV := Shh.mk (CVars.Parted.mk (B := w.heap.size) (c := ⟨w2.heap.size + 1, w2.heap.size, w2.heap.size + 1 + 1⟩) (by simp) (by simp) (by simp; omega) (by have := HB2.out.size; simp; omega) (by have := HB2.out.size; simp; omega) (by have := HB2.out.size; simp; omega))
    obtain ⟨c, hc⟩ : ∃ c : CVars, c = ⟨w2.heap.size + 1, w2.heap.size, w2.heap.size + 1 + 1⟩ := ⟨_, rfl⟩
    have hm := (Blk.made (w2.alloc (.cells (arrN F0) 74)) 25 #[.slice none 0 0]).alloc (.cells #[.func (.func 46) #[] c.ptrs] 77)
    have hm2 := Blk.made ((w2.alloc (.cells (arrN F0) 74)).alloc (.cells #[.slice none 0 0] 25)) 77 #[.func (.func 46) #[] c.ptrs]
    rw [World.size_alloc] at hm
    rw [World.size_alloc, World.size_alloc] at hm2
    have HSIT := Shh.mk (show CSit w.heap.size c (((w2.alloc (.cells (arrN F0) 74)).alloc (.cells #[.slice none 0 0] 25)).alloc (.cells #[.func (.func 46) #[] c.ptrs] 77)) (.slice none 0 0) [] F0 from
      ⟨by rw [hc] at hm ⊢; exact hm, OwnS.voidG _ _, by rw [hc]; exact (HL2.out.alloc _).alloc _, by rw [hc] at hm2 ⊢; exact hm2, fun k hk => by simp [Value.ownBlock] at hk⟩)
    rw [hc] at HSIT
    have HB4 := Shh.mk ((HB3.out.alloc HB3.out.size (.cells #[.slice none 0 0] 25)).alloc (by have := HB3.out.size; simp at this ⊢; omega) (.cells #[.func (.func 46) #[] (CVars.ptrs ⟨w2.heap.size + 1, w2.heap.size, w2.heap.size + 1 + 1⟩)] 77))
    have HEL := Shh.mk (show CHeld ⟨w2.heap.size + 1, w2.heap.size, w2.heap.size + 1 + 1⟩ w.heap.size (((w2.alloc (.cells (arrN F0) 74)).alloc (.cells #[.slice none 0 0] 25)).alloc (.cells #[.func (.func 46) #[] (CVars.ptrs ⟨w2.heap.size + 1, w2.heap.size, w2.heap.size + 1 + 1⟩)] 77)) (.slice none 0 0) (.slice none 0 0) [] from
      ⟨⟨rfl, .inl ⟨rfl, rfl⟩⟩, fun k hk => by simp [Value.ownBlock] at hk⟩)
    have htot : tot F0 27 ≤ s.size := by rw [← HCN.out, tot_cnt (pileB_iff.1 HPL.out).1, len_list]; exact Nat.le_refl _
    have hfew := chosen_few HT.out HP.out
    rw [HCN.out] at hfew
    clear hcp hfp hm hm2 hc
    refine (choose_any HV.out s.size F0 0 [] _ _ [] _ HSIT.out HEL.out HFB.out htot (by omega) (by rw [List.length_nil]; omega) (by rw [List.length_nil]; omega)).mono ?_
    rintro e w4 ⟨rfl, y', hp4⟩
    have HP4 := Shh.mk hp4
    have hy4 := hp4.sit.racks.cells 0
    have HO4 := Shh.mk (show OwnS w.heap.size w4 y' ((chooseL s.size F0 0 []).map txt) by have := hp4.sit.own; rw [List.nil_append] at this; exact this)
    have HBW := Shh.mk (show Below w.heap.size w w4 from HB4.out.trans (hp4.apart.below (fun i hi h => by
      rcases h with h | h | h
      · have := HV.out.b1; simp at h this; omega
      · have := HV.out.b2; simp at h this; omega
      · simp [Value.ownBlock] at h) HB4.out.size))
    have h1 := choose_some s.size F0 0 []
    obtain ⟨L, hL⟩ : ∃ L, (chooseL s.size F0 0 []).map txt = L := ⟨_, rfl⟩
    have hll : L.length = (chooseL s.size F0 0 []).length := by rw [← hL, List.length_map]
    have HLL := Shh.mk hL
    rw [hL] at HO4
    obtain ⟨ya, yc, rfl, -, -, y3⟩ := own_form HO4.out
    obtain ⟨g, rfl, hg1, hg2⟩ := y3 (by omega)
    have HRK := Shh.mk (hp4.sit.racks)
    have HGN := Shh.mk (show w2.heap.size + 1 ≠ g from fun e => hp4.sit.off g rfl (.inl e.symm))
    have hL1 : 1 ≤ L.length := by omega
    have hL2 : L.length ≤ 1024 := by omega
    clear hp4 hL y3 hll h1 hfew
    go_wp2_with fail
    refine (sort_subs HO4.out HRK.out HGN.out hL1 (by omega)).mono ?_
    rintro e w5 ⟨rfl, L', ho5, hp5, hs5, hg5⟩
    have hLL := hp5.length_eq
    have HB5 := Shh.mk (HBW.out.grown hg5 HBW.out.size (fun k hk => by cases hk; exact hg1))
    have hr5 := (hg5.cell ((HRK.out.cells 0 : w4.cell? ⟨w2.heap.size + 1, 0, none⟩ = some _)) (fun e => HGN.out (by injection e)))
    have HEQ := Shh.mk (chosen_are HT.out HP.out (by rw [HCN.out, HLL.out]; exact hp5) hs5)
    have HT2 := Shh.mk ((HT.out.subs HP.out).2)
    have HO5 := Shh.mk ho5
    clear ho5 hp5 hs5 hg5 hy4
    go_wp2
    go_ret2
    rw [HT2.out, ← HEQ.out]
    exact ⟨_, rfl, HO5.out, HB5.out⟩
end Go.Proofs.Ytilagppmljpclaa
