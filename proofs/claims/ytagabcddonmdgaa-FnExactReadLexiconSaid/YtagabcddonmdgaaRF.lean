/-
  Reading a lexicon: the model's answer.
-/
import Derived.Test.YtagabcddonmdgaaRC
import Derived.Test.YtagabcddonmdgaaLB
import Derived.RangeFuncOwn
namespace Go.Proofs.Ytagabcddonmdgaa
open Go.RowKit

theorem pieces_yesB {s : ByteArray} {qs : List ByteArray} (h : pc s (cuts s 10) = qs ++ [⟨#[]⟩]) (hok : okL qs = true) : readOut s = (qs, true) :=
  pieces_yes (by rw [← pieces_list, h]; simp) hok
theorem pieces_badB {s : ByteArray} {qs : List ByteArray} (h : pc s (cuts s 10) = qs ++ [⟨#[]⟩]) (hok : okL qs = false) : readOut s = ([], false) :=
  pieces_bad (by rw [← pieces_list, h]; simp) hok
theorem pieces_lastB {s : ByteArray} {qs : List ByteArray} {x : ByteArray} (h : pc s (cuts s 10) = qs ++ [x]) (hx : ¬ x = ⟨#[]⟩) : readOut s = ([], false) :=
  pieces_last (qs := qs) (x := x) (by rw [← pieces_list, h]; simp) (fun e => hx (by rw [← txt_of x, e]; rfl))
theorem cuts_len (s : ByteArray) : (pc s (cuts s 10)).length ≤ s.size + 1 := by
  have := (cut_le s 10 s.size).2.1
  unfold pc cuts
  simp
  exact this
theorem pc_size {s x : ByteArray} {l : List (Nat × Nat)} (h : x ∈ pc s l) : x.size ≤ s.size := by
  unfold pc at h
  obtain ⟨y, -, rfl⟩ := List.mem_map.1 h
  simp
  omega

theorem Strs.offR {w : World} {g n cap b : Nat} {us : List ByteArray} (h : Strs w (.slice (some ⟨g, 0, none⟩) n cap) us) (hne : g ≠ b) (u : Value) : Strs (w.setCell ⟨b, 0, none⟩ u) (.slice (some ⟨g, 0, none⟩) n cap) us := by
  obtain ⟨a, cap', hv, h1, h2, h3⟩ := h
  refine ⟨a, cap', hv, h1, h2, fun hp => ?_⟩
  obtain ⟨b', off, ha, hlt, hc⟩ := h3 hp
  have hb : b' = g := by
    rw [ha] at hv
    simp only [Value.slice.injEq, Option.some.injEq, Addr.mk.injEq] at hv
    exact hv.1.1.symm
  refine ⟨b', off, ha, Nat.lt_of_lt_of_le hlt (KeepsOthers.setCell w ⟨b, 0, none⟩ u).size, fun j hj => ?_⟩
  exact (World.cell?_of_block (Below.heap_setCell w ⟨b, 0, none⟩ u b' (by show b' ≠ b; omega))).trans (hc j hj)
set_option maxRecDepth 100000 in
set_option maxHeartbeats 2000000 in
theorem specReadLexicon_any (s : ByteArray) (W : World) (hs : s.size ≤ 1048576) :
    Calls Try.prog 11 #[.string s] W fun e w' => ∃ v, e = .returned (.tuple #[.agg #[v], .bool (readOut s).2]) ∧ Strs w' v (readOut s).1 ∧ Below W.heap.size W w' := by
  obtain ⟨qs, x, hp⟩ := pieces_parts s
  have hlen := cuts_len s
  have hzz : ∀ u ∈ pc s (cuts s 10), u.size ≤ s.size := fun u hu => pc_size hu
  have HSP := Shh.mk (l01Split_any s 10 (W.alloc (.cells #[.slice none 0 0] 33)) hs)
  have HP := Shh.mk hp
  rw [hp] at HSP hlen hzz
  have hz : ∀ u ∈ qs, u.size ≤ maxLen := fun u hu => by have := hzz u (by simp [hu]); unfold maxLen; omega
  have bR := Blk.made W 33 #[.slice none 0 0]
  have hB0 := (Below.refl W.heap.size W).alloc (Nat.le_refl _) (.cells #[.slice none 0 0] 33)
  have hql : (qs ++ [x]).length = qs.length + 1 := by simp
  have hqi : ((qs ++ [x]).length : Int) = (qs.length : Int) + 1 := by omega
  have hsa : strAt (qs ++ [x]) qs.length = x := by unfold strAt; simp [List.getD_eq_getElem?_getD]
  have htk : (qs ++ [x]).take qs.length = qs := by simp
  go_enter Try.func11, Try.ntmps11
  go_wp2_with fail
  refine HSP.out.mono ?_
  rintro e w1 ⟨v, rfl, ho, hb1⟩
  have hB1 := Shh.mk (hB0.trans (hb1.mono hB0.size))
  have HR1 := Shh.mk (bR.kept hb1 bR.lt)
  have HS := Shh.mk (OwnS.strs ho)
  obtain ⟨a, cap, rfl, hcp, hcm, hfa⟩ := own_form ho
  obtain ⟨g, rfl, hg1, hg2⟩ := hfa (by omega)
  have hcx := World.ownsRow.cellAt ho qs.length (by omega)
  rw [strAt_map _ _ (by omega), hsa] at hcx
  have HT := Shh.mk (Strs.takeL HS.out (k := qs.length) (by omega))
  rw [htk] at HT
  rw [hql] at hcp ⊢
  clear ho hb1 hB0 bR
  have P2 := Shh.mk (HR1.out.alloc (.cells #[.slice (some ⟨g, 0, none⟩) qs.length cap] 33))
  have HL := Shh.mk (LexAt.made HT.out)
  have HB2 := Shh.mk (hB1.out.alloc hB1.out.size (.cells #[.slice (some ⟨g, 0, none⟩) qs.length cap] 33))
  have c2 := P2.out.cells
  have m2 := P2.out.marks
  have c5 := HL.out.blk.cells
  by_cases hx : x = ⟨#[]⟩
  · subst hx
    have hem : (⟨#[]⟩ : ByteArray).toList.isEmpty = true := by simp [ByteArray.toList, ByteArray.toList.loop, ByteArray.size]
    cases hok : okL qs
    · have HO := Shh.mk (pieces_badB HP.out hok)
      have HK := Shh.mk hok
      clear hok
      go_wp2_with fail
      refine (ok_is HK.out _ HL.out hz).mono ?_
      rintro e w2 ⟨rfl, k, rfl⟩
      go_wp2
      refine bodyPost_ret (v := .tuple #[.agg #[.slice none 0 0], .bool false]) (by simp [results, Try.results11, go_sem, c2]) rfl ?_
      rw [HO.out]
      exact ⟨_, rfl, Strs.void _ _ (Nat.zero_le _), by first | exact (below_drewN HB2.out _).setCell (Nat.le_refl _) _ | exact below_drewN (HB2.out.setCell (Nat.le_refl _) _) _⟩
    · have HO := Shh.mk (pieces_yesB HP.out hok)
      have HK := Shh.mk hok
      clear hok
      go_wp2_with fail
      refine (ok_is HK.out _ HL.out hz).mono ?_
      rintro e w2 ⟨rfl, k, rfl⟩
      go_wp2
      refine bodyPost_ret (v := .tuple #[.agg #[.slice (some ⟨g, 0, none⟩) qs.length cap], .bool true]) (by simp [results, Try.results11, go_sem, c2]) rfl ?_
      rw [HO.out]
      exact ⟨_, rfl, Strs.offR ((HT.out.alloc _).drewN _) (by simp at hg1; omega) _, (below_drewN HB2.out _).setCell (Nat.le_refl _) _⟩
  · have HO := Shh.mk (pieces_lastB HP.out hx)
    have hem : x.toList.isEmpty = false := by
      cases h : x.toList.isEmpty
      · rfl
      · exact absurd (by rw [← txt_of x, ← ByteArray.toList_eq, List.isEmpty_iff.1 h]; rfl) hx
    clear hx
    go_wp2
    refine bodyPost_ret (v := .tuple #[.agg #[.slice none 0 0], .bool false]) (by simp [results, Try.results11, go_sem, c2]) rfl ?_
    rw [HO.out]
    exact ⟨_, rfl, Strs.void _ _ (Nat.zero_le _), by first | exact HB2.out.setCell (Nat.le_refl _) _⟩
end Go.Proofs.Ytagabcddonmdgaa
