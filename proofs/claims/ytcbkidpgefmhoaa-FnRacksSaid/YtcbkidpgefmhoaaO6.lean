/-
  What two piles have in common, and what contains what: the program's.
-/
import Derived.Test.YtcbkidpgefmhoaaO5
namespace Go.Proofs.Ytcbkidpgefmhoaa
open Go.RowKit

set_option maxHeartbeats 1000000 in
theorem implCommonTiles_any (a b : ByteArray) (w : World) (ha : a.size ≤ 1048576) (hb : b.size ≤ 1048576) :
    Calls Try.prog 20 #[.string a, .string b] w fun e w' => e = .returned (ret2 (meetOut a.data.toList b.data.toList)) ∧ Below w.heap.size w w' := by
  obtain ⟨F, hF⟩ : ∃ F, cntP a.data.toList = F := ⟨_, rfl⟩
  obtain ⟨G, hG⟩ : ∃ G, cntP b.data.toList = G := ⟨_, rfl⟩
  have HF := hid hF
  have HG := hid hG
  cases hp : pileB a.data.toList
  · have HP := hid hp
    have HR := hid (meetOut_no (b := b.data.toList) (.inl hp))
    cases hq : pileB b.data.toList
    all_goals
      have HQ := hid hq
      clear hp hq hF hG
      go_enter Try.func20, Try.ntmps20
      go_wp2_with fail
      refine (countPile_any a _ ha).mono ?_
      rw [HP.out, HF.out]
      rintro e w1 ⟨rfl, hb1⟩
      go_wp2_with (first
        | (refine store_lastN rfl _ _ rfl w1 F _ rfl (by rfl) (by rfl) rfl ?_)
        | (go_at_call 49; refine (countPile_any b _ hb).mono ?_; rw [HQ.out, HG.out]; rintro e w2 ⟨rfl, hb2⟩)
        | (refine store_lastN rfl _ _ rfl w2 G _ rfl (by rfl) (by rfl) rfl ?_))
      go_ret2
      exact ⟨ret2_nil HR.out, (twoPiles hb1 hb2).below⟩
  · cases hq : pileB b.data.toList
    · have HP := hid hp
      have HQ := hid hq
      have HR := hid (meetOut_no (a := a.data.toList) (.inr hq))
      clear hp hq hF hG
      go_enter Try.func20, Try.ntmps20
      go_wp2_with fail
      refine (countPile_any a _ ha).mono ?_
      rw [HP.out, HF.out]
      rintro e w1 ⟨rfl, hb1⟩
      go_wp2_with (first
        | (refine store_lastN rfl _ _ rfl w1 F _ rfl (by rfl) (by rfl) rfl ?_)
        | (go_at_call 49; refine (countPile_any b _ hb).mono ?_; rw [HQ.out, HG.out]; rintro e w2 ⟨rfl, hb2⟩)
        | (refine store_lastN rfl _ _ rfl w2 G _ rfl (by rfl) (by rfl) rfl ?_))
      go_ret2
      exact ⟨ret2_nil HR.out, (twoPiles hb1 hb2).below⟩
    · have HP := hid hp
      have HQ := hid hq
      have hla := (pileB_iff.1 hp).2.2
      have hlb := (pileB_iff.1 hq).2.2
      have fa : cnt a.data.toList = F := (cntP_yes hp).symm.trans hF
      have ga : cnt b.data.toList = G := (cntP_yes hq).symm.trans hG
      have HA := hid (cntB a.data.toList (by omega))
      have HB := hid (cntB b.data.toList (by omega))
      have HD := hid (fun k hk => Nat.le_trans (Nat.min_le_left _ _) (cntB a.data.toList (by omega) k hk) : ∀ k, k < 27 → min (cnt a.data.toList k) (cnt b.data.toList k) ≤ 1000)
      have hyes := meetOut_yes hp hq
      obtain ⟨X, hX⟩ : ∃ X, meetL a.data.toList b.data.toList = X := ⟨_, rfl⟩
      have HS := PileIs.mk (show pileN (fun k => min (cnt a.data.toList k) (cnt b.data.toList k)) 27 = X from hX)
      rw [hX] at hyes
      have HR := hid hyes
      rw [fa] at HA HD HS
      rw [ga] at HB HD HS
      clear hp hq hF hG fa ga hla hlb hX hyes
      go_enter Try.func20, Try.ntmps20
      go_wp2_with fail
      refine (countPile_any a _ ha).mono ?_
      rw [HP.out, HF.out]
      rintro e w1 ⟨rfl, hb1⟩
      go_wp2_with (first
        | (refine store_lastN rfl _ _ rfl w1 F _ rfl (by rfl) (by rfl) rfl ?_)
        | (go_at_call 49; refine (countPile_any b _ hb).mono ?_; rw [HQ.out, HG.out]; rintro e w2 ⟨rfl, hb2⟩; have T := twoPiles (G := G) hb1 hb2)
        | (refine store_lastN rfl _ _ rfl w2 G _ rfl (by rfl) (by rfl) rfl ?_)
        | (refine load_arrN rfl _ rfl w1.heap.size (by rfl) F T.first ?_)
        | (refine load_arrN rfl _ rfl w2.heap.size (by rfl) G T.second ?_)
        | (go_at_call 53; refine (common_any F G _ HA.out HB.out).mono ?_; rintro e w4 ⟨rfl, hb4⟩)
        | (go_at_call 51; refine (pileOf_is HS _ HD.out).mono ?_; rintro e w5 ⟨rfl, hb5⟩))
      go_ret2
      have hB := T.below.trans (hb4.mono T.below.size)
      exact ⟨ret2_is HR.out, hB.trans (hb5.mono hB.size)⟩

theorem holdsB_no {a b : List UInt8} (h : pileB a = false ∨ pileB b = false) : holdsB a b = false := by
  unfold holdsB
  rcases h with h | h <;> simp [h]
theorem holdsB_yes {a b : List UInt8} (h1 : pileB a = true) (h2 : pileB b = true) : holdsB a b = leN (cnt b) (cnt a) := by
  unfold holdsB
  rw [h1, h2, leN_has]
  rfl

set_option maxHeartbeats 1000000 in
theorem implContainsTiles_any (a b : ByteArray) (w : World) (ha : a.size ≤ 1048576) (hb : b.size ≤ 1048576) :
    Calls Try.prog 21 #[.string a, .string b] w fun e w' => e = .returned (.bool (holdsB a.data.toList b.data.toList)) ∧ Below w.heap.size w w' := by
  obtain ⟨F, hF⟩ : ∃ F, cntP a.data.toList = F := ⟨_, rfl⟩
  obtain ⟨G, hG⟩ : ∃ G, cntP b.data.toList = G := ⟨_, rfl⟩
  have HF := hid hF
  have HG := hid hG
  cases hp : pileB a.data.toList
  · have HP := hid hp
    have HR := hid (holdsB_no (b := b.data.toList) (.inl hp))
    cases hq : pileB b.data.toList
    all_goals
      have HQ := hid hq
      clear hp hq hF hG
      go_enter Try.func21, Try.ntmps21
      go_wp2_with fail
      refine (countPile_any a _ ha).mono ?_
      rw [HP.out, HF.out]
      rintro e w1 ⟨rfl, hb1⟩
      go_wp2_with (first
        | (refine store_lastN rfl _ _ rfl w1 F _ rfl (by rfl) (by rfl) rfl ?_)
        | (go_at_call 49; refine (countPile_any b _ hb).mono ?_; rw [HQ.out, HG.out]; rintro e w2 ⟨rfl, hb2⟩)
        | (refine store_lastN rfl _ _ rfl w2 G _ rfl (by rfl) (by rfl) rfl ?_))
      go_ret
      exact ⟨ret_bool HR.out.symm, (twoPiles hb1 hb2).below⟩
  · cases hq : pileB b.data.toList
    · have HP := hid hp
      have HQ := hid hq
      have HR := hid (holdsB_no (a := a.data.toList) (.inr hq))
      clear hp hq hF hG
      go_enter Try.func21, Try.ntmps21
      go_wp2_with fail
      refine (countPile_any a _ ha).mono ?_
      rw [HP.out, HF.out]
      rintro e w1 ⟨rfl, hb1⟩
      go_wp2_with (first
        | (refine store_lastN rfl _ _ rfl w1 F _ rfl (by rfl) (by rfl) rfl ?_)
        | (go_at_call 49; refine (countPile_any b _ hb).mono ?_; rw [HQ.out, HG.out]; rintro e w2 ⟨rfl, hb2⟩)
        | (refine store_lastN rfl _ _ rfl w2 G _ rfl (by rfl) (by rfl) rfl ?_))
      go_ret
      exact ⟨ret_bool HR.out.symm, (twoPiles hb1 hb2).below⟩
    · have HP := hid hp
      have HQ := hid hq
      have hla := (pileB_iff.1 hp).2.2
      have hlb := (pileB_iff.1 hq).2.2
      have fa : cnt a.data.toList = F := (cntP_yes hp).symm.trans hF
      have ga : cnt b.data.toList = G := (cntP_yes hq).symm.trans hG
      have HA := hid (cntB a.data.toList (by omega))
      have HB := hid (cntB b.data.toList (by omega))
      have HR := hid (holdsB_yes hp hq)
      rw [fa] at HA HR
      rw [ga] at HB HR
      clear hp hq hF hG fa ga hla hlb
      go_enter Try.func21, Try.ntmps21
      go_wp2_with fail
      refine (countPile_any a _ ha).mono ?_
      rw [HP.out, HF.out]
      rintro e w1 ⟨rfl, hb1⟩
      go_wp2_with (first
        | (refine store_lastN rfl _ _ rfl w1 F _ rfl (by rfl) (by rfl) rfl ?_)
        | (go_at_call 49; refine (countPile_any b _ hb).mono ?_; rw [HQ.out, HG.out]; rintro e w2 ⟨rfl, hb2⟩; have T := twoPiles (G := G) hb1 hb2)
        | (refine store_lastN rfl _ _ rfl w2 G _ rfl (by rfl) (by rfl) rfl ?_)
        | (refine load_wanted 4 true 23 rfl (by rfl) (by rfl) 52 _ rfl w1.heap.size (by rfl) 52 _ _ T.first Try.underlying52 rfl (arr_info _) ?_)
        | (refine load_wanted 4 true 23 rfl (by rfl) (by rfl) 52 _ rfl w2.heap.size (by rfl) 52 _ _ T.second Try.underlying52 rfl (arr_info _) ?_)
        | (go_at_call 50; refine (contains_any F G _ HA.out HB.out).mono ?_; rintro e w3 ⟨rfl, hb3⟩))
      go_ret
      exact ⟨ret_bool HR.out.symm, T.below.trans (hb3.mono T.below.size)⟩
end Go.Proofs.Ytcbkidpgefmhoaa
