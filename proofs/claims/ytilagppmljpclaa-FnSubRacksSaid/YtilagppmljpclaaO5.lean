/-
  The program's taking of tiles, what contains what, and what two piles have in common.
-/
import Derived.Test.YtilagppmljpclaaO4
namespace Go.Proofs.Ytilagppmljpclaa
open Go.RowKit

theorem leN_has {a b : List UInt8} : leN (cnt b) (cnt a) = hasAll a b := by
  rw [Bool.eq_iff_iff, leN_iff, hasAll_iff]
/-- One pile without the tiles of another one. -/
def lessL (a b : List UInt8) : List UInt8 := pileN (fun k => cnt a k - cnt b k) 27
/-- What two piles have in common. -/
def meetL (a b : List UInt8) : List UInt8 := pileN (fun k => min (cnt a k) (cnt b k)) 27
def takeOut (a b : List UInt8) : List UInt8 × Int := if pileB a = true ∧ pileB b = true then (if hasAll a b = true then (lessL a b, 0) else ([], 3)) else ([], 1)
theorem takeOut_no {a b : List UInt8} (h : pileB a = false ∨ pileB b = false) : takeOut a b = ([], 1) := by
  unfold takeOut
  rw [if_neg]
  rintro ⟨h1, h2⟩
  rcases h with h | h
  · rw [h1] at h; cases h
  · rw [h2] at h; cases h
theorem takeOut_yes {a b : List UInt8} (h1 : pileB a = true) (h2 : pileB b = true) (h : hasAll a b = true) : takeOut a b = (lessL a b, 0) := by
  unfold takeOut
  rw [if_pos ⟨h1, h2⟩, if_pos h]
theorem takeOut_not {a b : List UInt8} (h1 : pileB a = true) (h2 : pileB b = true) (h : hasAll a b = false) : takeOut a b = ([], 3) := by
  unfold takeOut
  rw [if_pos ⟨h1, h2⟩, if_neg (by rw [h]; exact fun e => by cases e)]
def meetOut (a b : List UInt8) : List UInt8 × Int := if pileB a = true ∧ pileB b = true then (meetL a b, 0) else ([], 1)
theorem meetOut_no {a b : List UInt8} (h : pileB a = false ∨ pileB b = false) : meetOut a b = ([], 1) := by
  unfold meetOut
  rw [if_neg]
  rintro ⟨h1, h2⟩
  rcases h with h | h
  · rw [h1] at h; cases h
  · rw [h2] at h; cases h
theorem meetOut_yes {a b : List UInt8} (h1 : pileB a = true) (h2 : pileB b = true) : meetOut a b = (meetL a b, 0) := by
  unfold meetOut
  rw [if_pos ⟨h1, h2⟩]
def holdsB (a b : List UInt8) : Bool := pileB a && pileB b && hasAll a b

/-- What two calls of countPile leave: the two arrays in two variables, behind the heap's old end. -/
structure TwoPiles (w w1 w2 : World) (F G : Nat → Nat) : Prop where
  below : Below w.heap.size w (w2.alloc (.cells (arrN G) 74))
  first : Blk (w2.alloc (.cells (arrN G) 74)) w1.heap.size 74 (arrN F)
  second : Blk (w2.alloc (.cells (arrN G) 74)) w2.heap.size 74 (arrN G)
  size1 : w.heap.size ≤ w1.heap.size
  size2 : w1.heap.size < w2.heap.size
theorem twoPiles {w w1 w2 : World} {F G : Nat → Nat} (hb1 : Below w.heap.size w w1)
    (hb2 : Below (w1.alloc (.cells (arrN F) 74)).heap.size (w1.alloc (.cells (arrN F) 74)) w2) : TwoPiles w w1 w2 F G := by
  have h1 := hb1.size
  have h2 := hb2.size
  rw [World.size_alloc] at h2
  exact ⟨((hb1.alloc h1 _).trans (hb2.mono (by rw [World.size_alloc]; omega))).alloc (by omega) _, ((Blk.made _ _ _).kept hb2 (by rw [World.size_alloc]; omega)).alloc _, Blk.made _ _ _, h1, by omega⟩

set_option maxHeartbeats 1000000 in
theorem implTakeTiles_any (a b : ByteArray) (w : World) (ha : a.size ≤ 1048576) (hb : b.size ≤ 1048576) :
    Calls Try.prog 13 #[.string a, .string b] w fun e w' => e = .returned (ret2 (takeOut a.data.toList b.data.toList)) ∧ Below w.heap.size w w' := by
  obtain ⟨F, hF⟩ : ∃ F, cntP a.data.toList = F := ⟨_, rfl⟩
  obtain ⟨G, hG⟩ : ∃ G, cntP b.data.toList = G := ⟨_, rfl⟩
  have HF := hid hF
  have HG := hid hG
  cases hp : pileB a.data.toList
  · have HP := hid hp
    have HR := hid (takeOut_no (b := b.data.toList) (.inl hp))
    cases hq : pileB b.data.toList
    all_goals
      have HQ := hid hq
      clear hp hq hF hG
      go_enter Try.func13, Try.ntmps13
      go_wp2_with fail
      refine (countPile_any a _ ha).mono ?_
      rw [HP.out, HF.out]
      rintro e w1 ⟨rfl, hb1⟩
      go_wp2_with (first
        | (refine store_lastN rfl _ _ rfl w1 F _ rfl (by rfl) (by rfl) rfl ?_)
        | (go_at_call 45; refine (countPile_any b _ hb).mono ?_; rw [HQ.out, HG.out]; rintro e w2 ⟨rfl, hb2⟩)
        | (refine store_lastN rfl _ _ rfl w2 G _ rfl (by rfl) (by rfl) rfl ?_))
      go_ret2
      exact ⟨ret2_nil HR.out, (twoPiles hb1 hb2).below⟩
  · cases hq : pileB b.data.toList
    · have HP := hid hp
      have HQ := hid hq
      have HR := hid (takeOut_no (a := a.data.toList) (.inr hq))
      clear hp hq hF hG
      go_enter Try.func13, Try.ntmps13
      go_wp2_with fail
      refine (countPile_any a _ ha).mono ?_
      rw [HP.out, HF.out]
      rintro e w1 ⟨rfl, hb1⟩
      go_wp2_with (first
        | (refine store_lastN rfl _ _ rfl w1 F _ rfl (by rfl) (by rfl) rfl ?_)
        | (go_at_call 45; refine (countPile_any b _ hb).mono ?_; rw [HQ.out, HG.out]; rintro e w2 ⟨rfl, hb2⟩)
        | (refine store_lastN rfl _ _ rfl w2 G _ rfl (by rfl) (by rfl) rfl ?_))
      go_ret2
      exact ⟨ret2_nil HR.out, (twoPiles hb1 hb2).below⟩
    · have HP := hid hp
      have HQ := hid hq
      have hla := (pileB_iff.1 hp).2.2
      have hlb := (pileB_iff.1 hq).2.2
      have fa : cnt a.data.toList = F := (cntP_yes hp).symm.trans hF
      have ga : cnt b.data.toList = G := (cntP_yes hq).symm.trans hG
      have HA := hid (cntB a.data.toList (by omega))
      have HB := hid (cntB b.data.toList (by omega))
      rw [fa] at HA
      rw [ga] at HB
      cases hh : hasAll a.data.toList b.data.toList
      · have HR := hid (takeOut_not hp hq hh)
        have HH := hid (leN_has.trans hh)
        rw [fa, ga] at HH
        clear hp hq hF hG hh fa ga hla hlb
        go_enter Try.func13, Try.ntmps13
        go_wp2_with fail
        refine (countPile_any a _ ha).mono ?_
        rw [HP.out, HF.out]
        rintro e w1 ⟨rfl, hb1⟩
        go_wp2_with (first
          | (refine store_lastN rfl _ _ rfl w1 F _ rfl (by rfl) (by rfl) rfl ?_)
          | (go_at_call 45; refine (countPile_any b _ hb).mono ?_; rw [HQ.out, HG.out]; rintro e w2 ⟨rfl, hb2⟩; have T := twoPiles (G := G) hb1 hb2)
          | (refine store_lastN rfl _ _ rfl w2 G _ rfl (by rfl) (by rfl) rfl ?_)
          | (refine load_arrN rfl _ rfl w1.heap.size (by rfl) F T.first ?_)
          | (refine load_arrN rfl _ rfl w2.heap.size (by rfl) G T.second ?_)
          | (go_at_call 50; refine (contains_any F G _ HA.out HB.out).mono ?_; rw [HH.out]; rintro e w3 ⟨rfl, hb3⟩))
        go_ret2
        exact ⟨ret2_nil HR.out, T.below.trans (hb3.mono T.below.size)⟩
      · have HH := hid (leN_has.trans hh)
        have HLE := hid (leN_iff.1 HH.out)
        have HD := hid (fun k hk => Nat.le_trans (Nat.sub_le _ _) (cntB a.data.toList (by omega) k hk) : ∀ k, k < 27 → cnt a.data.toList k - cnt b.data.toList k ≤ 1000)
        have hyes := takeOut_yes hp hq hh
        obtain ⟨X, hX⟩ : ∃ X, lessL a.data.toList b.data.toList = X := ⟨_, rfl⟩
        have HS := PileIs.mk (show pileN (fun k => cnt a.data.toList k - cnt b.data.toList k) 27 = X from hX)
        rw [hX] at hyes
        have HR := hid hyes
        rw [fa, ga] at HH HLE HD HS
        clear hp hq hF hG hh fa ga hla hlb hX hyes
        go_enter Try.func13, Try.ntmps13
        go_wp2_with fail
        refine (countPile_any a _ ha).mono ?_
        rw [HP.out, HF.out]
        rintro e w1 ⟨rfl, hb1⟩
        go_wp2_with (first
          | (refine store_lastN rfl _ _ rfl w1 F _ rfl (by rfl) (by rfl) rfl ?_)
          | (go_at_call 45; refine (countPile_any b _ hb).mono ?_; rw [HQ.out, HG.out]; rintro e w2 ⟨rfl, hb2⟩; have T := twoPiles (G := G) hb1 hb2)
          | (refine store_lastN rfl _ _ rfl w2 G _ rfl (by rfl) (by rfl) rfl ?_)
          | (refine load_arrN rfl _ rfl w1.heap.size (by rfl) F T.first ?_)
          | (refine load_arrN rfl _ rfl w2.heap.size (by rfl) G T.second ?_)
          | (go_at_call 50; refine (contains_any F G _ HA.out HB.out).mono ?_; rw [HH.out]; rintro e w3 ⟨rfl, hb3⟩
             have T3 := hid (T.first.kept hb3 (by have := T.size2; simp; omega))
             have T4 := hid (T.second.kept hb3 (by simp)))
          | (refine load_arrN rfl _ rfl w1.heap.size (by rfl) F T3.out ?_)
          | (refine load_arrN rfl _ rfl w2.heap.size (by rfl) G T4.out ?_)
          | (go_at_call 52; refine (without_any F G _ HA.out HLE.out).mono ?_; rintro e w4 ⟨rfl, hb4⟩)
          | (go_at_call 51; refine (pileOf_is HS _ HD.out).mono ?_; rintro e w5 ⟨rfl, hb5⟩))
        go_ret2
        have hB := ((T.below.trans (hb3.mono T.below.size)).trans (hb4.mono (T.below.trans (hb3.mono T.below.size)).size))
        exact ⟨ret2_is HR.out, hB.trans (hb5.mono hB.size)⟩
end Go.Proofs.Ytilagppmljpclaa
