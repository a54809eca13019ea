/-
  The sub-racks of a rack: the program's function that chooses tiles.
-/
import Derived.Test.YtilagppmljpclaaJ5
import Derived.Test.YtilagppmljpclaaJ7
import Derived.Test.YtilagppmljpclaaU1
import Derived.Deep.RegionHeld3
namespace Go.Proofs.Ytilagppmljpclaa
open Go.RowKit

/-- What the choices of one kind add. -/
def chunk (n : Nat) (F : Nat → Nat) (pl : List UInt8) (j : Nat) : List (List UInt8) := if F j = 0 then [] else match n with | 0 => [] | m + 1 => chooseL m (decK F j) j (pl ++ [tileOf j])
theorem choose_chunks {n : Nat} {F : Nat → Nat} {k : Nat} {pl : List UInt8} (h : tot F 27 ≤ n) : chooseL n F k pl = pl :: (List.range' k (27 - k)).flatMap (chunk n F pl) := by
  cases n with
  | zero =>
    have hz : (List.range' k (27 - k)).flatMap (chunk 0 F pl) = [] := by
      rw [List.flatMap_eq_nil_iff]
      intro j _
      unfold chunk
      split <;> rfl
    rw [hz, chooseL]
  | succ n => rw [chooseL]; rfl
def chunks (n : Nat) (F : Nat → Nat) (pl : List UInt8) (k j : Nat) : List (List UInt8) := pl :: (List.range' k (j - k)).flatMap (chunk n F pl)
theorem chunks_start (n : Nat) (F : Nat → Nat) (pl : List UInt8) (k : Nat) : chunks n F pl k k = [pl] := by simp [chunks]
theorem chunks_more (n : Nat) (F : Nat → Nat) (pl : List UInt8) {k j : Nat} (h : k ≤ j) : chunks n F pl k (j + 1) = chunks n F pl k j ++ chunk n F pl j := by
  unfold chunks
  rw [show j + 1 - k = (j - k) + 1 by omega, List.range'_1_concat, List.flatMap_append]
  simp
  rw [show k + (j - k) = j by omega]
theorem chunks_len (n : Nat) (F : Nat → Nat) (pl : List UInt8) {k j : Nat} (h : k ≤ j) : ∀ i, (chunks n F pl k j).length ≤ (chunks n F pl k (j + i)).length
  | 0 => Nat.le_refl _
  | i + 1 => by
    have := chunks_len n F pl h i
    rw [show j + (i + 1) = (j + i) + 1 by omega, chunks_more n F pl (by omega), List.length_append]
    omega

structure CVars where
  racks : Nat
  left : Nat
  choose : Nat
def CVars.has (c : CVars) (k : Nat) : Prop := k = c.racks ∨ k = c.left ∨ k = c.choose
def CVars.ptrs (c : CVars) : Array Value := #[.pointer (some ⟨c.racks, 0, none⟩), .pointer (some ⟨c.left, 0, none⟩), .pointer (some ⟨c.choose, 0, none⟩)]
structure CVars.Parted (B : Nat) (c : CVars) : Prop where
  a1 : c.racks ≠ c.left
  a2 : c.racks ≠ c.choose
  a3 : c.left ≠ c.choose
  b1 : B ≤ c.racks
  b2 : B ≤ c.left
  b3 : B ≤ c.choose
/-- What the three variables hold. -/
structure CSit (B : Nat) (c : CVars) (w : World) (y : Value) (ys : List ByteArray) (F : Nat → Nat) : Prop where
  racks : Blk w c.racks 25 #[y]
  own : OwnS B w y ys
  left : Blk w c.left 74 (arrN F)
  choose : Blk w c.choose 77 #[.func (.func 46) #[] c.ptrs]
  off : ∀ k, y.ownBlock = some k → ¬ c.has k
theorem CSit.below {B : Nat} {c : CVars} {w w' : World} {y : Value} {ys : List ByteArray} {F : Nat → Nat} (h : CSit B c w y ys F) (hb : Below w.heap.size w w') : CSit B c w' y ys F :=
  ⟨h.racks.kept hb h.racks.lt, OwnS.kept h.own hb, h.left.kept hb h.left.lt, h.choose.kept hb h.choose.lt, h.off⟩
theorem CSit.far {B : Nat} {c : CVars} {w : World} {y : Value} {ys : List ByteArray} {F : Nat → Nat} (h : CSit B c w y ys F) {k : Nat} (hk : c.has k) : y.ownBlock ≠ some k := fun e => h.off k e hk
theorem CSit.lts {B : Nat} {c : CVars} {w : World} {y : Value} {ys : List ByteArray} {F : Nat → Nat} (h : CSit B c w y ys F) : ∀ k, c.has k → k < w.heap.size := by
  rintro k (rfl | rfl | rfl)
  · exact h.racks.lt
  · exact h.left.lt
  · exact h.choose.lt
theorem CSit.base {B : Nat} {c : CVars} {w : World} {y : Value} {ys : List ByteArray} {F : Nat → Nat} (h : CSit B c w y ys F) (hc : c.Parted B) : B ≤ w.heap.size := by
  have := h.racks.lt
  have := hc.b1
  omega
theorem CSit.count {B : Nat} {c : CVars} {w : World} {y : Value} {ys : List ByteArray} {F G : Nat → Nat} (h : CSit B c w y ys F) (hc : c.Parted B) (k : Nat) (u : Value) (hG : (arrN F).setIfInBounds k u = arrN G) :
    CSit B c (w.setCell ⟨c.left, k, none⟩ u) y ys G := by
  have hl := h.left.stored k u
  rw [hG] at hl
  refine ⟨h.racks.other hc.a1 u, ?_, hl, h.choose.other hc.a3.symm u, h.off⟩
  exact OwnS.apart h.own ((Apart.refl (fun b => b = c.left) w).setCell (p := ⟨c.left, k, none⟩) (fun _ => rfl) u) fun k hk e => h.off k hk (by rw [e]; exact .inr (.inl rfl))
theorem CSit.push {B : Nat} {c : CVars} {w w' : World} {y : Value} {ys : List ByteArray} {F : Nat → Nat} {g n cap : Nat} {t : ByteArray} (h : CSit B c w y ys F) (hc : c.Parted B)
    (ho : OwnS B w' (.slice (some ⟨g, 0, none⟩) n cap) (ys ++ [t])) (hk : Apart (fun b => y.ownBlock = some b) w w') (hl : y.ownBlock = some g ∨ w.heap.size ≤ g) :
    CSit B c (w'.setCell ⟨c.racks, 0, none⟩ (.slice (some ⟨g, 0, none⟩) n cap)) (.slice (some ⟨g, 0, none⟩) n cap) (ys ++ [t]) F := by
  have hg : ∀ k, c.has k → g ≠ k := fun k hk e => by
    rcases hl with hl | hl
    · exact h.far hk (by rw [hl, e])
    · have := h.lts k hk
      omega
  have w2 := (h.racks.apart hk (h.far (.inl rfl))).stored 0 (.slice (some ⟨g, 0, none⟩) n cap)
  have w3 := (h.left.apart hk (h.far (.inr (.inl rfl)))).other (p := ⟨c.racks, 0, none⟩) hc.a1.symm (.slice (some ⟨g, 0, none⟩) n cap)
  have w4 := (h.choose.apart hk (h.far (.inr (.inr rfl)))).other (p := ⟨c.racks, 0, none⟩) hc.a2.symm (.slice (some ⟨g, 0, none⟩) n cap)
  refine ⟨w2, ?_, w3, w4, fun k hk hh => ?_⟩
  · exact OwnS.apart ho ((Apart.refl (fun k => k = c.racks) w').setCell (p := ⟨c.racks, 0, none⟩) (fun _ => rfl) _) (fun k hk e => by
      simp [Value.ownBlock] at hk
      exact hg c.racks (.inl rfl) (by rw [hk, e]))
  · simp [Value.ownBlock] at hk
    exact hg k hh hk
structure CHeld (c : CVars) (B : Nat) (w : World) (y v : Value) (pl : List UInt8) : Prop where
  own : OwnB B w v pl
  off : ∀ k, v.ownBlock = some k → ¬ c.has k ∧ y.ownBlock ≠ some k
theorem CHeld.new {c : CVars} {B : Nat} {w w' : World} {y v : Value} {l : List UInt8} (h : OwnB w.heap.size w' v l) (hB : B ≤ w.heap.size) (hy : ∀ k, y.ownBlock = some k → k < w.heap.size) (hc : ∀ k, c.has k → k < w.heap.size) : CHeld c B w' y v l :=
  ⟨own_lower h hB, fun k hk => ⟨fun e => by have := (World.ownsRow.lt h k hk).1; have := hc k e; omega, fun e => by have := (World.ownsRow.lt h k hk).1; have := hy k e; omega⟩⟩
structure Chosen (B : Nat) (c : CVars) (w w' : World) (y : Value) (ys : List ByteArray) (F : Nat → Nat) (zs : List ByteArray) (y' : Value) : Prop where
  sit : CSit B c w' y' (ys ++ zs) F
  apart : Apart (fun k => k = c.racks ∨ k = c.left ∨ y.ownBlock = some k) w w'
  near : ∀ k, y'.ownBlock = some k → y.ownBlock = some k ∨ w.heap.size ≤ k
theorem notC {c : CVars} {y : Value} {k : Nat} (h1 : ¬ c.has k) (h2 : y.ownBlock ≠ some k) : ¬ (k = c.racks ∨ k = c.left ∨ y.ownBlock = some k) := by
  rintro (h | h | h)
  · exact h1 (.inl h)
  · exact h1 (.inr (.inl h))
  · exact h2 h
/-- One chosen behind the other. -/
theorem Chosen.then {B : Nat} {c : CVars} {w w1 w2 : World} {y y1 y2 : Value} {ys us vs : List ByteArray} {F : Nat → Nat} (h1 : Chosen B c w w1 y ys F us y1) (h2 : Chosen B c w1 w2 y1 (ys ++ us) F vs y2) : Chosen B c w w2 y ys F (us ++ vs) y2 :=
  ⟨by rw [← List.append_assoc]; exact h2.sit, h1.apart.trans h2.apart (fun i hi h => by
      rcases h with h | h | h
      · exact .inl h
      · exact .inr (.inl h)
      · exact .inr (.inr ((h1.near i h).elim id (fun h2 => by omega)))), fun k hk => (h2.near k hk).elim (fun h => h1.near k h) (fun h => .inr (by have := h1.apart.size; omega))⟩
def ChooseDoes (B : Nat) (c : CVars) (n : Nat) : Prop :=
  ∀ (F : Nat → Nat) (k : Nat) (pl : List UInt8) (w : World) (y : Value) (ys : List ByteArray) (v : Value), CSit B c w y ys F → CHeld c B w y v pl → (∀ j, F j ≤ 1000) → tot F 27 ≤ n → k < 27 → pl.length + n ≤ 100 → ys.length + (chooseL n F k pl).length ≤ 100000 →
    Calls Try.prog 46 #[v, .int .i64 (k : Int), .pointer (some ⟨c.racks, 0, none⟩), .pointer (some ⟨c.left, 0, none⟩), .pointer (some ⟨c.choose, 0, none⟩)] w fun e w' => e = .returned (.tuple #[]) ∧ ∃ y', Chosen B c w w' y ys F ((chooseL n F k pl).map txt) y'

/-! ### The tiles in their order -/
def orderT : ByteArray := ⟨#[63, 97, 98, 99, 100, 101, 102, 103, 104, 105, 106, 107, 108, 109, 110, 111, 112, 113, 114, 115, 116, 117, 118, 119, 120, 121, 122]⟩
theorem order_at : ∀ j : Fin 27, orderT[j.1]'(by have := j.2; exact this) = tileOf j.1 := by decide
theorem order_is (j : Nat) (hj : j < 27) (w : World) : (Instr.index 9 (.string orderT) (.int .i64 (j : Int))).run Try.prog w = .ok (.int .u8 ((tileOf j).toNat : Int)) w := by
  have := byte_atU orderT (j : Int) j rfl (by exact hj) w
  rw [this]
  have h2 := order_at ⟨j, hj⟩
  simp only at h2
  rw [h2]

set_option maxRecDepth 100000 in
set_option maxHeartbeats 4000000 in
theorem choose_step {B : Nat} {c : CVars} (hc : c.Parted B) (n : Nat) (hrec : ∀ m, n = m + 1 → ChooseDoes B c m) : ChooseDoes B c n := by
  intro F k pl w y ys v hs hv hF hT hk hpl hys
  have HC := Shh.mk hc
  have HR := Shh.mk hrec
  have HF := Shh.mk hF
  have HT := Shh.mk hT
  have HCH := Shh.mk (choose_chunks (n := n) (F := F) (k := k) (pl := pl) hT)
  have hcl : (chooseL n F k pl).length = (chunks n F pl k (k + (27 - k))).length := by rw [HCH.out]; unfold chunks; rw [show k + (27 - k) - k = 27 - k by omega]
  have hcl1 := chunks_len n F pl (Nat.le_refl k) (27 - k)
  rw [chunks_start] at hcl1
  have hyl : ys.length ≤ 100000 := by omega
  have hyl1 : ys.length + (chunks n F pl k 27).length ≤ 100000 := by rw [show 27 = k + (27 - k) by omega, ← hcl]; exact hys
  have HYL := Shh.mk hyl1
  have hcv := convB hv.own
  have hyc := hs.racks.cells 0
  have HS := Shh.mk hs
  have HV := Shh.mk hv
  have HB0 := Shh.mk (hs.base hc)
  have HO1 := Shh.mk hs.own
  obtain ⟨ya, yc, rfl, y1, y2, -⟩ := own_form hs.own
  have hk0 : (0 : Int) ≤ (k : Int) := by omega
  clear hs hv hc hF hT hys hrec hcl hcl1 hyl1
  go_enter Try.func46, Try.ntmps46
  go_wp2_with (at_builtin; refine wpList_appendH rfl _ _ rfl _ ys (txt pl) rfl rfl (by simp) HS.out.own (by omega) HB0.out ?_; intro g5 c5 w5 ho5 hk5 hl5; have HP := Shh.mk (HS.out.push HC.out ho5 hk5 hl5); have HK := Shh.mk hk5; have HL := Shh.mk hl5; have hy5 := ((HS.out.racks.apart hk5 (HS.out.far (.inl rfl))).cells) 0; have hf5 := (HS.out.racks.apart hk5 (HS.out.far (.inl rfl))).marks 0; clear ho5 hk5 hl5)
  have HCH1 : Shh (Chosen B c w (w5.setCell ⟨c.racks, 0, none⟩ (.slice (some ⟨g5, 0, none⟩) (ys.length + 1) c5)) (.slice ya ys.length yc) ys F [txt pl] (.slice (some ⟨g5, 0, none⟩) (ys.length + 1) c5)) :=
    ⟨⟨HP.out, ((Apart.refl _ w).trans HK.out (fun _ _ h => .inr (.inr h))).setCell (p := ⟨c.racks, 0, none⟩) (fun _ => .inl rfl) _, fun j hj => by
      simp [Value.ownBlock] at hj
      subst hj
      exact HL.out⟩⟩
  have hvw5 : Below w.heap.size w w := Below.refl _ _
  clear HK HL HP hy5 hf5 hyc hcv HO1 hvw5 y1 y2
  go_loopw [7] (fun i wr => ∃ (j : Nat) (y' : Value), k ≤ j ∧ j ≤ 27 ∧ i = .int .i64 j ∧ Shh (Chosen B c w wr (.slice ya ys.length yc) ys F ((chunks n F pl k j).map txt) y')) (fun i _ => 27 - (intOf i).toNat)
  case atStart => exact ⟨k, _, Nat.le_refl _, by omega, rfl, by rw [chunks_start]; exact HCH1⟩
  case round =>
    obtain ⟨j, y', hkj, hj27, rfl, hch⟩ := hrel
    by_cases hlt : j < 27
    · have hj0 : (0 : Int) ≤ (j : Int) := by omega
      have hjl : (j : Int) < 27 := by omega
      have hc0 : wr.cell? ⟨c.left, j, none⟩ = some (.int .i64 (F j : Int)) := by rw [hch.out.sit.left.cells, arrN_at F hlt]
      have hfr := hch.out.sit.left.marks j
      have hFj := HF.out j
      have hmore := chunks_more n F pl hkj
      by_cases hz : F j = 0
      · have hzz : ((F j : Int) == 0) = true := by rw [hz]; rfl
        have HN : Shh (Chosen B c w wr (.slice ya ys.length yc) ys F ((chunks n F pl k (j + 1)).map txt) y') := ⟨by
          have e : chunk n F pl j = [] := by unfold chunk; rw [if_pos hz]
          rw [hmore, e, List.append_nil]
          exact hch.out⟩
        clear hz hmore hFj
        go_wp2
        go_roundw
        case rel => exact ⟨j + 1, y', by omega, by omega, by go_num, HN⟩
        case measure => simp [intOf]; omega
      · have hzz : ((F j : Int) == 0) = false := beq_eq_false_iff_ne.2 (by omega)
        have htg := tot_ge (F := F) hlt
        obtain ⟨m, hm⟩ : ∃ m, n = m + 1 := ⟨n - 1, by have := HT.out; omega⟩
        have htd := tot_dec hz (n := 27)
        rw [if_pos hlt] at htd
        have HTD := Shh.mk (show tot (decK F j) 27 ≤ m by have := HT.out; omega)
        have hchk : chunk n F pl j = chooseL m (decK F j) j (pl ++ [tileOf j]) := by unfold chunk; rw [if_neg hz, hm]
        have HMO := Shh.mk (show (chunks n F pl k (j + 1)).map txt = (chunks n F pl k j).map txt ++ (chooseL m (decK F j) j (pl ++ [tileOf j])).map txt by rw [hmore, hchk, List.map_append])
        have hlen := chunks_len n F pl (show k ≤ j + 1 by omega) (27 - (j + 1))
        rw [show j + 1 + (27 - (j + 1)) = 27 by omega, hmore, List.length_append, hchk] at hlen
        have HLEN := Shh.mk (show (ys ++ (chunks n F pl k j).map txt).length + (chooseL m (decK F j) j (pl ++ [tileOf j])).length ≤ 100000 by rw [List.length_append, List.length_map]; have := HYL.out; omega)
        have HS1 := Shh.mk (hch.out.sit.count HC.out j _ (arrN_dec hz))
        have HINC := Shh.mk (arrN_inc hz)
        obtain ⟨q, hq⟩ : ∃ q, F j = q := ⟨_, rfl⟩
        rw [hq] at hc0 hzz HS1 HINC hFj
        have hdec : decK F j j = q - 1 := by unfold decK; rw [if_pos rfl, hq]
        have hq1 : 1 ≤ q := by omega
        have HFD := Shh.mk (show ∀ i, decK F j i ≤ 1000 from fun i => by unfold decK; have := HF.out i; split <;> omega)
        have HRM := Shh.mk (HR.out m hm)
        have hplm : (pl ++ [tileOf j]).length + m ≤ 100 := by rw [List.length_append, List.length_singleton]; omega
        obtain ⟨G, hG⟩ : ∃ G, decK F j = G := ⟨_, rfl⟩
        rw [hG] at HS1 HINC HMO HFD HTD HLEN hdec
        obtain ⟨Tj, hTj⟩ : ∃ Tj, tileOf j = Tj := ⟨_, rfl⟩
        have hix := order_is j hlt
        unfold orderT at hix
        rw [hTj] at HMO HLEN hplm hix
        have hA1 := Shh.mk ((Apart.refl (fun k => k = c.racks ∨ k = c.left ∨ y'.ownBlock = some k) wr).setCell (p := ⟨c.left, j, none⟩) (fun _ => .inr (.inl rfl)) (.int .i64 ((q : Int) - 1)))
        have HVO := Shh.mk (show OwnB B wr v pl from own_apart HV.out.own hch.out.apart (fun i hi => notC (HV.out.off i hi).1 (HV.out.off i hi).2))
        have HVN := Shh.mk (show ∀ i, v.ownBlock = some i → i < w.heap.size ∧ ¬ c.has i ∧ y'.ownBlock ≠ some i from fun i hi => ⟨(World.ownsRow.lt HV.out.own i hi).2, (HV.out.off i hi).1, fun e => (hch.out.near i e).elim (HV.out.off i hi).2 (fun h => by have := (World.ownsRow.lt HV.out.own i hi).2; omega)⟩)
        clear hz htg htd hchk hlen hmore hq hG hTj hm hlt
        go_wp2_with fail
        obtain ⟨W1, hW1⟩ : ∃ x, wr.setCell ⟨c.left, j, none⟩ (.int .i64 ((q : Int) - 1)) = x := ⟨_, rfl⟩
        rw [hW1] at HS1 hA1 ⊢
        have HB1 := Shh.mk (show B ≤ W1.heap.size from HS1.out.base HC.out)
        have HSZ := Shh.mk (show W1.heap.size = wr.heap.size by rw [← hW1]; simp)
        have HV1 := Shh.mk (show OwnB B W1 v pl from own_apart HVO.out (S := fun k => k = c.left) (by rw [← hW1]; exact (Apart.refl (fun k => k = c.left) wr).setCell (p := ⟨c.left, j, none⟩) (fun _ => rfl) _) (fun k hk e => (HVN.out k hk).2.1 (by rw [e]; exact .inr (.inl rfl))))
        have HK := Shh.mk (fun w' (hb : Below W1.heap.size W1 w') => ((HS1.out.choose.kept hb HS1.out.choose.lt).cells 0 : w'.cell? ⟨c.choose, 0, none⟩ = some (.func (.func 46) #[] c.ptrs)))
        clear hW1
        unfold CVars.ptrs at HK
        have hpl100 : pl.length ≤ 1000 := by omega
        obtain ⟨X, hX⟩ : ∃ X, (chooseL m G j (pl ++ [Tj])).map txt = X := ⟨_, rfl⟩
        have HXX := Shh.mk hX
        go_region_held3 (fun w' => w'.cell? ⟨c.choose, 0, none⟩ = some (.func (.func 46) #[] #[.pointer (some ⟨c.racks, 0, none⟩), .pointer (some ⟨c.left, 0, none⟩), .pointer (some ⟨c.choose, 0, none⟩)]))
          (first | exact HK.out _ (by first | assumption | exact (Below.refl _ _).drew) | exact HK3.out)
          (first
            | (go_at_call 47; with_reducible refine (extended_on Tj W1 _ (by first | assumption | exact (Below.refl _ _).drew) HV1.out hpl100).mono ?_; rintro e w2 ⟨v2, rfl, ho2, hb2⟩)
            | (go_at_call 46; refine (HRM.out G j (pl ++ [Tj]) _ y' _ v2 (HS1.out.below hb2) (CHeld.new ho2 HB1.out (OwnS.blockJ2 HS1.out.own) HS1.out.lts) HFD.out HTD.out (by omega) hplm HLEN.out).mono ?_; rintro e w3 ⟨rfl, y3, hp⟩; have HK3 := Shh.mk ((hp.sit.choose.cells 0) : w3.cell? ⟨c.choose, 0, none⟩ = some (.func (.func 46) #[] c.ptrs))))
        have HP := Shh.mk hp
        have hA2 := Shh.mk (show Apart (fun k => k = c.racks ∨ k = c.left ∨ y'.ownBlock = some k) wr w3 from (hA1.out.belowA hb2).trans hp.apart (fun _ _ h => h))
        have hc1 : w3.cell? ⟨c.left, j, none⟩ = some (.int .i64 ((q - 1 : Nat) : Int)) := by rw [hp.sit.left.cells, arrN_at G (by omega), hdec]
        have hfr1 := hp.sit.left.marks j
        obtain ⟨p, hpq⟩ : ∃ p, q - 1 = p := ⟨_, rfl⟩
        rw [hpq] at hc1 HINC
        have hpp : p ≤ 1000 := by omega
        clear hp hpq hdec hix hX HK3
        go_wp2
        have HC2 : Chosen B c wr (w3.setCell ⟨c.left, j, none⟩ (.int .i64 ((p : Int) + 1))) y' (ys ++ (chunks n F pl k j).map txt) F X y3 :=
          ⟨by rw [← HXX.out]; exact HP.out.sit.count HC.out j _ HINC.out, hA2.out.setCell (p := ⟨c.left, j, none⟩) (fun _ => .inr (.inl rfl)) _, fun i hi => (HP.out.near i hi).imp id fun h => by have := hb2.size; have := HSZ.out; omega⟩
        have HN := Shh.mk (hch.out.then HC2)
        rw [← HXX.out, ← HMO.out] at HN
        clear HC2
        go_roundw
        case rel => exact ⟨j + 1, y3, by omega, by omega, by go_num, HN⟩
        case measure => simp [intOf]; omega
    · obtain rfl : j = 27 := by omega
      have HN : Shh (Chosen B c w wr (.slice ya ys.length yc) ys F ((chooseL n F k pl).map txt) y') := ⟨by rw [HCH.out]; exact hch.out⟩
      go_wp2
      first | go_end0 | refine bodyPost_ret (results_none rfl _ _ _) rfl ?_
      first | exact ⟨rfl, y', HN.out⟩ | exact ⟨y', HN.out⟩
theorem choose_any {B : Nat} {c : CVars} (hc : c.Parted B) : ∀ n, ChooseDoes B c n
  | 0 => choose_step hc 0 fun _ h => by omega
  | n + 1 => choose_step hc (n + 1) fun m h => by
    obtain rfl : n = m := by omega
    exact choose_any hc n
end Go.Proofs.Ytilagppmljpclaa
