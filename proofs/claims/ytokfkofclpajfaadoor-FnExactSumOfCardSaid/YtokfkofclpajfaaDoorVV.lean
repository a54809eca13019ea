/-
  Nodes made anew from strings: the model's build, whole.
-/
import Derived.Test.YtokfkofclpajfaaDoorVO
import Derived.Deep.RegionHeld3
import Derived.Deep.RegionLaw
namespace Go.Proofs.YtokfkofclpajfaaDoor
open Go.RowKit

/-- What a call of build leaves. -/
structure Built (B gb f : Nat) (w : World) (v : Value) (ls : List ByteArray) (us : List Value) (xs : List Nod) (e : Ending) (w' : World) : Prop where
  out : e = .returned (.int .i64 ((bldW (f + 1) (xs.map entD) (fromL ls 0)).2 : Int))
  ex : ∃ v' us' xs', BSt B gb w' v' us' xs' ∧ xs'.map entD = (bldW (f + 1) (xs.map entD) (fromL ls 0)).1 ∧ Apart (inS gb v) w w' ∧ (∀ k, v'.ownBlock = some k → v.ownBlock = some k ∨ w.heap.size ≤ k) ∧ (∀ k, hasRow us' k → hasRow us k ∨ w.heap.size ≤ k)
def BuildDoes (B gb f : Nat) : Prop := ∀ (w : World) (v vl : Value) (ls : List ByteArray) (us : List Value) (xs : List Nod), FixB B gb f w v vl ls us xs →
  Calls Tryd.prog 124 #[.pointer (some ⟨gb, 0, none⟩), vl] w fun e w' => Built B gb f w v ls us xs e w'
theorem MemB.start {B gb f : Nat} {w : World} {v vl : Value} {ls : List ByteArray} {us : List Value} {xs : List Nod} (hF : FixB B gb f w v vl ls us xs) (fin : Bool) :
    MemB B gb w (w.alloc (.cells #[.bool fin, .string ByteArray.empty, .slice none 0 0] 71)) v vl fin ls us v us xs (.slice none 0 0) (.slice none 0 0) [] ByteArray.empty :=
  ⟨hF.bst.below ((Below.refl _ _).alloc (Nat.le_refl _) _), Blk.made w 71 _, RowI.nil _ _, hF.strs.alloc _, (Apart.refl _ w).alloc _, fun _ h => .inl h, fun _ h => .inl h, fun j h => by simp [Value.ownBlock] at h⟩
/-- Where the first loop begins. -/
structure Begin (ls : List ByteArray) (fin : Bool) (k0 : Nat) : Prop where
  fin_is : isFin (fromL ls 0) = fin
  k0_is : k0 = if isFin (fromL ls 0) = true then 1 else 0
  full : ∀ j, k0 ≤ j → j < ls.length → 0 < (strAt ls j).size
theorem begin_yes {ls : List ByteArray} (hr : RiseV (fromL ls 0)) (h0 : 0 < ls.length) (he : (strAt ls 0).size = 0) : Begin ls true 1 := by
  have h : isFin (fromL ls 0) = true := by rw [isFin_from]; exact decide_eq_true ⟨h0, he⟩
  exact ⟨h, by rw [if_pos h], fun j h1 h2 => hr.full (by omega) h2⟩
theorem begin_no {ls : List ByteArray} (hr : RiseV (fromL ls 0)) (he : 0 < ls.length → 0 < (strAt ls 0).size) : Begin ls false 0 := by
  have h : isFin (fromL ls 0) = false := by rw [isFin_from]; exact decide_eq_false fun h => by have := he h.1; omega
  refine ⟨h, by rw [if_neg (by rw [h]; simp)], fun j _ h2 => ?_⟩
  rcases Nat.eq_zero_or_pos j with rfl | h3
  · exact he h2
  · exact hr.full h3 h2
theorem first_letter {y : ByteArray} {c : UInt8} (h : 0 < y.size) (hc : y[0] = c) (L : ByteArray) : (L ++ y.extract 0 1).data.toList = L.data.toList ++ [c] := by
  rw [ByteArray.data_append, Array.toList_append]
  congr 1
  have hl : 0 < y.data.toList.length := by rw [list_size]; exact h
  rw [show (y.extract 0 1).data.toList = (y.data.toList.take 1).drop 0 by simp [ByteArray.data_extract, List.extract_eq_take_drop], List.drop_zero, List.take_succ_eq_append_getElem hl, List.take_zero, List.nil_append]
  rw [← hc]
  rfl
theorem Taken.head {us ts : List ByteArray} {a k : Nat} {c : UInt8} (h : Taken us a k c ts) (hak : a < k) (hkl : k ≤ us.length) (hy : 0 < (strAt us a).size) : (strAt us a)[0] = c := by
  have h2 := h.2
  rw [drop_strAt (by omega), List.map_cons, head_tail hy] at h2
  cases ts with
  | nil => have := h.1; simp at this; omega
  | cons t ts =>
    simp at h2
    exact h2.1.1
/-- The call of itself, in the words of the memory around it. -/
theorem build_call {B gb f : Nat} {w w3 : World} {v vl v' : Value} {fin : Bool} {ls ts : List ByteArray} {us us1 : List Value} {xs xs1 : List Nod} {v1 u uc : Value} {acc : List Nat} {L : ByteArray} {B2 : Nat} (hrec : 0 < f → BuildDoes B gb (f - 1)) (hF : FixB B gb f w v vl ls us xs) (hm : MemB B gb w w3 v vl fin ls us v1 us1 xs1 u uc acc L) (ho : OwnS B2 w3 v' ts) (hB2 : gb < B2 ∧ ∀ k, v1.ownBlock = some k → k < B2)
    (hr : RiseV (fromL ts 0)) (hs : ∀ s ∈ ts, s.size < f) (hf : 0 < f) (hl : ts.length ≤ 3000) (hg : Good (xs1.map entD)) (hroom : xs1.length + (1 + lenS (fromL ts 0)) ≤ 1000000) (P : Nat) (hP : (bldW f (xs1.map entD) (fromL ts 0)).2 = P) (wx : World) (hb : Below w3.heap.size w3 wx) :
    Calls Tryd.prog 124 #[.pointer (some ⟨gb, 0, none⟩), v'] wx fun e w4 => e = .returned (.int .i64 (P : Int)) ∧ ∃ v2 us2 xs2, MemB B gb w w4 v vl fin ls us v2 us2 xs2 u uc acc L ∧ xs2.map entD = (bldW f (xs1.map entD) (fromL ts 0)).1 := by
  have hm2 := hm.below hb
  have ho2 : OwnS B2 wx v' ts := OwnS.kept ho hb
  have e1 : f - 1 + 1 = f := by omega
  refine ((hrec hf) wx v1 v' ts us1 xs1 ⟨by rw [e1]; exact hs, by have := hF.f14; omega, hl, hr, OwnS.strs ho2, ?_, by have := hF.heap; have := hm2.apart.size; omega, hg, hroom, hm2.bst⟩).mono ?_
  · rintro _ k hk (e | e)
    · have := (World.ownsRow.lt ho2 k hk).1; omega
    · have := (World.ownsRow.lt ho2 k hk).1; have := hB2.2 k e; omega
  · rintro e w4 ⟨rfl, v2, us2, xs2, h1, h2, h3, h4, h5⟩
    rw [e1] at h2
    refine ⟨by rw [e1, hP], v2, us2, xs2, hm2.called hF h1 h3 h4 h5, h2⟩

/-- What is known when the letters are done. -/
theorem node_done {f : Nat} {fin : Bool} {ls : List ByteArray} {xs : List Nod} {k0 : Nat} {xs1 : List Nod} {acc : List Nat} {L : ByteArray} (hb : Begin ls fin k0) (hp : PlainB f ls (xs.map entD) k0 ls.length xs1 acc L) :
    bldW (f + 1) (xs.map entD) (fromL ls 0) = put (xs1.map entD) (entD ⟨fin, L, acc.map Int.ofNat⟩) ∧ NatsD ⟨fin, L, acc.map Int.ofNat⟩ ∧ ∀ z ∈ acc.map Int.ofNat, 0 ≤ z ∧ z < (xs1.length : Int) := by
  refine ⟨?_, ?_, ?_⟩
  · rw [hp.left.done, hb.fin_is]
    unfold entD
    simp only [List.map_map]
    congr 3
    conv => lhs; rw [← List.map_id acc]
    exact List.map_congr_left fun z _ => by simp
  · intro z hz
    obtain ⟨n, _, rfl⟩ := List.mem_map.1 hz
    exact Int.natCast_nonneg n
  · intro z hz
    obtain ⟨n, hn, rfl⟩ := List.mem_map.1 hz
    have := hp.lt n hn
    simp only [Int.ofNat_eq_natCast]
    omega
theorem ent_at {xs : List Nod} {j : Nat} (h : j < xs.length) : (xs.map entD)[j]? = some (entD (nodG xs j)) := by
  unfold nodG
  rw [List.getElem?_map, List.getElem?_eq_getElem h, List.getD_eq_getElem?_getD, List.getElem?_eq_getElem h]
  rfl
theorem Nows.nats {B : Nat} {w : World} {v : Value} {us : List Value} {xs : List Nod} (h : Nows B w v us xs) {j : Nat} (hj : j < xs.length) : NatsD (nodG xs j) := fun z hz => (h.down j hj z hz).1

/-- The node is new: it stands at the end. -/
theorem build_end {B gb f : Nat} {w wr w2 w7 : World} {v vl : Value} {fin : Bool} {ls : List ByteArray} {us : List Value} {xs : List Nod} {v1 u : Value} {us1 : List Value} {xs1 : List Nod} {acc : List Nat} {L : ByteArray} {d : Nod} {g n cap : Nat} (hF : FixB B gb f w v vl ls us xs) (hm : MemB B gb w wr v vl fin ls us v1 us1 xs1 u u acc L)
    (hb : Below wr.heap.size wr w2) (hN : Nows B w7 (.slice (some ⟨g, 0, none⟩) n cap) (us1 ++ [u]) (xs1 ++ [d])) (hk : Apart (fun b => v1.ownBlock = some b) w2 w7) (hl : v1.ownBlock = some g ∨ w2.heap.size ≤ g) :
    BSt B gb (w7.setCell ⟨gb, 0, none⟩ (.slice (some ⟨g, 0, none⟩) n cap)) (.slice (some ⟨g, 0, none⟩) n cap) (us1 ++ [u]) (xs1 ++ [d]) ∧ Apart (inS gb v) w (w7.setCell ⟨gb, 0, none⟩ (.slice (some ⟨g, 0, none⟩) n cap)) ∧
      (∀ k, (Value.slice (some ⟨g, 0, none⟩) n cap).ownBlock = some k → v.ownBlock = some k ∨ w.heap.size ≤ k) ∧ (∀ k, hasRow (us1 ++ [u]) k → hasRow us k ∨ w.heap.size ≤ k) := by
  have hm2 := hm.below hb
  have hg := hF.bst.blk.lt
  have hnl := hm2.node.lt
  have hblk := hm2.bst.blk.apart hk hm2.bst.vnot
  have hA : Apart (fun k => k = gb) w7 (w7.setCell ⟨gb, 0, none⟩ (.slice (some ⟨g, 0, none⟩) n cap)) := (Apart.refl (fun k => k = gb) w7).setCell (p := ⟨gb, 0, none⟩) (fun _ => rfl) _
  refine ⟨⟨hblk.stored 0 _, hN.far hA ?_ ?_⟩, ?_, ?_, ?_⟩
  · intro k hk2 e
    simp [Value.ownBlock] at hk2
    subst hk2
    rcases hl with h | h
    · exact hm2.bst.vnot (by rw [h, e])
    · omega
  · intro k hk2 e
    subst e
    exact hN.rowNot hblk (by decide) hk2
  · refine (hm2.apart.trans hk fun i hi e => ?_).setCell (p := ⟨gb, 0, none⟩) (fun _ => .inl rfl) _
    rcases hm2.near i e with h | h
    · exact .inr h
    · omega
  · intro k hk2
    simp [Value.ownBlock] at hk2
    subst hk2
    rcases hl with h | h
    · exact (hm2.near _ h).imp id fun h => Nat.le_of_lt h
    · exact .inr (by omega)
  · intro k hk2
    rcases hasRow_snoc.1 hk2 with h | h
    · exact (hm2.rows k h).imp id fun h => Nat.le_of_lt h
    · exact .inr (Nat.le_of_lt (hm2.own k h).1)

set_option maxRecDepth 100000 in
set_option maxHeartbeats 8000000 in
theorem build_step {B gb f : Nat} (hrec : 0 < f → BuildDoes B gb (f - 1)) : BuildDoes B gb f := by
  intro w v vl ls us xs hF
  have HF := Shh.mk hF
  have HREC := Shh.mk hrec
  have HL3 := Shh.mk hF.strs
  have hr := hF.rise
  have hroom := hF.room
  have HG := Shh.mk hF.good
  obtain ⟨la, lc, rfl, hl1, hl2, -⟩ := hF.strs
  have hlen := hF.len
  have HM := fun fin => Shh.mk (MemB.start hF fin)
  have HZ := Shh.mk (show ∀ s ∈ ls, s.size ≤ 1000 from fun s hs => by have := hF.size s hs; have := hF.f14; omega)
  have hcase : ls.length = 0 ∨ (0 < ls.length ∧ (strAt ls 0).size = 0) ∨ (0 < ls.length ∧ 0 < (strAt ls 0).size) := by omega
  clear hF hrec
  rcases hcase with h0 | ⟨h0, hy⟩ | ⟨h0, hy⟩
  case' inl =>
    have HBG := Shh.mk (begin_no hr (fun h => absurd h (by omega)))
    have hfin : ∃ fin : Bool, fin = false := ⟨_, rfl⟩
    have hkk : ∃ k0 : Nat, k0 = 0 := ⟨_, rfl⟩
    have HM0 := HM false
    obtain ⟨fin, hfin⟩ := hfin
    obtain ⟨k0, hkk⟩ := hkk
    have HM1 := Shh.mk (show MemB B gb w _ v (.slice la ls.length lc) fin ls us v us xs (.slice none 0 0) (.slice none 0 0) [] ByteArray.empty by rw [hfin]; exact HM0.out)
    have HBG1 := Shh.mk (show Begin ls fin k0 by rw [hfin, hkk]; exact HBG.out)
    have hk0l : k0 ≤ ls.length := by omega
    clear HM HM0 HBG hfin
    go_enter Tryd.func124, Tryd.ntmps124
    go_wp2
    clear h0
  case' inr.inl =>
    have HBG := Shh.mk (begin_yes hr h0 hy)
    have HM0 := HM true
    have hfin : ∃ fin : Bool, fin = true := ⟨_, rfl⟩
    have hkk : ∃ k0 : Nat, k0 = 1 := ⟨_, rfl⟩
    obtain ⟨fin, hfin⟩ := hfin
    obtain ⟨k0, hkk⟩ := hkk
    have HM1 := Shh.mk (show MemB B gb w _ v (.slice la ls.length lc) fin ls us v us xs (.slice none 0 0) (.slice none 0 0) [] ByteArray.empty by rw [hfin]; exact HM0.out)
    have HBG1 := Shh.mk (show Begin ls fin k0 by rw [hfin, hkk]; exact HBG.out)
    have hk0l : k0 ≤ ls.length := by omega
    obtain ⟨a0, c0, e0, -, -, h3⟩ := HL3.out.alloc (.cells #[.bool false, .string ⟨#[]⟩, .slice none 0 0] 71)
    obtain ⟨b, off, rfl, hb, hc⟩ := h3 h0
    simp only [Value.slice.injEq] at e0
    obtain ⟨rfl, -, -⟩ := e0
    have hc0 := hc 0 h0
    have hye : (strAt ls 0).toList.isEmpty = true := by
      rw [ByteArray.toList_eq]
      rw [← list_size] at hy
      rw [List.eq_nil_of_length_eq_zero hy]
      rfl
    obtain ⟨y, hyy⟩ : ∃ y, strAt ls 0 = y := ⟨_, rfl⟩
    rw [hyy] at hc0 hye
    have hl0 : (0 : Int) < (ls.length : Int) := by omega
    rw [Nat.add_zero] at hc0
    clear HM HM0 HBG hfin hy hyy hc h3
    go_enter Tryd.func124, Tryd.ntmps124
    go_wp2
    obtain ⟨la, hla⟩ : ∃ x : Option Addr, x = some ⟨b, off, none⟩ := ⟨_, rfl⟩
    rw [← hla] at HF HL3 HM1 ⊢
    clear hla hc0 hye hl0 hb
  case' inr.inr =>
    have HBG := Shh.mk (begin_no hr (fun _ => hy))
    have HM0 := HM false
    have hfin : ∃ fin : Bool, fin = false := ⟨_, rfl⟩
    have hkk : ∃ k0 : Nat, k0 = 0 := ⟨_, rfl⟩
    obtain ⟨fin, hfin⟩ := hfin
    obtain ⟨k0, hkk⟩ := hkk
    have HM1 := Shh.mk (show MemB B gb w _ v (.slice la ls.length lc) fin ls us v us xs (.slice none 0 0) (.slice none 0 0) [] ByteArray.empty by rw [hfin]; exact HM0.out)
    have HBG1 := Shh.mk (show Begin ls fin k0 by rw [hfin, hkk]; exact HBG.out)
    have hk0l : k0 ≤ ls.length := by omega
    obtain ⟨a0, c0, e0, -, -, h3⟩ := HL3.out.alloc (.cells #[.bool false, .string ⟨#[]⟩, .slice none 0 0] 71)
    obtain ⟨b, off, rfl, hb, hc⟩ := h3 h0
    simp only [Value.slice.injEq] at e0
    obtain ⟨rfl, -, -⟩ := e0
    have hc0 := hc 0 h0
    have hye : (strAt ls 0).toList.isEmpty = false := by
      rw [ByteArray.toList_eq]
      rw [← list_size] at hy
      cases hl : (strAt ls 0).data.toList with
      | nil => rw [hl] at hy; simp at hy
      | cons a l => rfl
    obtain ⟨y, hyy⟩ : ∃ y, strAt ls 0 = y := ⟨_, rfl⟩
    rw [hyy] at hc0 hye
    have hl0 : (0 : Int) < (ls.length : Int) := by omega
    rw [Nat.add_zero] at hc0
    clear HM HM0 HBG hfin hy hyy hc h3
    go_enter Tryd.func124, Tryd.ntmps124
    go_wp2
    obtain ⟨la, hla⟩ : ∃ x : Option Addr, x = some ⟨b, off, none⟩ := ⟨_, rfl⟩
    rw [← hla] at HF HL3 HM1 ⊢
    clear hla hc0 hye hl0 hb
  all_goals
    have HP0 := Shh.mk (PlainB.start (f := f) HBG1.out.k0_is HG.out hroom)
    have hf14 := HF.out.f14
    clear hroom
    go_loopw [6, 7, 8] (fun a _ _ wr => ∃ (k : Nat) (v1 : Value) (us1 : List Value) (xs1 : List Nod) (u : Value) (acc : List Nat) (L : ByteArray), k ≤ ls.length ∧ a = .int .i64 k ∧ Shh (MemB B gb w wr v (.slice la ls.length lc) fin ls us v1 us1 xs1 u u acc L) ∧ Shh (PlainB f ls (xs.map entD) k0 k xs1 acc L)) (fun a _ _ _ => ls.length - (intOf a).toNat)
    case atStart => exact ⟨k0, v, us, xs, _, [], _, hk0l, by rw [hkk]; rfl, HM1, HP0⟩
    case round =>
      obtain ⟨k, v1, us1, xs1, u, acc, L, hkl, rfl, hm, hp⟩ := hrel
      clear HM1 HP0
      by_cases hk : k < ls.length
      · have hyk := HBG1.out.full k hp.out.base hk
        have HT := Shh.mk (l06Tails_any wr hm.out.strs k hk (fun j h1 h2 => HBG1.out.full j (Nat.le_trans hp.out.base h1) h2) hlen HZ.out)
        have hy1000 := HZ.out _ (strAt_mem hk)
        obtain ⟨a0, c0, e0, -, -, h3⟩ := hm.out.strs
        obtain ⟨b, off, rfl, hb, hc⟩ := h3 (by omega)
        simp only [Value.slice.injEq] at e0
        obtain ⟨rfl, -, -⟩ := e0
        have hck := hc k hk
        obtain ⟨y, hyy⟩ : ∃ y, strAt ls k = y := ⟨_, rfl⟩
        have HYY := Shh.mk hyy
        rw [hyy] at hck hyk hy1000
        clear hc h3 hyy
        go_wp2_with (go_at_call 135; refine (HT.out).mono ?_; rintro e w2 ⟨v', ts, k2, c, rfl, ho2, ht2, hak, hkl2, hend, hb2⟩)
        have HM2 := Shh.mk (hm.out.below hb2)
        have HP2 := hp
        have n1 := (HM2.out.node).cells 1
        have m1 := (HM2.out.node).marks 1
        have hck2 := (hb2.cell (p := ⟨b, off + k, none⟩) hb).trans hck
        have HGRP := Shh.mk (ht2.grp hak hkl2 (fun j h1 h2 => HBG1.out.full j (Nat.le_trans hp.out.base h1) h2) hend)
        have HTF := Shh.mk (tails_fix ht2 HF.out.rise HF.out.size hak hkl2)
        have HLT := Shh.mk (show ∀ hy : 0 < y.size, (L ++ y.extract 0 1).data.toList = L.data.toList ++ [c] from fun hy => first_letter hy (by have h := ht2.head hak hkl2 (by rw [HYY.out]; exact hy); simpa [HYY.out] using h) L)
        have HOT := Shh.mk ho2
        have hLl : L.size ≤ 3000 := by have := hp.out.fewL; omega
        have hyi : (1 : Int) ≤ (y.size : Int) := by omega
        have hmx : ¬ 9223372036854775807 < L.size + min 1 y.size := by omega
        have hnb := hm.out.node.lt
        have HGB := Shh.mk (show gb < wr.heap.size ∧ ∀ j, v1.ownBlock = some j → j < wr.heap.size from ⟨hm.out.bst.blk.lt, fun j hj => hm.out.bst.vlt hj⟩)
        clear hm hp hck ht2 ho2 hend
        go_region
        all_goals
          go_wp2
          obtain ⟨L2, hL2⟩ : ∃ x, L ++ y.extract 0 1 = x := ⟨_, rfl⟩
          rw [hL2]
          have HM3 := Shh.mk (show MemB B gb w (w2.setCell ⟨w.heap.size, 1, none⟩ (.string L2)).drew v (.slice (some ⟨b, off, none⟩) ls.length lc) fin ls us v1 us1 xs1 u u acc L2 from (HM2.out.store HF.out 1 (.string L2) rfl).drew)
          have HO3 := Shh.mk (show OwnS wr.heap.size (w2.setCell ⟨w.heap.size, 1, none⟩ (.string L2)).drew v' ts from own_apart (S := fun j => j = w.heap.size) HOT.out ((Apart.refl (fun j => j = w.heap.size) w2).setCell (p := ⟨w.heap.size, 1, none⟩) (fun _ => rfl) (.string L2)).drew (fun j hj e => by have := (World.ownsRow.lt HOT.out j hj).1; omega))
          have HL2 := Shh.mk (show L2.data.toList = L.data.toList ++ [c] by rw [← hL2]; exact HLT.out (by omega))
          clear hL2 n1 m1 hck2
          obtain ⟨w3, hw3⟩ : ∃ x, (w2.setCell ⟨w.heap.size, 1, none⟩ (.string L2)).drew = x := ⟨_, rfl⟩
          rw [hw3] at HM3 HO3 ⊢
          clear hw3
          obtain ⟨hr3, hs3, hf3, hl3, hw3⟩ := HTF.out
          obtain ⟨P, hP⟩ : ∃ P, (bldW f (xs1.map entD) (fromL ts 0)).2 = P := ⟨_, rfl⟩
          have HCALL := Shh.mk (fun wx (hbx : Below w3.heap.size w3 wx) => build_call HREC.out HF.out HM3.out HO3.out HGB.out hr3 hs3 hf3 (Nat.le_trans hl3 hlen) HP2.out.good (HP2.out.tails HGRP.out) P hP wx hbx)
          have HST := Shh.mk (fun xs2 (hx : xs2.map entD = (bldW f (xs1.map entD) (fromL ts 0)).1) => show PlainB f ls (xs.map entD) k0 k2 xs2 (acc ++ [P]) L2 from by
            have h9 := HP2.out.step HGRP.out hak ⟨hf3, hw3⟩ HL2.out hx
            rw [hP] at h9
            exact h9)
          have K3 := Shh.mk (show w3.cell? ⟨w.heap.size, 2, none⟩ = some u from HM3.out.node.cells 2)
          have HAL : (acc.map Int.ofNat).length = acc.length := List.length_map ..
          have HAC := Shh.mk HAL
          have hacl : acc.length ≤ 1000000 := by have := HP2.out.few; omega
          clear hr3 hs3 hf3 hl3 hw3 hP HAL
          have k3 := K3.out
          go_region_law (first
              | (go_simp; go_at_call 124; refine (HCALL.out _ (by first | exact Below.refl _ _ | exact (Below.refl _ _).drew)).mono ?_; rintro e w4 ⟨rfl, v2, us2, xs2, hm4, hx4⟩; have HM4 := Shh.mk hm4; have HX4 := Shh.mk (HST.out xs2 hx4); have k4 : w4.cell? ⟨w.heap.size, 2, none⟩ = some u := hm4.node.cells 2; have k5 : (w4.alloc (.cells #[.int .i64 (P : Int)] 2)).cell? ⟨w.heap.size, 2, none⟩ = some u := (hm4.alloc _).node.cells 2; clear hm4 hx4)
              | (refine step_append_int (B := B) (H := w4.heap.size) (by rfl) _ _ (by rfl) u (acc.map Int.ofNat) (P : Int) (by rfl) (by rfl) ((Blk.made w4 2 #[.int .i64 (P : Int)]).cells 0) (HM4.out.row.alloc _) acc.length HAC.out hacl (by have h1 := HM4.out.apart.size; have h2 := HF.out.heap; simp; omega) ?_; intro g6 c6 w6 ho6 hk6 hl6; have HM6 := Shh.mk ((HM4.out.alloc _).more HF.out (by rw [List.map_append]; exact ho6) hk6 hl6); have m6 := HM6.out.node.marks 2; have n6 : w6.cell? ⟨w.heap.size, 2, none⟩ = some u := HM6.out.node.cells 2; clear ho6 hk6 hl6))
          all_goals
            have HM7 := Shh.mk (HM6.out.store HF.out 2 (.slice (some ⟨g6, 0, none⟩) (acc.length + 1) c6) (by rfl))
            clear m6 n6
            go_wp2
            go_roundw
            case rel => exact ⟨k2, v2, us2, xs2, _, acc ++ [P], L2, hkl2, by go_num, HM7, HX4⟩
            case measure => simp [intOf]; omega
      · obtain rfl : k = ls.length := by omega
        obtain ⟨w5, hw5⟩ : ∃ w5 : World, w5 = wr := ⟨_, rfl⟩
        subst hw5
        obtain ⟨hd1, hd2, hd3⟩ := node_done HBG1.out hp.out
        obtain ⟨d, hdd⟩ : ∃ d : Nod, d = ⟨fin, L, acc.map Int.ofNat⟩ := ⟨_, rfl⟩
        have HN0 := Shh.mk (hm.out.bst.row)
        have HR0 := Shh.mk hm.out.row
        rw [← hdd] at hd1 hd2
        have HD1 := Shh.mk hd1
        have HD2 := Shh.mk hd2
        have HD3 := Shh.mk hd3
        have HND := Shh.mk (show NodIs w5 w.heap.size 0 d from by
          rw [hdd]
          exact ⟨hm.out.node.cells 0, hm.out.node.cells 1, u, hm.out.node.cells 2, hm.out.row.ints (fun z hz => wf_i64 (hd3 z hz).1 (by have h1 := (hd3 z hz).2; have h2 := HN0.out.small; unfold maxLen at h2; omega))⟩)
        have hsml := HN0.out.small
        have hroom2 : xs1.length ≤ 1000000 := by have := hp.out.room; omega
        obtain ⟨na, nc, rfl, hn1, hn2, hn3⟩ := hm.out.bst.row.nds
        have HN3 := Shh.mk hn3
        have HNL := Shh.mk hm.out.node.lt
        have HGL := Shh.mk hm.out.bst.blk.lt
        have g0 := hm.out.bst.blk.cells 0
        clear hd1 hd2 hd3 hn3 hp
        go_wp2
        go_loopw [9] (fun z wr => ∃ i : Nat, i ≤ xs1.length ∧ z = .int .i64 i ∧ Below w5.heap.size w5 wr ∧ Shh (∀ j, j < i → (xs1.map entD)[j]? ≠ some (entD d))) (fun z _ => xs1.length - (intOf z).toNat)
        case atStart => exact ⟨0, Nat.zero_le _, rfl, Below.refl _ _, ⟨fun j hj => absurd hj (by omega)⟩⟩
        case round =>
          obtain ⟨i, hil, rfl, hbw, hno⟩ := hrel
          have q0 : wr.cell? ⟨gb, 0, none⟩ = some (.slice na xs1.length nc) := (hbw.cell (p := ⟨gb, 0, none⟩) HGL.out).trans g0
          by_cases hi : i < xs1.length
          · obtain ⟨bn, on, rfl, hbn, hcn⟩ := HN3.out (by omega)
            have HX := Shh.mk (NodIs.below (hcn i hi) hbw hbn)
            have HY := Shh.mk (NodIs.below HND.out hbw HNL.out)
            have HNX := Shh.mk (HN0.out.nats hi)
            cases ht : sameD (nodG xs1 i) d
            · have HNE := Shh.mk (show ∀ j, j < i + 1 → (xs1.map entD)[j]? ≠ some (entD d) from fun j hj e => by
                rcases Nat.lt_or_ge j i with h | h
                · exact hno.out j h e
                · obtain rfl : j = i := by omega
                  rw [ent_at hi] at e
                  have := (sameD_ent HNX.out HD2.out).2 (by simpa using e)
                  rw [ht] at this
                  cases this)
              go_wp2_with (go_at_call 126; refine (l06Equal_is ht wr HX.out HY.out).mono ?_; rintro e w6 ⟨rfl, m, rfl⟩)
              go_roundw
              case rel => exact ⟨i + 1, by omega, by go_num, below_drewN hbw m, HNE⟩
              case measure => simp [intOf]; omega
            · have HPT := Shh.mk (show put (xs1.map entD) (entD d) = (xs1.map entD, i) from put_old (by rw [ent_at hi, (sameD_ent HNX.out HD2.out).1 ht]) hno.out)
              go_wp2_with (go_at_call 126; refine (l06Equal_is ht wr HX.out HY.out).mono ?_; rintro e w6 ⟨rfl, m, rfl⟩)
              go_ret
              refine ⟨by show Ending.returned (.int .i64 (i : Int)) = _; rw [HD1.out, HPT.out], _, us1, xs1, (hm.out.below (below_drewN hbw m)).bst, by rw [HD1.out, HPT.out], (hm.out.below (below_drewN hbw m)).apart, fun j hj => (hm.out.near j hj).imp id (fun h => Nat.le_of_lt h), fun j hj => (hm.out.rows j hj).imp id (fun h => Nat.le_of_lt h)⟩
          · obtain rfl : i = xs1.length := by omega
            have HPT := Shh.mk (show put (xs1.map entD) (entD d) = (xs1.map entD ++ [entD d], xs1.length) from by
              have := put_fresh (st := xs1.map entD) (e := entD d) (fun j hj => hno.out j (by simpa using hj))
              rw [this, List.length_map])
            have HM9 := Shh.mk (hm.out.below hbw)
            have HBW := Shh.mk (hbw.size)
            have e0 := HM9.out.node.cells 0
            have e1 := HM9.out.node.cells 1
            have e2 := HM9.out.node.cells 2
            have q1 : (wr.alloc (.cells #[.bool fin, .string L, u] 71)).cell? ⟨gb, 0, none⟩ = some (.slice na xs1.length nc) := (HM9.out.bst.blk.alloc _).cells 0
            have HBH := Shh.mk (show B ≤ wr.heap.size from by have h1 := HM9.out.apart.size; have h2 := HF.out.heap; omega)
            clear hbw
            go_wp2
            go_region_law (first
              | (refine step_append_node (B := B) (H := wr.heap.size) (by rfl) _ _ (by rfl) (.slice na xs1.length nc) u us1 xs1 ⟨fin, L, acc.map Int.ofNat⟩ (by rfl) (by rfl) (Blk.made wr 71 #[.bool fin, .string L, u]).drew (HM9.out.bst.row.alloc _).drew (by omega) (by have h1 := HBH.out; simp [World.drew]; omega) (HM9.out.row.alloc _).drew HD3.out ?_; intro g7 c7 w7 ho7 hk7 hl7; have HE7 := Shh.mk (build_end HF.out HM9.out (((Below.refl _ _).alloc (Nat.le_refl _) _).drew) ho7 hk7 hl7); have hbl7 := ((HM9.out.bst.blk.alloc (.cells #[.bool fin, .string L, u] 71)).drew).apart hk7 HM9.out.bst.vnot; have n7 : w7.cell? ⟨gb, 0, none⟩ = some (.slice na xs1.length nc) := hbl7.cells 0; have m7 := hbl7.marks 0; clear ho7 hk7 hl7 hbl7))
            all_goals
              clear m7 q0 q1 e0 e1 e2 g0
              go_wp2
              go_ret
              refine ⟨by show Ending.returned (.int .i64 (xs1.length : Int)) = _; rw [HD1.out, HPT.out], _, us1 ++ [u], xs1 ++ [⟨fin, L, acc.map Int.ofNat⟩], HE7.out.1, by rw [HD1.out, HPT.out, List.map_append, hdd]; rfl, HE7.out.2.1, HE7.out.2.2.1, HE7.out.2.2.2⟩
theorem build_does (B gb : Nat) : ∀ f, BuildDoes B gb f
  | 0 => build_step fun h => absurd h (by omega)
  | f + 1 => build_step fun _ => build_does B gb f
end Go.Proofs.YtokfkofclpajfaaDoor
