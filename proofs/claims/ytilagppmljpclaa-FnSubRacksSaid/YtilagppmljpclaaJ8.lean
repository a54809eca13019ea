/-
  The sub-racks of a rack: the model's.
-/
import Derived.Test.YtilagppmljpclaaJ3
import Derived.Test.YtilagppmljpclaaJ7
import Derived.Test.YtilagppmljpclaaLB
import Derived.Test.YtilagppmljpclaaLM
import Derived.Test.YtilagppmljpclaaO7
import Derived.Test.YtilagppmljpclaaV1
import Derived.BigQuiet
import Derived.Deep.RegionHeld3
import Derived.Deep.QuietTactic
namespace Go.Proofs.Ytilagppmljpclaa
open Go.RowKit

theorem insert_ownJ {B : Nat} {w : World} {v : Value} {ss : List ByteArray} (s : ByteArray) (h : OwnS B w v ss) (hr : Rise ss) (hn : ss.length ≤ 1048577) (hB : B ≤ w.heap.size) :
    Calls Try.prog 111 #[v, .string s] w fun e w' => ∃ v', e = .returned v' ∧ OwnS B w' v' (insS ss s) ∧ Below w.heap.size w w' := by
  cases hh : hasL ss s
  · rw [insS_new hh]
    exact (insert_new w s h.strs hr hn hh).mono fun e w' ⟨v', h1, h2, h3⟩ => ⟨v', h1, OwnS.lower h2 hB, h3⟩
  · rw [insS_has hh]
    exact (insert_has w s h.strs hr hh).mono fun e w' ⟨h1, h2⟩ => ⟨v, h1, by rw [h2]; exact h, by rw [h2]; exact Below.refl _ _⟩
theorem insert_onJ {B : Nat} {a w : World} {v : Value} {ss : List ByteArray} (s : ByteArray) (hb : Below a.heap.size a w) (h : OwnS B a v ss) (hr : Rise ss) (hn : ss.length ≤ 1048577) (hB : B ≤ a.heap.size) :
    Calls Try.prog 111 #[v, .string s] w fun e w' => ∃ c d, e = .returned (.slice c (insS ss s).length d) ∧ OwnS B w' (.slice c (insS ss s).length d) (insS ss s) ∧ Below a.heap.size a w' :=
  (insert_ownJ s (OwnS.kept h hb) hr hn (Nat.le_trans hB hb.size)).mono fun e w' ⟨v', h1, h2, h3⟩ => by
    obtain ⟨c, d, hv, -⟩ := own_form h2
    subst hv
    exact ⟨c, d, h1, h2, hb.trans (h3.mono hb.size)⟩
/-- So much is in the row behind k letters of the rack, and m of the racks behind this letter. -/
structure Part (rack : List UInt8) (n i : Nat) (a : UInt8) (Z : List ByteArray) (m : Nat) (X : List ByteArray) : Prop where
  rise : Rise X
  mem : ∀ x : ByteArray, x ∈ X ↔ (∃ j, j < i ∧ Start rack n j x.data.toList) ∨ ∃ z, z ∈ Z.take m ∧ x = txt [a] ++ z
  len : X.length + 2 ^ (rack.length - i) ≤ 2 ^ rack.length + m
/-- So much is in the row behind i letters of the rack. -/
structure Till (rack : List UInt8) (n i : Nat) (X : List ByteArray) : Prop where
  rise : Rise X
  mem : ∀ x : ByteArray, x ∈ X ↔ ∃ j, j < i ∧ Start rack n j x.data.toList
  len : X.length + 2 ^ (rack.length - i) ≤ 2 ^ rack.length
theorem till_start (rack : List UInt8) (n : Nat) : Till rack n 0 [] := ⟨rise_nil, fun x => by simp, by simp⟩
theorem till_done {rack : List UInt8} {n i : Nat} {X : List ByteArray} (h : Till rack n i X) (hn : 0 < n) (hi : rack.length < i + n) : Subs rack n X :=
  ⟨h.rise, fun x => (h.mem x).trans (start_all hn hi _), Nat.le_trans (Nat.le_add_right _ _) h.len⟩
theorem till_skip {rack : List UInt8} {n i : Nat} {X : List ByteArray} (h : Till rack n i X) (h0 : 0 < i) (hi : i < rack.length) (he : rack[i]? = rack[i - 1]?) : Till rack n (i + 1) X :=
  ⟨h.rise, fun x => (h.mem x).trans (start_skip h0 he _).symm, by
    have := h.len
    have h2 : 2 ^ (rack.length - (i + 1)) ≤ 2 ^ (rack.length - i) := Nat.pow_le_pow_right (by decide) (by omega)
    omega⟩
theorem part_start {rack : List UInt8} {n i : Nat} {a : UInt8} {Z X : List ByteArray} (h : Till rack n i X) : Part rack n i a Z 0 X :=
  ⟨h.rise, fun x => (h.mem x).trans (by simp), by have := h.len; omega⟩
theorem part_more {rack : List UInt8} {n i m : Nat} {a : UInt8} {Z X : List ByteArray} (h : Part rack n i a Z m X) (hm : m < Z.length) : Part rack n i a Z (m + 1) (insS X (txt [a] ++ strAt Z m)) := by
  refine ⟨insS_rise h.rise, fun x => ?_, ?_⟩
  · rw [insS_mem h.rise, h.mem, List.take_succ_eq_append_getElem hm, strAt_eq hm]
    constructor
    · rintro ((h1 | ⟨z, hz, rfl⟩) | rfl)
      · exact .inl h1
      · exact .inr ⟨z, List.mem_append_left _ hz, rfl⟩
      · exact .inr ⟨_, List.mem_append_right _ (List.mem_singleton.2 rfl), rfl⟩
    · rintro (h1 | ⟨z, hz, rfl⟩)
      · exact .inl (.inl h1)
      · rcases List.mem_append.1 hz with hz | hz
        · exact .inl (.inr ⟨z, hz, rfl⟩)
        · rw [List.mem_singleton] at hz
          exact .inr (by rw [hz])
  · have := h.len
    have h2 := (insS_len (ss := X) (s := txt [a] ++ strAt Z m)).2
    omega
theorem part_done {rack : List UInt8} {n i : Nat} {a : UInt8} {Z X : List ByteArray} (h : Part rack n i a Z Z.length X) (h0 : i = 0 ∨ rack[i]? ≠ rack[i - 1]?) (ha : rack[i]? = some a) (hn : 0 < n)
    (hZ : Subs (rack.drop (i + 1)) (n - 1) Z) : Till rack n (i + 1) X := by
  have hi : i < rack.length := by
    rcases Nat.lt_or_ge i rack.length with h | h
    · exact h
    · rw [List.getElem?_eq_none h] at ha; cases ha
  refine ⟨h.rise, fun x => ?_, ?_⟩
  · rw [h.mem, List.take_length, start_more h0 ha hn hZ.mem]
    refine or_congr_right ?_
    constructor
    · rintro ⟨z, hz, rfl⟩
      exact ⟨z, hz, by rw [txt_cat, txt_list, txt_list]; rfl⟩
    · rintro ⟨z, hz, e⟩
      refine ⟨z, hz, Go.WideShapes.bytes_inj ?_⟩
      rw [e, txt_cat, txt_list, txt_list]
      rfl
  · have h1 := h.len
    have h2 := hZ.len
    rw [List.length_drop] at h2
    have h3 : 2 ^ (rack.length - i) = 2 ^ (rack.length - (i + 1)) + 2 ^ (rack.length - (i + 1)) := by
      rw [show rack.length - i = (rack.length - (i + 1)) + 1 by omega, Nat.pow_succ]
      omega
    omega
theorem subs_zero (rack : List UInt8) : Subs rack 0 [ByteArray.empty] := by
  refine ⟨?_, fun x => ?_, Nat.one_le_two_pow⟩
  · intro i j hij hj
    simp at hj
    omega
  · rw [List.mem_singleton]
    constructor
    · rintro rfl
      exact ⟨rfl, List.nil_sublist _⟩
    · rintro ⟨h, -⟩
      apply Go.WideShapes.bytes_inj
      rw [List.eq_nil_of_length_eq_zero h]
      rfl

theorem ext_one' (s : ByteArray) (k : Nat) (h : k < s.size) : s.extract k (k + 1) = txt [s[k]'h] := by
  apply Go.WideShapes.bytes_inj
  have e1 : (s.extract k (k + 1)).data.toList = (s.data.toList.drop k).take 1 := by simp [ByteArray.data_extract]
  rw [e1, drop_at s h]
  rfl
theorem at_list {s : ByteArray} {i : Nat} (h : i < s.size) : s.data.toList[i]? = some (s[i]'h) := at_get s i h
theorem ext_drop {s : ByteArray} {i n : Nat} (hn : s.size ≤ n) : (s.extract i n).data.toList = s.data.toList.drop i := by
  rw [ByteArray.data_extract, Array.toList_extract]
  simp only [List.extract_eq_take_drop]
  exact List.take_of_length_le (by rw [List.length_drop, len_list]; omega)

set_option maxRecDepth 100000 in
set_option maxHeartbeats 4000000 in
theorem l03Subs_any : ∀ (n : Nat) (s : ByteArray) (w : World), s.size ≤ 7 → n ≤ 7 →
    Calls Try.prog 54 #[.string s, .int .i64 (n : Int)] w fun e w' => ∃ v, e = .returned v ∧ ∃ Z, OwnS w.heap.size w' v Z ∧ Subs s.data.toList n Z ∧ Below w.heap.size w w' := by
  intro n
  induction n with
  | zero =>
    intro s w _ _
    have HO := Shh.mk (show OwnS w.heap.size (w.alloc (.cells #[.string ByteArray.empty] 9)) (.slice (some ⟨w.heap.size, 0, none⟩) 1 1) [ByteArray.empty] from World.ownsRow_lit (size := 1) w #[.string ByteArray.empty] 1 (Nat.le_refl _) (by unfold maxLen; omega) rfl)
    go_enter Try.func54, Try.ntmps54
    go_wp2_with fail
    go_ret
    exact ⟨_, rfl, _, HO.out, subs_zero _, (Below.refl _ _).alloc (Nat.le_refl _) _⟩
  | succ n ih =>
    intro s w hs hn
    have IH := Shh.mk ih
    have hn0 : (((n + 1 : Nat) : Int) == 0) = false := beq_eq_false_iff_ne.2 (by omega)
    have HE := Shh.mk (show OwnS w.heap.size (w.alloc (.cells #[] 9)) (.slice (some ⟨w.heap.size, 0, none⟩) 0 0) [] from World.ownsRow_lit (size := 1) w #[] 0 (Nat.le_refl _) (by unfold maxLen; omega) rfl)
    have HB0 := Shh.mk ((Below.refl w.heap.size w).alloc (Nat.le_refl _) (.cells #[] 9))
    obtain ⟨N, hN⟩ : ∃ N, n + 1 = N := ⟨_, rfl⟩
    have HN := Shh.mk hN
    have hN1 : (N : Int) - 1 = (n : Int) := by omega
    have hNp : 1 ≤ N := by omega
    have hn7 : n ≤ 7 := by omega
    have hNw : IntKind.i64.wrap ((N : Int) - 1) = (n : Int) := by rw [hN1]; exact IntWalk.i64_in _ (by omega)
    rw [hN] at hn0 hn ⊢
    clear ih hN hN1
    go_enter Try.func54, Try.ntmps54
    go_wp2
    go_loopw [5, 6, 7, 8] (fun o i _ _ wr => ∃ (k : Nat) (X : List ByteArray), k ≤ s.size ∧ i = .int .i64 k ∧ Shh (OwnS w.heap.size wr o X) ∧ Shh (Till s.data.toList N k X) ∧ Shh (Below w.heap.size w wr)) (fun _ i _ _ _ => s.size + 1 - (intOf i).toNat)
    case atStart => exact ⟨0, [], Nat.zero_le _, rfl, HE, ⟨till_start _ _⟩, HB0⟩
    case round =>
      obtain ⟨k, X, hk, rfl, ho, ht, hb⟩ := hrel
      by_cases hlt : k + N ≤ s.size
      · have hlti : (k : Int) + (N : Int) ≤ (s.size : Int) := by omega
        have hks : k < s.size := by omega
        have hkw : IntKind.i64.wrap ((k : Int) + (N : Int)) = (k : Int) + (N : Int) := IntWalk.i64_in _ (by omega)
        have hk0 : (0 : Int) ≤ (k : Int) := by omega
        have hkl : (k : Int) < (s.size : Int) := by omega
        have hk1w : IntKind.i64.wrap ((k : Int) + 1) = (k : Int) + 1 := IntWalk.i64_in _ (by omega)
        have hat := at_list hks
        have hwx : IntKind.i64.wrap ((k : Int) - 1) = (k : Int) - 1 := IntWalk.i64_in _ (by omega)
        by_cases hk0 : 0 < k
        · have hkm : k - 1 < s.size := by omega
          have hkm0 := hkm
          have hd0 : decide ((0 : Int) < (k : Int)) = true := decide_eq_true (by omega)
          have hd3 : decide (0 < k) = true := decide_eq_true hk0
          have hix := byte_atU s ((k : Int) - 1) (k - 1) (by omega) hkm
          have hatj := at_list hkm
          by_cases he : (s[k]'hks) = (s[k - 1]'hkm)
          · have heb : (((s[k]'hks).toNat : Int) == ((s[k - 1]'hkm).toNat : Int)) = true := by rw [he]; simp
            have heb2 : ((s[k]'hks).toNat == (s[k - 1]'hkm).toNat) = true := by rw [he]; simp
            have HT := Shh.mk (till_skip ht.out hk0 (by rw [len_list]; exact hks) (by rw [hat, hatj, he]))
            clear hat hatj he ht
            go_wp2
            go_quiet (fail)
            go_wp2
            go_roundw
            case rel => exact ⟨k + 1, X, by omega, by go_num, ⟨OwnS.kept ho.out (below_drewN (Below.refl _ _) _)⟩, HT, ⟨below_drewN hb.out _⟩⟩
            case measure => simp [intOf]; omega
          · have heb : (((s[k]'hks).toNat : Int) == ((s[k - 1]'hkm).toNat : Int)) = false := beq_eq_false_iff_ne.2 (fun e => he (UInt8.toNat_inj.1 (by omega)))
            have heb2 : ((s[k]'hks).toNat == (s[k - 1]'hkm).toNat) = false := beq_eq_false_iff_ne.2 (fun e => he (UInt8.toNat_inj.1 e))
            have HFI := Shh.mk (show k = 0 ∨ s.data.toList[k]? ≠ s.data.toList[k - 1]? from .inr (by rw [hat, hatj]; exact fun e => he (Option.some.inj e)))
            have HAT := Shh.mk hat
            clear hatj he
            go_wp2
            go_quiet (fail)
            have ho2 := Shh.mk (OwnS.kept ho.out (below_drewN (Below.refl wr.heap.size wr) nq))
            have hb2 := Shh.mk (below_drewN hb.out nq)
            generalize wr.drewN nq = W2 at ho2 hb2 ⊢
            clear heb heb2 hix
            clear hat hkm0 hd0 hd3
            have hk1s : (k : Int) + 1 ≤ (s.size : Int) := by omega
            have hk10 : (0 : Int) ≤ (k : Int) + 1 := by omega
            have hkk1 : (k : Int) ≤ (k : Int) + 1 := by omega
            have HZS := Shh.mk (show (s.extract (k + 1) s.size).size ≤ 7 by rw [ByteArray.size_extract]; omega)
            have HED := Shh.mk (ext_drop (s := s) (i := k + 1) (Nat.le_refl _))
            have hone := ext_one' s k hks
            have hone1 : (txt [s[k]'hks]).size = 1 := txt_size _
            go_wp2_with fail
            refine (IH.out _ _ HZS.out hn7).mono ?_
            rintro e w4 ⟨v4, rfl, Z, hoz, hZ, hb4⟩
            have HZ := Shh.mk hZ
            have HF4 := Shh.mk hoz
            have HO4 := Shh.mk (OwnS.kept ho2.out hb4)
            have HB4 := Shh.mk (hb2.out.trans (hb4.mono hb2.out.size))
            obtain ⟨a4, c4, rfl, -, -, h43⟩ := own_form hoz
            have H43 := Shh.mk h43
            have hzl : Z.length ≤ 128 := Nat.le_trans hZ.len (Nat.pow_le_pow_right (n := 2) (j := 7) (by decide) (by rw [len_list]; exact HZS.out))
            have HZL := Shh.mk hzl
            have hp7 : 2 ^ s.data.toList.length ≤ 128 := Nat.pow_le_pow_right (n := 2) (j := 7) (by decide) (by rw [len_list]; exact hs)
            have HP7 := Shh.mk hp7
            have HZM := Shh.mk (fun m (hm : m < Z.length) => show (strAt Z m).size ≤ 7 by
              have := ((hZ.mem _).1 (strAt_mem hm)).1
              rw [len_list] at this
              omega)
            obtain ⟨E, hE⟩ : ∃ E, txt [s[k]'hks] = E := ⟨_, rfl⟩
            rw [hE] at hone hone1
            have HPM := Shh.mk (fun (m : Nat) (Y : List ByteArray) (h : Part s.data.toList N k (s[k]'hks) Z m Y) (hm : m < Z.length) => by have := part_more h hm; rw [hE] at this; exact this)
            have HPD := Shh.mk (fun (Y : List ByteArray) (h : Part s.data.toList N k (s[k]'hks) Z Z.length Y) => part_done h HFI.out HAT.out hNp (by have h2 := HZ.out; rw [HED.out] at h2; rw [show N - 1 = n by have := HN.out; omega]; exact h2))
            have HPS := Shh.mk (part_start (a := s[k]'hks) (Z := Z) ht.out)
            clear hoz hZ hb4 h43 hE ht hp7 ho hb
            go_wp2
            go_loopw [5, 8] (fun o i wr => ∃ (m : Nat) (Y : List ByteArray), m ≤ Z.length ∧ i = .int .i64 m ∧ Shh (OwnS w.heap.size wr o Y) ∧ Shh (Part s.data.toList N k (s[k]'hks) Z m Y) ∧ Shh (Below w4.heap.size w4 wr)) (fun _ i _ => Z.length - (intOf i).toNat)
            case atStart => exact ⟨0, X, Nat.zero_le _, rfl, HO4, HPS, ⟨Below.refl _ _⟩⟩
            case round =>
              obtain ⟨m, Y, hm, rfl, hoy, hpy, hby⟩ := hrel
              by_cases hml : m < Z.length
              · obtain ⟨g4, rfl, -, hg4⟩ := H43.out (by omega)
                have ck := (hby.out.cell (p := ⟨g4, m, none⟩) hg4).trans (own_strAt HF4.out hml)
                have hsz := HZM.out m hml
                have HPQ := Shh.mk (HPM.out m Y hpy.out hml)
                obtain ⟨x, hx⟩ : ∃ x, strAt Z m = x := ⟨_, rfl⟩
                rw [hx] at ck hsz HPQ
                have hxl : ¬ 9223372036854775807 < E.size + x.size := by omega
                have hyl : Y.length ≤ 1048577 := by have := hpy.out.len; have := HP7.out; have := HZL.out; have h0 := Nat.le_trans (Nat.le_add_right _ _) hpy.out.len; omega
                have hyr := Shh.mk hpy.out.rise
                have hbb : w.heap.size ≤ wr.heap.size := Nat.le_trans HB4.out.size hby.out.size
                have hm0 : (0 : Int) ≤ (m : Int) := by omega
                have hml2 : (m : Int) < (Z.length : Int) := by omega
                have HK := Shh.mk (fun w' (hb : Below wr.heap.size wr w') => (hb.cell (p := ⟨g4, m, none⟩) (Nat.lt_of_lt_of_le hg4 hby.out.size)).trans ck)
                obtain ⟨oa, oc, rfl, -, -, -⟩ := own_form hoy.out
                clear hx hsz hone1 hpy
                go_wp2
                go_region_held3 (fun w' => w'.cell? ⟨g4, m, none⟩ = some (.string x))
                  (exact HK.out _ (by first | assumption | exact (Below.refl _ _).drew))
                  (first | (go_at_call 111; refine (insert_onJ (a := wr) (E ++ x) (by first | assumption | exact (Below.refl _ _).drew) hoy.out hyr.out hyl hbb).mono ?_; rintro e w5 ⟨c5, d5, rfl, ho5, hb5⟩))
                all_goals
                  have HO5 := Shh.mk ho5
                  have HB5 := Shh.mk (hby.out.trans (hb5.mono hby.out.size))
                  clear ho5 hb5
                  go_wp2
                  go_roundw
                  case rel => exact ⟨m + 1, _, by omega, by go_num, HO5, HPQ, HB5⟩
                  case measure => simp [intOf]; omega
              · obtain rfl : m = Z.length := by omega
                have HT := Shh.mk (HPD.out Y hpy.out)
                have HB6 := Shh.mk (HB4.out.trans (hby.out.mono HB4.out.size))
                clear hone hone1 hpy
                go_wp2
                go_roundw
                case rel => exact ⟨k + 1, Y, by omega, by go_num, hoy, HT, HB6⟩
                case measure => simp [intOf]; omega
        · have hd0 : decide ((0 : Int) < (k : Int)) = false := decide_eq_false (by omega)
          have hd3 : decide (0 < k) = false := decide_eq_false hk0
          have hkm0 := hk0
          have HFI := Shh.mk (show k = 0 ∨ s.data.toList[k]? ≠ s.data.toList[k - 1]? from .inl (by omega))
          have HAT := Shh.mk hat
          go_wp2
          go_quiet (fail)
          have ho2 := Shh.mk (OwnS.kept ho.out (below_drewN (Below.refl wr.heap.size wr) nq))
          have hb2 := Shh.mk (below_drewN hb.out nq)
          generalize wr.drewN nq = W2 at ho2 hb2 ⊢
          clear hat hkm0 hd0 hd3
          have hk1s : (k : Int) + 1 ≤ (s.size : Int) := by omega
          have hk10 : (0 : Int) ≤ (k : Int) + 1 := by omega
          have hkk1 : (k : Int) ≤ (k : Int) + 1 := by omega
          have HZS := Shh.mk (show (s.extract (k + 1) s.size).size ≤ 7 by rw [ByteArray.size_extract]; omega)
          have HED := Shh.mk (ext_drop (s := s) (i := k + 1) (Nat.le_refl _))
          have hone := ext_one' s k hks
          have hone1 : (txt [s[k]'hks]).size = 1 := txt_size _
          go_wp2_with fail
          refine (IH.out _ _ HZS.out hn7).mono ?_
          rintro e w4 ⟨v4, rfl, Z, hoz, hZ, hb4⟩
          have HZ := Shh.mk hZ
          have HF4 := Shh.mk hoz
          have HO4 := Shh.mk (OwnS.kept ho2.out hb4)
          have HB4 := Shh.mk (hb2.out.trans (hb4.mono hb2.out.size))
          obtain ⟨a4, c4, rfl, -, -, h43⟩ := own_form hoz
          have H43 := Shh.mk h43
          have hzl : Z.length ≤ 128 := Nat.le_trans hZ.len (Nat.pow_le_pow_right (n := 2) (j := 7) (by decide) (by rw [len_list]; exact HZS.out))
          have HZL := Shh.mk hzl
          have hp7 : 2 ^ s.data.toList.length ≤ 128 := Nat.pow_le_pow_right (n := 2) (j := 7) (by decide) (by rw [len_list]; exact hs)
          have HP7 := Shh.mk hp7
          have HZM := Shh.mk (fun m (hm : m < Z.length) => show (strAt Z m).size ≤ 7 by
            have := ((hZ.mem _).1 (strAt_mem hm)).1
            rw [len_list] at this
            omega)
          obtain ⟨E, hE⟩ : ∃ E, txt [s[k]'hks] = E := ⟨_, rfl⟩
          rw [hE] at hone hone1
          have HPM := Shh.mk (fun (m : Nat) (Y : List ByteArray) (h : Part s.data.toList N k (s[k]'hks) Z m Y) (hm : m < Z.length) => by have := part_more h hm; rw [hE] at this; exact this)
          have HPD := Shh.mk (fun (Y : List ByteArray) (h : Part s.data.toList N k (s[k]'hks) Z Z.length Y) => part_done h HFI.out HAT.out hNp (by have h2 := HZ.out; rw [HED.out] at h2; rw [show N - 1 = n by have := HN.out; omega]; exact h2))
          have HPS := Shh.mk (part_start (a := s[k]'hks) (Z := Z) ht.out)
          clear hoz hZ hb4 h43 hE ht hp7 ho hb
          go_wp2
          go_loopw [5, 8] (fun o i wr => ∃ (m : Nat) (Y : List ByteArray), m ≤ Z.length ∧ i = .int .i64 m ∧ Shh (OwnS w.heap.size wr o Y) ∧ Shh (Part s.data.toList N k (s[k]'hks) Z m Y) ∧ Shh (Below w4.heap.size w4 wr)) (fun _ i _ => Z.length - (intOf i).toNat)
          case atStart => exact ⟨0, X, Nat.zero_le _, rfl, HO4, HPS, ⟨Below.refl _ _⟩⟩
          case round =>
            obtain ⟨m, Y, hm, rfl, hoy, hpy, hby⟩ := hrel
            by_cases hml : m < Z.length
            · obtain ⟨g4, rfl, -, hg4⟩ := H43.out (by omega)
              have ck := (hby.out.cell (p := ⟨g4, m, none⟩) hg4).trans (own_strAt HF4.out hml)
              have hsz := HZM.out m hml
              have HPQ := Shh.mk (HPM.out m Y hpy.out hml)
              obtain ⟨x, hx⟩ : ∃ x, strAt Z m = x := ⟨_, rfl⟩
              rw [hx] at ck hsz HPQ
              have hxl : ¬ 9223372036854775807 < E.size + x.size := by omega
              have hyl : Y.length ≤ 1048577 := by have := hpy.out.len; have := HP7.out; have := HZL.out; have h0 := Nat.le_trans (Nat.le_add_right _ _) hpy.out.len; omega
              have hyr := Shh.mk hpy.out.rise
              have hbb : w.heap.size ≤ wr.heap.size := Nat.le_trans HB4.out.size hby.out.size
              have hm0 : (0 : Int) ≤ (m : Int) := by omega
              have hml2 : (m : Int) < (Z.length : Int) := by omega
              have HK := Shh.mk (fun w' (hb : Below wr.heap.size wr w') => (hb.cell (p := ⟨g4, m, none⟩) (Nat.lt_of_lt_of_le hg4 hby.out.size)).trans ck)
              obtain ⟨oa, oc, rfl, -, -, -⟩ := own_form hoy.out
              clear hx hsz hone1 hpy
              go_wp2
              go_region_held3 (fun w' => w'.cell? ⟨g4, m, none⟩ = some (.string x))
                (exact HK.out _ (by first | assumption | exact (Below.refl _ _).drew))
                (first | (go_at_call 111; refine (insert_onJ (a := wr) (E ++ x) (by first | assumption | exact (Below.refl _ _).drew) hoy.out hyr.out hyl hbb).mono ?_; rintro e w5 ⟨c5, d5, rfl, ho5, hb5⟩))
              all_goals
                have HO5 := Shh.mk ho5
                have HB5 := Shh.mk (hby.out.trans (hb5.mono hby.out.size))
                clear ho5 hb5
                go_wp2
                go_roundw
                case rel => exact ⟨m + 1, _, by omega, by go_num, HO5, HPQ, HB5⟩
                case measure => simp [intOf]; omega
            · obtain rfl : m = Z.length := by omega
              have HT := Shh.mk (HPD.out Y hpy.out)
              have HB6 := Shh.mk (HB4.out.trans (hby.out.mono HB4.out.size))
              clear hone hone1 hpy
              go_wp2
              go_roundw
              case rel => exact ⟨k + 1, Y, by omega, by go_num, hoy, HT, HB6⟩
              case measure => simp [intOf]; omega
      · have hlti : ¬ (k : Int) + (N : Int) ≤ (s.size : Int) := by omega
        have hkw : IntKind.i64.wrap ((k : Int) + (N : Int)) = (k : Int) + (N : Int) := IntWalk.i64_in _ (by omega)
        obtain ⟨a, c, rfl, -, -, -⟩ := own_form ho.out
        have HF := Shh.mk (till_done ht.out (by have := HN.out; omega) (by rw [len_list]; omega))
        go_wp2
        go_ret
        exact ⟨_, rfl, X, ho.out, HF.out, hb.out⟩
end Go.Proofs.Ytilagppmljpclaa
