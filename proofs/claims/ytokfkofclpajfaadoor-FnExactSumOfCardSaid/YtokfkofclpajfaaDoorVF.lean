/-
  The shape of an automaton: the model's answer.
  Which nodes lead to a final one: the model's answer.
-/
import Derived.Test.YtokfkofclpajfaaDoorVA
import Derived.Test.YtokfkofclpajfaaDoorC1
import Derived.Test.YtokfkofclpajfaaDoorL0
import Derived.Test.YtokfkofclpajfaaDoorNB
namespace Go.Proofs.YtokfkofclpajfaaDoor
open Go.RowKit

/-- A letter and the node behind it are well formed. -/
def okE (n : Nat) (x : Nod) (k : Nat) : Bool := inB (x.ns.getD k 0) 0 ((n : Int) - 1) && ((byteAt x.ls.data.toList k == 62 || smallB (byteAt x.ls.data.toList k)) && (decide (k = 0) || decide (byteAt x.ls.data.toList (k - 1) < byteAt x.ls.data.toList k)))
def nodeB (n : Nat) (x : Nod) : Bool := decide (x.ls.size = x.ns.length) && allTo (okE n x) x.ns.length
def shB (xs : List Nod) : Bool := inB (xs.length : Int) 1 3000 && allTo (fun i => nodeB xs.length (nodG xs i)) xs.length
theorem allTo_iff {p : Nat → Bool} {n : Nat} : allTo p n = true ↔ ∀ k, k < n → p k = true := by
  unfold allTo
  rw [List.all_eq_true]
  exact ⟨fun h k hk => h k (by simpa using hk), fun h k hk => h k (by simpa using hk)⟩
theorem byteAt_get {l : List UInt8} {k : Nat} (h : k < l.length) : byteAt l k = ((l[k]).toNat : Int) := by
  unfold byteAt
  rw [List.getD_eq_getElem?_getD, List.getElem?_eq_getElem h]
  rfl
theorem rise_adj {l : List UInt8} (h : ∀ k, k + 1 < l.length → byteAt l k < byteAt l (k + 1)) : l.Pairwise (· < ·) := by
  rw [List.pairwise_iff_getElem]
  intro i j hi hj hij
  have key : ∀ d, i + d + 1 < l.length → byteAt l i < byteAt l (i + d + 1) := by
    intro d
    induction d with
    | zero => exact fun hd => h i hd
    | succ d ih => intro hd; have h1 := ih (by omega); have h2 := h (i + d + 1) hd; exact Int.lt_trans h1 h2
  have := key (j - i - 1) (by omega)
  rw [show i + (j - i - 1) + 1 = j by omega, byteAt_get hi, byteAt_get hj] at this
  rw [UInt8.lt_iff_toNat_lt]
  omega
theorem nodeB_iff {n : Nat} {x : Nod} : nodeB n x = true ↔ ShpN n x := by
  unfold nodeB
  rw [Bool.and_eq_true, decide_eq_true_eq, allTo_iff]
  have hfb : ∀ (c : UInt8), formB c = true ↔ (((c.toNat : Int) == 62) || smallB (c.toNat : Int)) = true := by
    intro c
    unfold formB
    have : (c == 62) = ((c.toNat : Int) == 62) := by
      by_cases hc : c = 62
      · subst hc; rfl
      · have h1 : ¬ (c.toNat : Int) = 62 := fun e => hc (UInt8.toNat_inj.1 (by show c.toNat = 62; omega))
        rw [beq_eq_false_iff_ne.2 hc, beq_eq_false_iff_ne.2 h1]
    rw [this]
  constructor
  · rintro ⟨hl, ha⟩
    have hl2 : x.ls.data.toList.length = x.ns.length := by rw [list_size, hl]
    refine ⟨?_, ?_, hl, ?_⟩
    · intro c hc
      obtain ⟨k, hk, rfl⟩ := List.mem_iff_getElem.1 hc
      have := ha k (by omega)
      unfold okE at this
      simp only [Bool.and_eq_true] at this
      rw [hfb]
      have h2 := this.2.1
      rwa [byteAt_get hk] at h2
    · refine rise_adj fun k hk => ?_
      have := ha (k + 1) (by omega)
      unfold okE at this
      simp only [Bool.and_eq_true, Bool.or_eq_true, decide_eq_true_eq] at this
      rcases this.2.2 with h | h
      · omega
      · simpa using h
    · intro z hz
      obtain ⟨k, hk, rfl⟩ := List.mem_iff_getElem.1 hz
      have := ha k hk
      unfold okE inB at this
      simp only [Bool.and_eq_true, decide_eq_true_eq] at this
      have h1 := this.1
      rw [List.getD_eq_getElem?_getD, List.getElem?_eq_getElem hk] at h1
      simp at h1
      omega
  · rintro ⟨h1, h2, h3, h4⟩
    have hl2 : x.ls.data.toList.length = x.ns.length := by rw [list_size, h3]
    refine ⟨h3, fun k hk => ?_⟩
    have hk2 : k < x.ls.data.toList.length := by omega
    unfold okE inB
    simp only [Bool.and_eq_true, Bool.or_eq_true, decide_eq_true_eq]
    refine ⟨?_, ?_, ?_⟩
    · have := h4 x.ns[k] (List.getElem_mem hk)
      rw [List.getD_eq_getElem?_getD, List.getElem?_eq_getElem hk]
      simp
      omega
    · have := (hfb _).1 (h1 _ (List.getElem_mem hk2))
      rw [byteAt_get hk2]
      simpa [Bool.or_eq_true] using this
    · cases k with
      | zero => exact .inl rfl
      | succ j =>
        right
        have := (List.pairwise_iff_getElem.1 h2) j (j + 1) (by omega) hk2 (by omega)
        rw [UInt8.lt_iff_toNat_lt] at this
        rw [Nat.add_sub_cancel, byteAt_get (by omega), byteAt_get hk2]
        omega
theorem shB_iff {xs : List Nod} : shB xs = true ↔ Shp xs := by
  unfold shB inB
  rw [Bool.and_eq_true, allTo_iff, Bool.and_eq_true, decide_eq_true_eq, decide_eq_true_eq]
  exact ⟨fun h => ⟨by omega, by omega, fun i hi => nodeB_iff.1 (h.2 i hi)⟩, fun h => ⟨⟨by have := h.pos; omega, by have := h.len; omega⟩, fun i hi => nodeB_iff.2 (h.node i hi)⟩⟩
theorem shB_len {xs : List Nod} (h : inB (xs.length : Int) 1 3000 = false) : shB xs = false := by simp [shB, h]
theorem shB_bad {xs : List Nod} {i : Nat} (hi : i < xs.length) (h : nodeB xs.length (nodG xs i) = false) : shB xs = false := by
  unfold shB
  rw [allTo_not (p := fun i => nodeB xs.length (nodG xs i)) hi h, Bool.and_false]
theorem nodeB_len {n : Nat} {x : Nod} (h : ¬ x.ls.size = x.ns.length) : nodeB n x = false := by simp [nodeB, h]
theorem nodeB_bad {n : Nat} {x : Nod} {k : Nat} (hk : k < x.ns.length) (h : okE n x k = false) : nodeB n x = false := by
  unfold nodeB
  rw [allTo_not hk h, Bool.and_false]
theorem okE_in {n : Nat} {x : Nod} {k : Nat} (h : inB (x.ns.getD k 0) 0 ((n : Int) - 1) = false) : okE n x k = false := by unfold okE; rw [h]; rfl
theorem okE_form {n : Nat} {x : Nod} {k : Nat} (h1 : ¬ byteAt x.ls.data.toList k = 62) (h2 : smallB (byteAt x.ls.data.toList k) = false) : okE n x k = false := by simp [okE, h1, h2]
theorem okE_rise {n : Nat} {x : Nod} {k : Nat} (h0 : ¬ k = 0) (h : ¬ byteAt x.ls.data.toList (k - 1) < byteAt x.ls.data.toList k) : okE n x k = false := by simp [okE, h0, h]
theorem okE_yes {n : Nat} {x : Nod} {k : Nat} (h : inB (x.ns.getD k 0) 0 ((n : Int) - 1) = true) (h1 : byteAt x.ls.data.toList k = 62 ∨ smallB (byteAt x.ls.data.toList k) = true) (h2 : k = 0 ∨ byteAt x.ls.data.toList (k - 1) < byteAt x.ls.data.toList k) : okE n x k = true := by
  unfold okE
  have e1 : (byteAt x.ls.data.toList k == 62 || smallB (byteAt x.ls.data.toList k)) = true := by
    rcases h1 with h1 | h1
    · rw [h1]; rfl
    · rw [h1, Bool.or_true]
  have e2 : (decide (k = 0) || decide (byteAt x.ls.data.toList (k - 1) < byteAt x.ls.data.toList k)) = true := by
    rcases h2 with h2 | h2
    · rw [decide_eq_true h2, Bool.true_or]
    · rw [decide_eq_true h2, Bool.or_true]
  rw [h, e1, e2]
  rfl
theorem in_is {n l h : Int} {v : Bool} (e : inB n l h = v) (w : World) : Calls Tryd.prog 72 #[.int .i64 n, .int .i64 l, .int .i64 h] w fun e w' => e = .returned (.bool v) ∧ w = w' := by rw [← e]; exact l00In_any n l h w
theorem small_is {c : Int} {v : Bool} (e : smallB c = v) (w : World) : Calls Tryd.prog 123 #[.int .u8 c] w fun e w' => e = .returned (.bool v) ∧ w = w' := by rw [← e]; exact l01Small_any c w

set_option maxRecDepth 100000 in
set_option maxHeartbeats 16000000 in
theorem l06Shape_any {g : Nat} {v : Value} {xs : List Nod} (W : World) (hg : Blk W g 29 #[v]) (hx : Nds W v xs) :
    Calls Tryd.prog 102 #[.pointer (some ⟨g, 0, none⟩)] W fun e w' => e = .returned (.bool (shB xs)) ∧ ∃ k, w' = W.drewN k := by
  have hxl := hx.len
  have c0 := hg.cells 0
  have HC0 := Shh.mk c0
  obtain ⟨a, cap, rfl, hl1, hm, hc⟩ := hx
  have HC := Shh.mk hc
  clear hc hg
  cases hin : inB (xs.length : Int) 1 3000
  · have HR := Shh.mk (shB_len hin)
    have HI := Shh.mk hin
    clear hin
    go_enter Tryd.func102, Tryd.ntmps102
    go_wp2_with fail
    refine (in_is HI.out _).mono ?_
    rintro e w1 ⟨rfl, rfl⟩
    go_wp2
    go_ret
    exact ⟨ret_bool HR.out.symm, 0, rfl⟩
  · have HR := Shh.mk (show shB xs = allTo (fun i => nodeB xs.length (nodG xs i)) xs.length by simp [shB, hin])
    have hlen : 1 ≤ xs.length ∧ xs.length ≤ 3000 := by unfold inB at hin; simp at hin; omega
    have HI := Shh.mk hin
    have HBAD := Shh.mk (fun i (hi : i < xs.length) h => shB_bad (xs := xs) hi h)
    obtain ⟨p, hp⟩ : ∃ p : Nat → Bool, (fun i => nodeB xs.length (nodG xs i)) = p := ⟨_, rfl⟩
    have HP := Shh.mk (fun i => show nodeB xs.length (nodG xs i) = p i by rw [← hp])
    rw [hp] at HR
    clear hin hp
    go_enter Tryd.func102, Tryd.ntmps102
    go_wp2_with fail
    refine (in_is HI.out _).mono ?_
    rintro e w1 ⟨rfl, rfl⟩
    go_wp2
    go_loopw [4, 5, 6] (fun i _ _ wr => ∃ k m : Nat, k ≤ xs.length ∧ i = .int .i64 k ∧ wr = W.drewN m ∧ Hid (allTo p k = true)) (fun i _ _ _ => xs.length - (intOf i).toNat)
    case atStart => exact ⟨0, 0, Nat.zero_le _, rfl, rfl, allTo_zero _⟩
    case round =>
      obtain ⟨w1, hwe⟩ : ∃ w1 : World, w1 = wr := ⟨_, rfl⟩
      subst hwe
      obtain ⟨i, m, hi, rfl, hw', ht⟩ := hrel
      have HW := Shh.mk hw'
      have d0 : w1.cell? ⟨g, 0, none⟩ = some (.slice a xs.length cap) := by rw [hw']; exact HC0.out
      by_cases hlt : i < xs.length
      · obtain ⟨b, off, rfl, hbl, hcc⟩ := HC.out (by omega)
        have hn := NodIs.drewN (hcc i hlt) m
        rw [← hw'] at hn
        have HS := Shh.mk (allTo_succ p i)
        have hpi := HP.out i
        have hbad := HBAD.out i hlt
        obtain ⟨x, hxx⟩ : ∃ x, nodG xs i = x := ⟨_, rfl⟩
        rw [hxx] at hn hpi hbad
        clear hcc hxx hw'
        obtain ⟨f, ls, ns⟩ := x
        obtain ⟨n0, n1, u, n2, hu⟩ := hn
        simp only at n0 n1 n2 hu
        have hul := hu.len
        by_cases hle : ls.size = ns.length
        · have HND := Shh.mk (fun k (hk : k < ns.length) h => nodeB_bad (n := xs.length) (x := ⟨f, ls, ns⟩) hk h)
          have HNY := Shh.mk (fun (h : allTo (okE xs.length ⟨f, ls, ns⟩) ns.length = true) => show nodeB xs.length ⟨f, ls, ns⟩ = true by simp [nodeB, hle, h])
          have hlei : (ls.size : Int) = (ns.length : Int) := by omega
          have HB := Shh.mk hbad
          have HPI := Shh.mk hpi
          obtain ⟨ua, uc, rfl, hu1, hu2, hu3, hu4⟩ := hu
          have HU := Shh.mk hu3
          have HN := Shh.mk (And.intro n0 (And.intro n1 n2))
          clear hbad hpi hu3 hu4
          go_wp2
          go_quiet (fail)
          go_wp2
          have HN0 := Shh.mk (show (w1.drewN nq).cell? ⟨g, 0, none⟩ = some (.slice (some ⟨b, off, none⟩) xs.length cap) ∧ (w1.drewN nq).cell? ⟨b, off + i * 3 + 1, none⟩ = some (.string ls) ∧ (w1.drewN nq).cell? ⟨b, off + i * 3 + 2, none⟩ = some (.slice ua ns.length uc) from ⟨d0, HN.out.2.1, HN.out.2.2⟩)
          clear n0 n1 n2 d0
          go_loopw [6] (fun z wr => ∃ k q : Nat, k ≤ ns.length ∧ z = .int .i64 k ∧ wr = w1.drewN q ∧ Hid (allTo (okE xs.length ⟨f, ls, ns⟩) k = true)) (fun z _ => ns.length - (intOf z).toNat)
          case atStart => exact ⟨0, _, Nat.zero_le _, rfl, rfl, allTo_zero _⟩
          case round =>
            obtain ⟨k, q, hkl, rfl, hwq, htt⟩ := hrel
            have HWQ := Shh.mk hwq
            have n1 : wr.cell? ⟨b, off + i * 3 + 1, none⟩ = some (.string ls) := by rw [hwq]; exact HN0.out.2.1
            have n2 : wr.cell? ⟨b, off + i * 3 + 2, none⟩ = some (.slice ua ns.length uc) := by rw [hwq]; exact HN0.out.2.2
            by_cases hk : k < ns.length
            · obtain ⟨bu, ou, rfl, hbu, hcu⟩ := HU.out (by omega)
              have cu : wr.cell? ⟨bu, ou + k, none⟩ = some (.int .i64 (ns.getD k 0)) := by rw [hwq]; exact hcu k hk
              have hlk : k < ls.size := by omega
              have hbe := byteAt_eq ls k hlk
              obtain ⟨B1, hB1⟩ : ∃ B1 : Int, ((ls[k]'hlk).toNat : Int) = B1 := ⟨_, rfl⟩
              rw [hB1] at hbe
              have hwn : IntKind.i64.wrap ((xs.length : Int) - 1) = (xs.length : Int) - 1 := IntWalk.i64_in _ (by omega)
              clear hcu hwq
              obtain ⟨z, hz⟩ : ∃ z, ns.getD k 0 = z := ⟨_, rfl⟩
              have HZ := Shh.mk (fun {v : Bool} (h : inB z 0 ((xs.length : Int) - 1) = v) => show inB ((⟨f, ls, ns⟩ : Nod).ns.getD k 0) 0 ((xs.length : Int) - 1) = v by show inB (ns.getD k 0) 0 _ = v; rw [hz]; exact h)
              rw [hz] at cu
              clear hz
              cases hin2 : inB z 0 ((xs.length : Int) - 1)
              · have HIN := Shh.mk hin2
                have HSM := Shh.mk (rfl : smallB 0 = smallB 0)
                clear hin2
                have HBD := Shh.mk (HB.out (HND.out (k) hk (okE_in (HZ.out HIN.out))))
                clear hbe
                go_wp2
                go_quiet (first | (go_at_call 72; exact quietF (in_is HIN.out _)) | (go_at_call 123; exact quietF (small_is HSM.out _)))
                go_wp2
                go_ret
                exact ⟨ret_bool HBD.out.symm, _, by rw [HWQ.out, HW.out, World.drewN_drewN]; exact World.drewN_drewN _ _ _⟩
              · have HIN := Shh.mk hin2
                clear hin2
                by_cases h62 : byteAt ls.data.toList k = 62
                · have h62a : (B1 == 62) = true := by rw [← hbe, h62]; rfl
                  have h62n : (B1 != 62) = false := by rw [← hbe, h62]; rfl
                  have H62 := Shh.mk h62
                  have HSM := Shh.mk (rfl : smallB 0 = smallB 0)
                  clear h62
                  rcases Nat.eq_zero_or_pos k with hk0 | hk0
                  · have HK0 := Shh.mk hk0
                    have hkn : ¬ 0 < k := by omega
                    have hkn2 : ¬ (0 : Int) < (k : Int) := by omega
                    clear hk0
                    have HOK := Shh.mk (okE_yes (n := xs.length) (x := ⟨f, ls, ns⟩) (k := k) (HZ.out HIN.out) (.inl H62.out) (.inl HK0.out))
                    clear hbe
                    go_wp2
                    go_quiet (first | (go_at_call 72; exact quietF (in_is HIN.out _)) | (go_at_call 123; exact quietF (small_is HSM.out _)))
                    go_wp2
                    go_roundw
                    case rel => exact ⟨k + 1, _, by omega, by go_num, by rw [HWQ.out]; exact World.drewN_drewN _ _ _, by rw [Hid, allTo_succ, htt.out, HOK.out]; rfl⟩
                    case measure => simp [intOf]; omega
                  · obtain ⟨j, hj⟩ : ∃ j, k = j + 1 := ⟨k - 1, by omega⟩
                    have HJ := Shh.mk hj
                    have hjl : j < ls.size := by omega
                    have hbj := byteAt_eq ls j hjl
                    obtain ⟨B0, hB0⟩ : ∃ B0 : Int, ((ls[j]'hjl).toNat : Int) = B0 := ⟨_, rfl⟩
                    rw [hB0] at hbj
                    have hkp : (0 : Int) < (k : Int) := by omega
                    have hwr : IntKind.i64.wrap ((k : Int) - 1) = (j : Int) := by rw [show (k : Int) - 1 = (j : Int) by omega]; exact IntWalk.i64_in _ (by omega)
                    have hk1 : k - 1 = j := by omega
                    by_cases hri : byteAt ls.data.toList (k - 1) < byteAt ls.data.toList k
                    · have hle2 : ¬ B1 ≤ B0 := by rw [← hbj, ← hbe]; rw [hk1] at hri; omega
                      have HRI := Shh.mk hri
                      clear hri hbj hj hk1
                      have HOK := Shh.mk (okE_yes (n := xs.length) (x := ⟨f, ls, ns⟩) (k := k) (HZ.out HIN.out) (.inl H62.out) (.inr HRI.out))
                      clear hbe
                      go_wp2
                      go_quiet (first | (go_at_call 72; exact quietF (in_is HIN.out _)) | (go_at_call 123; exact quietF (small_is HSM.out _)))
                      go_wp2
                      go_roundw
                      case rel => exact ⟨k + 1, _, by omega, by go_num, by rw [HWQ.out]; exact World.drewN_drewN _ _ _, by rw [Hid, allTo_succ, htt.out, HOK.out]; rfl⟩
                      case measure => simp [intOf]; omega
                    · have hle2 : B1 ≤ B0 := by rw [← hbj, ← hbe]; rw [hk1] at hri; omega
                      have HRI := Shh.mk hri
                      have HK0 := Shh.mk (show ¬ k = 0 by omega)
                      clear hri hbj hj hk1
                      have HBD := Shh.mk (HB.out (HND.out (k) hk (okE_rise HK0.out HRI.out)))
                      clear hbe
                      go_wp2
                      go_quiet (first | (go_at_call 72; exact quietF (in_is HIN.out _)) | (go_at_call 123; exact quietF (small_is HSM.out _)))
                      go_wp2
                      go_ret
                      exact ⟨ret_bool HBD.out.symm, _, by rw [HWQ.out, HW.out, World.drewN_drewN]; exact World.drewN_drewN _ _ _⟩
                · have h62a : (B1 == 62) = false := by rw [← hbe]; exact beq_eq_false_iff_ne.2 h62
                  have h62n : (B1 != 62) = true := by rw [← hbe]; exact bne_iff_ne.2 h62
                  have H62 := Shh.mk h62
                  clear h62
                  cases hsm : smallB (byteAt ls.data.toList k)
                  · have HF := Shh.mk hsm
                    have HSM := Shh.mk (show smallB B1 = false by rw [← hbe]; exact hsm)
                    clear hsm
                    have HBD := Shh.mk (HB.out (HND.out (k) hk (okE_form H62.out HF.out)))
                    clear hbe
                    go_wp2
                    go_quiet (first | (go_at_call 72; exact quietF (in_is HIN.out _)) | (go_at_call 123; exact quietF (small_is HSM.out _)))
                    go_wp2
                    go_ret
                    exact ⟨ret_bool HBD.out.symm, _, by rw [HWQ.out, HW.out, World.drewN_drewN]; exact World.drewN_drewN _ _ _⟩
                  · have HF := Shh.mk hsm
                    have HSM := Shh.mk (show smallB B1 = true by rw [← hbe]; exact hsm)
                    clear hsm
                    rcases Nat.eq_zero_or_pos k with hk0 | hk0
                    · have HK0 := Shh.mk hk0
                      have hkn : ¬ 0 < k := by omega
                      have hkn2 : ¬ (0 : Int) < (k : Int) := by omega
                      clear hk0
                      have HOK := Shh.mk (okE_yes (n := xs.length) (x := ⟨f, ls, ns⟩) (k := k) (HZ.out HIN.out) (.inr HF.out) (.inl HK0.out))
                      clear hbe
                      go_wp2
                      go_quiet (first | (go_at_call 72; exact quietF (in_is HIN.out _)) | (go_at_call 123; exact quietF (small_is HSM.out _)))
                      go_wp2
                      go_roundw
                      case rel => exact ⟨k + 1, _, by omega, by go_num, by rw [HWQ.out]; exact World.drewN_drewN _ _ _, by rw [Hid, allTo_succ, htt.out, HOK.out]; rfl⟩
                      case measure => simp [intOf]; omega
                    · obtain ⟨j, hj⟩ : ∃ j, k = j + 1 := ⟨k - 1, by omega⟩
                      have HJ := Shh.mk hj
                      have hjl : j < ls.size := by omega
                      have hbj := byteAt_eq ls j hjl
                      obtain ⟨B0, hB0⟩ : ∃ B0 : Int, ((ls[j]'hjl).toNat : Int) = B0 := ⟨_, rfl⟩
                      rw [hB0] at hbj
                      have hkp : (0 : Int) < (k : Int) := by omega
                      have hwr : IntKind.i64.wrap ((k : Int) - 1) = (j : Int) := by rw [show (k : Int) - 1 = (j : Int) by omega]; exact IntWalk.i64_in _ (by omega)
                      have hk1 : k - 1 = j := by omega
                      by_cases hri : byteAt ls.data.toList (k - 1) < byteAt ls.data.toList k
                      · have hle2 : ¬ B1 ≤ B0 := by rw [← hbj, ← hbe]; rw [hk1] at hri; omega
                        have HRI := Shh.mk hri
                        clear hri hbj hj hk1
                        have HOK := Shh.mk (okE_yes (n := xs.length) (x := ⟨f, ls, ns⟩) (k := k) (HZ.out HIN.out) (.inr HF.out) (.inr HRI.out))
                        clear hbe
                        go_wp2
                        go_quiet (first | (go_at_call 72; exact quietF (in_is HIN.out _)) | (go_at_call 123; exact quietF (small_is HSM.out _)))
                        go_wp2
                        go_roundw
                        case rel => exact ⟨k + 1, _, by omega, by go_num, by rw [HWQ.out]; exact World.drewN_drewN _ _ _, by rw [Hid, allTo_succ, htt.out, HOK.out]; rfl⟩
                        case measure => simp [intOf]; omega
                      · have hle2 : B1 ≤ B0 := by rw [← hbj, ← hbe]; rw [hk1] at hri; omega
                        have HRI := Shh.mk hri
                        have HK0 := Shh.mk (show ¬ k = 0 by omega)
                        clear hri hbj hj hk1
                        have HBD := Shh.mk (HB.out (HND.out (k) hk (okE_rise HK0.out HRI.out)))
                        clear hbe
                        go_wp2
                        go_quiet (first | (go_at_call 72; exact quietF (in_is HIN.out _)) | (go_at_call 123; exact quietF (small_is HSM.out _)))
                        go_wp2
                        go_ret
                        exact ⟨ret_bool HBD.out.symm, _, by rw [HWQ.out, HW.out, World.drewN_drewN]; exact World.drewN_drewN _ _ _⟩
            · obtain rfl : k = ns.length := by omega
              have HPT := Shh.mk (HPI.out.symm.trans (HNY.out htt.out))
              clear hwq
              go_wp2
              go_roundw
              case rel => exact ⟨i + 1, _, by omega, by go_num, by rw [HWQ.out, HW.out]; exact World.drewN_drewN _ _ _, by rw [Hid, HS.out, ht.out, HPT.out]; rfl⟩
              case measure => simp [intOf]; omega
        · have hlei : ¬ (ls.size : Int) = (ns.length : Int) := by omega
          have hlei2 : ((ls.size : Int) != (ns.length : Int)) = true := by simp; omega
          have HBD := Shh.mk (hbad (nodeB_len (x := ⟨f, ls, ns⟩) hle))
          obtain ⟨ua, uc, rfl, hu1, hu2, hu3, hu4⟩ := hu
          clear hbad hpi hu3 hu4 hle
          go_wp2
          go_quiet (fail)
          go_wp2
          go_ret
          exact ⟨ret_bool HBD.out.symm, _, by rw [HW.out]; exact World.drewN_drewN _ _ _⟩
      · obtain rfl : i = xs.length := by omega
        have HD := Shh.mk (HR.out.trans ht.out)
        clear hw'
        go_wp2
        go_ret
        exact ⟨ret_bool HD.out.symm, _, HW.out⟩
end Go.Proofs.YtokfkofclpajfaaDoor

namespace Go.Proofs.YtokfkofclpajfaaDoor
open Go.RowKit

/-- A row of the call's own that holds booleans. -/
def BRow (B : Nat) (w : World) (g : Nat) (gs : List Bool) : Prop := w.ownsRow B 4 1 (.slice (some ⟨g, 0, none⟩) gs.length gs.length) gs.length (gs.map Value.bool)
theorem BRow.cell {B g : Nat} {w : World} {gs : List Bool} (h : BRow B w g gs) {k : Nat} (hk : k < gs.length) : w.cell? ⟨g, k, none⟩ = some (.bool (gs.getD k false)) := by
  have := World.ownsRow.cellAt h k (by omega)
  rw [this, List.getElem?_map, List.getElem?_eq_getElem hk, List.getD_eq_getElem?_getD, List.getElem?_eq_getElem hk]
  rfl
theorem BRow.frozen {B g : Nat} {w : World} {gs : List Bool} (h : BRow B w g gs) (k : Nat) : w.frozen? ⟨g, k, none⟩ = false := World.ownsRow.frozenAt h k
theorem BRow.set {B g : Nat} {w : World} {gs : List Bool} (h : BRow B w g gs) (k : Nat) (b : Bool) : BRow B (w.setCell ⟨g, k, none⟩ (.bool b)) g (gs.set k b) := by
  have := (World.ownsRow.stored h k (.bool b)).1
  unfold BRow
  rw [List.length_set, List.map_set]
  exact this
theorem BRow.ge {B g : Nat} {w : World} {gs : List Bool} (h : BRow B w g gs) : B ≤ g := by
  rcases h.2 with ⟨e, _⟩ | ⟨g', cap, cur, e, hB, _⟩
  · cases e
  · simp only [Value.slice.injEq, Option.some.injEq, Addr.mk.injEq] at e
    omega
/-- What is marked leads to a final node. -/
def SoundB (G : Gph) (gs : List Bool) : Prop := ∀ i, gs.getD i false = true → ∃ k, G.W k i ≠ []
/-- A node is marked if it leads to a final one, and no path from it has r letters. -/
def CompB (G : Gph) (r : Nat) (gs : List Bool) (i : Nat) : Prop := ∀ q, q < r → G.okH (q + 1) i = true → G.W q i ≠ [] → gs.getD i false = true
theorem getD_set {gs : List Bool} {k : Nat} (hk : k < gs.length) (b : Bool) (i : Nat) : (gs.set k b).getD i false = if i = k then b else gs.getD i false := by
  rw [List.getD_eq_getElem?_getD, List.getElem?_set]
  by_cases h : k = i
  · subst h
    simp [hk]
  · rw [if_neg h, if_neg (fun e => h e.symm), List.getD_eq_getElem?_getD]
theorem SoundB.set {G : Gph} {gs : List Bool} (h : SoundB G gs) {k : Nat} (hk : k < gs.length) {b : Bool} (hb : b = true → ∃ q, G.W q k ≠ []) : SoundB G (gs.set k b) := by
  intro i hi
  rw [getD_set hk] at hi
  by_cases e : i = k
  · rw [if_pos e] at hi
    rw [e]
    exact hb hi
  · rw [if_neg e] at hi
    exact h i hi
theorem CompB.set {G : Gph} {r : Nat} {gs : List Bool} {i : Nat} (h : CompB G r gs i) {k : Nat} (hk : k < gs.length) {b : Bool} (hb : gs.getD k false = true → b = true) : CompB G r (gs.set k b) i := by
  intro q hq h1 h2
  have := h q hq h1 h2
  rw [getD_set hk]
  by_cases e : i = k
  · rw [if_pos e]
    rw [e] at this
    exact hb this
  · rw [if_neg e]
    exact this
theorem W_final {G : Gph} {i : Nat} (h : G.F i = true) : G.W 0 i ≠ [] := by unfold Gph.W; rw [if_pos h]; simp
theorem W_behind {G : Gph} {i j k : Nat} (hj : j ∈ G.N i) (h : G.W k j ≠ []) : G.W (k + 1) i ≠ [] := by
  obtain ⟨e, he, rfl⟩ := List.mem_map.1 hj
  rw [Gph.W_succ]
  intro h2
  have h3 := (List.append_eq_nil_iff.1 h2).2
  cases hw : G.W k e.2 with
  | nil => exact h hw
  | cons w ws =>
    have : (e.1 :: w) ∈ (G.E i).flatMap fun e => (G.W k e.2).map (e.1 :: ·) := List.mem_flatMap.2 ⟨e, he, List.mem_map.2 ⟨w, by rw [hw]; simp, rfl⟩⟩
    rw [h3] at this
    simp at this
/-- A node of which all that is behind it has been looked at is marked if it has to be. -/
theorem comp_next {G : Gph} {r i : Nat} {gs : List Bool} (hf : G.F i = true → gs.getD i false = true) (hn : ∀ j ∈ G.N i, ∀ q, q < r → G.okH (q + 1) j = true → G.W q j ≠ [] → gs.getD i false = true) : CompB G (r + 1) gs i := by
  intro q hq h1 h2
  cases q with
  | zero =>
    by_cases hF : G.F i = true
    · exact hf hF
    · unfold Gph.W at h2
      rw [if_neg hF] at h2
      exact absurd rfl h2
  | succ q =>
    by_cases hF : G.F i = true
    · exact hf hF
    · rw [Gph.W_succ, if_neg hF, List.nil_append] at h2
      have h3 := Gph.okH_step.1 h1
      have : ∃ e ∈ G.E i, G.W q e.2 ≠ [] := by
        refine Classical.byContradiction fun hno => h2 ?_
        refine List.flatMap_eq_nil_iff.2 fun e he => ?_
        have : G.W q e.2 = [] := Classical.byContradiction fun h4 => hno ⟨e, he, h4⟩
        rw [this]
        rfl
      obtain ⟨e, he, hw⟩ := this
      exact hn e.2 (List.mem_map.2 ⟨e, he, rfl⟩) q (by omega) (h3 e he) hw
/-- Between two steps: what is marked, and how far the round has come. -/
structure Marks (G : Gph) (n r i : Nat) (gs : List Bool) : Prop where
  len : gs.length = n
  sound : SoundB G gs
  comp : ∀ j, j < n → CompB G r gs j
  done : ∀ j, j < i → CompB G (r + 1) gs j
theorem Marks.set {G : Gph} {n r i : Nat} {gs : List Bool} (h : Marks G n r i gs) {k : Nat} (hk : k < n) {b : Bool} (hb : b = true → ∃ q, G.W q k ≠ []) (hm : gs.getD k false = true → b = true) : Marks G n r i (gs.set k b) := by
  have hkl : k < gs.length := by rw [h.len]; exact hk
  exact ⟨by rw [List.length_set, h.len], h.sound.set hkl hb, fun j hj => (h.comp j hj).set hkl hm, fun j hj => (h.done j hj).set hkl hm⟩
theorem infoBool : (Tryd.prog.info? 4).map (fun i => (i.zero, i.size, i.bytes)) = some (some (.bool false), 1, 1) := by kernel_rfl

end Go.Proofs.YtokfkofclpajfaaDoor
