/-
  The node behind a letter and behind some letters: the model's and the program's answers.
-/
import Derived.Test.YtokfkofclpajfaaDoorYA
import Derived.Test.YtokfkofclpajfaaDoorWE
import Derived.Test.YtokfkofclpajfaaDoorVH
import Derived.Test.YtokfkofclpajfaaDoorShelfI
namespace Go.Proofs.YtokfkofclpajfaaDoor
open Go.RowKit

theorem byte_eq {ls : ByteArray} {k : Nat} (hk : k < ls.size) : ls.data.toList.getD k 0 = ls[k] := by
  have hl : k < ls.data.toList.length := by rw [list_size]; exact hk
  rw [List.getD_eq_getElem?_getD, List.getElem?_eq_getElem hl]
  rfl
theorem u8_int {a b : UInt8} : ((a.toNat : Int) = (b.toNat : Int)) ↔ a = b := by
  constructor
  · intro h
    exact UInt8.toNat_inj.1 (by omega)
  · rintro rfl
    rfl
theorem optI_some (j : Nat) : optI (some j) = (j : Int) := rfl
theorem optI_none : optI none = -1 := rfl

set_option maxRecDepth 100000 in
set_option maxHeartbeats 4000000 in
theorem l06Step_any {g : Nat} {v : Value} {xs : List Nod} (W : World) (hg : Blk W g 29 #[v]) (hx : Nds W v xs) (hs : Shp xs) (i : Nat) (hi : i < xs.length) (c : UInt8) :
    Calls Tryd.prog 73 #[.pointer (some ⟨g, 0, none⟩), .int .i64 (i : Int), .int .u8 (c.toNat : Int)] W fun e w' => e = .returned (.int .i64 (optI ((gphD xs).step i c))) ∧ ∃ k, w' = W.drewN k := by
  have c0 := hg.cells 0
  have hxl := hx.len
  obtain ⟨a, cap, rfl, hl1, hmm, hcn⟩ := hx
  obtain ⟨b, off, rfl, hbl, hcc⟩ := hcn (by omega)
  obtain ⟨n0, n1, u, n2, hu⟩ := hcc i hi
  have hlen := (hs.node i hi).len
  have HEL := Shh.mk (hs.E_len hi)
  have HEA := Shh.mk (fun k (hk : k < (nodG xs i).ns.length) => hs.E_at hi hk)
  have HNX := Shh.mk (fun k (hk : k < (nodG xs i).ns.length) => show 0 ≤ (nodG xs i).ns.getD k 0 ∧ (nodG xs i).ns.getD k 0 < xs.length by rw [List.getD_eq_getElem?_getD, List.getElem?_eq_getElem hk]; exact (hs.node i hi).next _ (List.getElem_mem hk))
  obtain ⟨x, hxx⟩ : ∃ x, nodG xs i = x := ⟨_, rfl⟩
  rw [hxx] at n0 n1 hu hlen HEL HEA HNX
  clear hcn hcc hxx hg hs
  obtain ⟨f, ls, ns⟩ := x
  simp only at n0 n1 n2 hu hlen HEL HEA HNX
  have hul := hu.len
  obtain ⟨ua, uc, rfl, hu1, hu2, hu3, -⟩ := hu
  have HU := Shh.mk hu3
  have HC := Shh.mk (And.intro c0 (And.intro n1 n2))
  have HLEN := Shh.mk hlen
  clear hu3 n0 hlen
  go_enter Tryd.func73, Tryd.ntmps73
  go_wp2
  go_loopw [8] (fun z wr => ∃ k q : Nat, k ≤ ns.length ∧ z = .int .i64 k ∧ wr = W.drewN q ∧ Shh (∀ m, m < k → ∀ e, ((gphD xs).E i)[m]? = some e → e.1 ≠ c)) (fun z _ => ns.length - (intOf z).toNat)
  case atStart => exact ⟨0, 0, Nat.zero_le _, rfl, rfl, ⟨fun m hm => absurd hm (by omega)⟩⟩
  case round =>
    obtain ⟨k, q, hkl, rfl, hwq, hno⟩ := hrel
    have HWQ := Shh.mk hwq
    have n1 : wr.cell? ⟨b, off + i * 3 + 1, none⟩ = some (.string ls) := by rw [hwq]; exact HC.out.2.1
    have n2 : wr.cell? ⟨b, off + i * 3 + 2, none⟩ = some (.slice ua ns.length uc) := by rw [hwq]; exact HC.out.2.2
    by_cases hk : k < ns.length
    · obtain ⟨bu, ou, rfl, hbu, hcu⟩ := HU.out (by omega)
      have cu : wr.cell? ⟨bu, ou + k, none⟩ = some (.int .i64 (ns.getD k 0)) := by rw [hwq]; exact hcu k hk
      have hlk : k < ls.size := by have := HLEN.out; omega
      have he := HEA.out k hk
      rw [byte_eq hlk] at he
      obtain ⟨hz0, hz1⟩ := HNX.out k hk
      obtain ⟨z, hz⟩ : ∃ z, ns.getD k 0 = z := ⟨_, rfl⟩
      rw [hz] at cu hz0 hz1 he
      obtain ⟨B, hB⟩ : ∃ B : UInt8, ls[k]'hlk = B := ⟨_, rfl⟩
      obtain ⟨C, hCI⟩ : ∃ C : Int, (c.toNat : Int) = C := ⟨_, rfl⟩
      obtain ⟨BI, hBI⟩ : ∃ BI : Int, ((ls[k]'hlk).toNat : Int) = BI := ⟨_, rfl⟩
      rw [hB] at he
      have hlki : (k : Int) < (ls.size : Int) := by omega
      by_cases hbc : B = c
      · subst hbc
        have HR := Shh.mk (Gph.step_at he hno.out)
        have heq : (BI == C) = true := by rw [← hBI, ← hCI, hB]; exact beq_self_eq_true _
        have HZ := Shh.mk (show ((z.toNat : Nat) : Int) = z by omega)
        rw [hCI]
        clear hcu hwq hz he hB hCI hz0 hz1
        go_wp2
        go_ret
        exact ⟨by (rw [HR.out, optI_some, HZ.out]; try rfl), q, HWQ.out⟩
      · have heq : (BI == C) = false := by rw [← hBI, ← hCI, hB]; exact beq_eq_false_iff_ne.2 fun e => hbc (u8_int.1 e)
        have HNO := Shh.mk (show ∀ m, m < k + 1 → ∀ e, ((gphD xs).E i)[m]? = some e → e.1 ≠ c from fun m hm e hme => by
          rcases Nat.lt_or_ge m k with h1 | h1
          · exact hno.out m h1 e hme
          · obtain rfl : m = k := by omega
            rw [he] at hme
            obtain rfl := Option.some.inj hme
            exact hbc)
        clear hcu hwq hz he hB hz0 hz1
        rw [hCI]
        clear hCI
        go_wp2
        go_roundw
        case rel => exact ⟨k + 1, q, by omega, by go_num, HWQ.out, HNO⟩
        case measure => simp [intOf]; omega
    · obtain rfl : k = ns.length := by omega
      have HR := Shh.mk (Gph.step_none (G := gphD xs) (i := i) (c := c) fun m e hme => hno.out m (by have h1 := (List.getElem?_eq_some_iff.1 hme).1; rw [HEL.out] at h1; exact h1) e hme)
      have hlk : ¬ (ns.length : Int) < (ls.size : Int) := by have := HLEN.out; omega
      clear hwq
      go_wp2
      go_ret
      exact ⟨by (rw [HR.out, optI_none]; try rfl), q, HWQ.out⟩

theorem byte_back (c : UInt8) : ((c.toNat : Int)).toNat.toUInt8 = c := by
  rw [Int.toNat_natCast]
  exact UInt8.ofNat_toNat
theorem u8_of {n : Int} (h : (Lit.int .u8 n).wf = true) : ∃ c : UInt8, n = (c.toNat : Int) := by
  have h2 : 0 ≤ n ∧ n ≤ 255 := by simpa [Lit.wf, IntKind.min, IntKind.max, IntKind.signed, IntKind.bits] using h
  refine ⟨UInt8.ofNat n.toNat, ?_⟩
  have : (UInt8.ofNat n.toNat).toNat = n.toNat := by rw [UInt8.toNat_ofNat']; omega
  omega

set_option maxRecDepth 100000 in
set_option maxHeartbeats 4000000 in
theorem l06After_any {g : Nat} {v : Value} {xs : List Nod} (W : World) (hg : Blk W g 29 #[v]) (hx : Nds W v xs) (hs : Shp xs) (i : Nat) (hi : i < xs.length) (s : ByteArray) (hsz : s.size ≤ 1048576) :
    Calls Tryd.prog 75 #[.pointer (some ⟨g, 0, none⟩), .int .i64 (i : Int), .string s] W fun e w' => e = .returned (.int .i64 (optI ((gphD xs).after i s.data.toList))) ∧ ∃ k, w' = W.drewN k := by
  have HST := Shh.mk (fun q (j : Nat) (hj : j < xs.length) (c : UInt8) => l06Step_any (W.drewN q) (hg.drewN q) (hx.drewN q) hs j hj c)
  have HLT := Shh.mk (fun (l : List UInt8) (j : Nat) (h : (gphD xs).after i l = some j) => hs.after_lt hi h)
  have HSL := Shh.mk (list_size s)
  clear hg hx hs
  go_enter Tryd.func75, Tryd.ntmps75
  go_wp2
  go_loopw [1, 7] (fun nd z wr => ∃ (k q : Nat) (r : Int), k ≤ s.size ∧ z = .int .i64 k ∧ wr = W.drewN q ∧ nd = .int .i64 r ∧ Shh (optI ((gphD xs).after i (s.data.toList.take k)) = r)) (fun _ z _ => s.size - (intOf z).toNat)
  case atStart => exact ⟨0, 0, (i : Int), Nat.zero_le _, rfl, rfl, rfl, ⟨rfl⟩⟩
  case round =>
    obtain ⟨k, q, r, hkl, rfl, hwq, rfl, hr⟩ := hrel
    have HWQ := Shh.mk hwq
    obtain ⟨o, ho⟩ : ∃ o, (gphD xs).after i (s.data.toList.take k) = o := ⟨_, rfl⟩
    have hr' := hr.out
    rw [ho] at hr'
    clear hr
    by_cases hk : k < s.size
    · have hki : (k : Int) < (s.size : Int) := by omega
      cases o with
      | none =>
        have hr0 : r = -1 := hr'.symm
        subst hr0
        have HR := Shh.mk (Gph.after_dead (s.size - k) k (by rw [HSL.out]; omega) ho)
        clear hwq ho hr'
        go_wp2
        go_ret
        exact ⟨by (rw [HR.out]; try rfl), _, HWQ.out⟩
      | some j =>
        have hr0 : r = (j : Int) := hr'.symm
        subst hr0
        have hj := HLT.out _ _ ho
        have HC := Shh.mk (HST.out q j hj (s[k]'hk))
        rw [← hwq] at HC
        have HNX := Shh.mk (show (gphD xs).after i (s.data.toList.take (k + 1)) = (gphD xs).step j (s[k]'hk) from by rw [Gph.after_take (by rw [HSL.out]; exact hk), ho, byte_eq hk])
        have hj0 : (0 : Int) ≤ (j : Int) := by omega
        clear hwq ho hr'
        go_wp2_with (go_at_call 73; refine (HC.out).mono ?_; rintro e w1 ⟨rfl, m, rfl⟩)
        go_roundw
        case rel => exact ⟨k + 1, _, _, by omega, by go_num, by rw [HWQ.out]; exact World.drewN_drewN _ _ _, rfl, ⟨by rw [HNX.out]⟩⟩
        case measure => simp [intOf]; omega
    · obtain rfl : k = s.size := by omega
      have HR := Shh.mk (show (gphD xs).after i s.data.toList = o from by rw [← ho, List.take_of_length_le (by rw [HSL.out]; exact Nat.le_refl _)])
      have HRR := Shh.mk hr'
      clear hwq ho hr'
      go_wp2
      go_ret
      exact ⟨by (rw [HR.out, HRR.out]; try rfl), _, HWQ.out⟩

set_option maxRecDepth 100000 in
set_option maxHeartbeats 2000000 in
theorem l06Accepts_any {g : Nat} {v : Value} {xs : List Nod} (W : World) (hg : Blk W g 29 #[v]) (hx : Nds W v xs) (hs : Shp xs) (s : ByteArray) (hsz : s.size ≤ 1048576) :
    Calls Tryd.prog 77 #[.pointer (some ⟨g, 0, none⟩), .string s] W fun e w' => e = .returned (.bool ((gphD xs).acc 0 s.data.toList)) ∧ ∃ k, w' = W.drewN k := by
  have HA := Shh.mk (l06After_any W hg hx hs 0 hs.pos s hsz)
  have HG := Shh.mk (hg.cells 0)
  have HLT := Shh.mk (fun (j : Nat) (h : (gphD xs).after 0 s.data.toList = some j) => hs.after_lt hs.pos h)
  have hxl := hx.len
  have h0 := hs.pos
  obtain ⟨a, cap, rfl, hl1, hmm, hcn⟩ := hx
  obtain ⟨b, off, rfl, hbl, hcc⟩ := hcn h0
  have HC := Shh.mk hcc
  obtain ⟨o, ho⟩ : ∃ o, (gphD xs).after 0 s.data.toList = o := ⟨_, rfl⟩
  have HO := Shh.mk ho
  rw [ho] at HA
  clear hg hs hcc hcn
  cases o with
  | none =>
    have HR := Shh.mk (show (gphD xs).acc 0 s.data.toList = false from by unfold Gph.acc; rw [ho])
    clear ho
    rw [optI_none] at HA
    go_enter Tryd.func77, Tryd.ntmps77
    go_wp2_with (go_at_call 75; refine (HA.out).mono ?_; rintro e w1 ⟨rfl, m, rfl⟩)
    go_ret
    exact ⟨by (rw [HR.out]; try rfl), _, by first | rfl | exact World.drewN_drewN _ _ _⟩
  | some j =>
    have hj := HLT.out j ho
    have HR := Shh.mk (show (gphD xs).acc 0 s.data.toList = (nodG xs j).f from by unfold Gph.acc; rw [ho]; rfl)
    obtain ⟨F, hF⟩ : ∃ F, (nodG xs j).f = F := ⟨_, rfl⟩
    rw [hF] at HR
    have HN := Shh.mk (fun q => show (W.drewN q).cell? ⟨g, 0, none⟩ = some (.slice (some ⟨b, off, none⟩) xs.length cap) ∧ (W.drewN q).cell? ⟨b, off + j * 3, none⟩ = some (.bool F) from ⟨HG.out, by have h1 := (HC.out j hj).1; rw [hF] at h1; exact h1⟩)
    have hj0 : (0 : Int) ≤ (j : Int) := by omega
    clear ho hF
    rw [optI_some] at HA
    go_enter Tryd.func77, Tryd.ntmps77
    go_wp2_with (go_at_call 75; refine (HA.out).mono ?_; rintro e w1 ⟨rfl, m, rfl⟩; obtain ⟨d0, d1⟩ := HN.out m)
    go_ret
    exact ⟨by (rw [HR.out]; try rfl), _, by first | rfl | exact World.drewN_drewN _ _ _⟩

/-! ### The program -/
set_option maxHeartbeats 1000000 in
theorem step_any {f : Bool} {ls : ByteArray} {u : Value} {ns : List Int} (W : World) (hu : Ints .i64 W u ns) (c : UInt8) (r : Int)
    (hr : (Lib.indexByte ls.data.toList c = -1 ∧ r = -1) ∨ ∃ k : Nat, Lib.indexByte ls.data.toList c = (k : Int) ∧ k < ns.length ∧ r = ns.getD k 0) :
    Calls Tryd.prog 74 #[.agg #[.bool f, .string ls, u], .int .u8 (c.toNat : Int)] W fun e w' => e = .returned (.int .i64 r) ∧ Below W.heap.size W w' := by
  have hul := hu.len
  have HB := Shh.mk (show Below W.heap.size W (W.alloc (.cells #[.bool f, .string ls, u] 71)) from (Below.refl _ _).alloc (Nat.le_refl _) _)
  have HU := Shh.mk (hu.alloc (.cells #[.bool f, .string ls, u] 71))
  obtain ⟨ua, uc, rfl, hu1, hu2, -⟩ := hu
  rcases hr with ⟨h1, rfl⟩ | ⟨k, h1, hk, rfl⟩
  · have HI := Shh.mk h1
    clear h1
    go_enter Tryd.func74, Tryd.ntmps74
    go_wp2_with (go_at_call 112; refine (Tryd.strings_IndexByte _ _ _).mono ?_; rw [byte_back, HI.out]; rintro e w' ⟨rfl, rfl⟩)
    go_ret
    exact ⟨rfl, HB.out⟩
  · obtain ⟨ua2, uc2, he, -, -, hc, -⟩ := HU.out
    simp only [Value.slice.injEq] at he
    obtain ⟨rfl, -, rfl⟩ := he
    obtain ⟨bu, ou, rfl, hbu, hcu⟩ := hc (by omega)
    have cu := hcu k hk
    obtain ⟨z, hz⟩ : ∃ z, ns.getD k 0 = z := ⟨_, rfl⟩
    rw [hz] at cu ⊢
    have HI := Shh.mk h1
    have hk0 : ¬ (k : Int) < 0 := by omega
    have hk1 : (k : Int) < (ns.length : Int) := by omega
    have hk2 : (0 : Int) ≤ (k : Int) := by omega
    clear h1 hc hcu hz
    go_enter Tryd.func74, Tryd.ntmps74
    go_wp2_with (go_at_call 112; refine (Tryd.strings_IndexByte _ _ _).mono ?_; rw [byte_back, HI.out]; rintro e w' ⟨rfl, rfl⟩)
    go_ret
    exact ⟨rfl, HB.out⟩
theorem step_is {xs : List Nod} (hs : Shp xs) {j : Nat} (hj : j < xs.length) (c : UInt8) :
    (Lib.indexByte (nodG xs j).ls.data.toList c = -1 ∧ optI ((gphD xs).step j c) = -1) ∨ ∃ k : Nat, Lib.indexByte (nodG xs j).ls.data.toList c = (k : Int) ∧ k < (nodG xs j).ns.length ∧ optI ((gphD xs).step j c) = (nodG xs j).ns.getD k 0 := by
  rcases step_index hs hj c with ⟨h1, h2⟩ | ⟨k, h1, h2, h3⟩
  · exact .inl ⟨h1, by rw [h2]; rfl⟩
  · refine .inr ⟨k, h1, h2, ?_⟩
    have := (hs.node j hj).next ((nodG xs j).ns.getD k 0) (by rw [List.getD_eq_getElem?_getD, List.getElem?_eq_getElem h2]; exact List.getElem_mem h2)
    rw [h3, optI_some]
    omega

set_option maxRecDepth 100000 in
set_option maxHeartbeats 4000000 in
theorem after_any {v : Value} {xs : List Nod} (W : World) (hx : Nds W v xs) (hs : Shp xs) (i : Nat) (hi : i < xs.length) (s : ByteArray) (hsz : s.size ≤ 1048576) :
    Calls Tryd.prog 76 #[.agg #[v], .int .i64 (i : Int), .string s] W fun e w' => e = .returned (.int .i64 (optI ((gphD xs).after i s.data.toList))) ∧ Below W.heap.size W w' := by
  have HB0 := Shh.mk (show Below W.heap.size W (W.alloc (.cells #[v] 29)) from (Below.refl _ _).alloc (Nat.le_refl _) _)
  have HBD := Shh.mk (Blk.made W 29 #[v])
  have HX := Shh.mk (hx.alloc (.cells #[v] 29))
  have HLT := Shh.mk (fun (l : List UInt8) (j : Nat) (h : (gphD xs).after i l = some j) => hs.after_lt hi h)
  have HIS := Shh.mk (fun (j : Nat) (hj : j < xs.length) (c : UInt8) => step_is hs hj c)
  have HSL := Shh.mk (list_size s)
  have hxl := hx.len
  obtain ⟨na, nc, rfl, hn1, hn2, -⟩ := hx
  obtain ⟨na2, nc2, he, -, -, hnn⟩ := HX.out
  simp only [Value.slice.injEq] at he
  obtain ⟨rfl, -, rfl⟩ := he
  obtain ⟨bn, on, rfl, hbn, hcn⟩ := hnn (by omega)
  have HN := Shh.mk hcn
  clear hcn hnn hs
  go_enter Tryd.func76, Tryd.ntmps76
  go_wp2
  go_loopw [1, 7, 10] (fun nd _ z wr => ∃ k j : Nat, k ≤ s.size ∧ z = .int .i64 k ∧ nd = .int .i64 j ∧ j < xs.length ∧ Shh ((gphD xs).after i (s.data.toList.take k) = some j) ∧ Below (W.alloc (.cells #[.slice (some ⟨bn, on, none⟩) xs.length nc] 29)).heap.size (W.alloc (.cells #[.slice (some ⟨bn, on, none⟩) xs.length nc] 29)) wr) (fun _ _ z _ => s.size - (intOf z).toNat)
  case atStart => exact ⟨0, i, Nat.zero_le _, rfl, rfl, hi, ⟨rfl⟩, Below.refl _ _⟩
  case round =>
    obtain ⟨k, j, hkl, rfl, rfl, hj, haf, hb⟩ := hrel
    have HB := Shh.mk hb
    have d0 : wr.cell? ⟨W.heap.size, 0, none⟩ = some (.slice (some ⟨bn, on, none⟩) xs.length nc) := (HBD.out.kept hb HBD.out.lt).cells 0
    by_cases hk : k < s.size
    · have hki : (k : Int) < (s.size : Int) := by omega
      obtain ⟨n0, n1, u, n2, hu⟩ := NodIs.below (HN.out j hj) hb hbn
      have his := HIS.out j hj (s[k]'hk)
      have HNX := Shh.mk (show (gphD xs).after i (s.data.toList.take (k + 1)) = (gphD xs).step j (s[k]'hk) from by rw [Gph.after_take (by rw [HSL.out]; exact hk), haf.out, byte_eq hk])
      obtain ⟨x, hxx⟩ : ∃ x, nodG xs j = x := ⟨_, rfl⟩
      rw [hxx] at n0 n1 hu his
      obtain ⟨f, ls, ns⟩ := x
      simp only at n0 n1 n2 hu his
      obtain ⟨o, ho⟩ : ∃ o, (gphD xs).step j (s[k]'hk) = o := ⟨_, rfl⟩
      rw [ho] at his HNX
      have HC := Shh.mk (fun (w' : World) (hb' : Below wr.heap.size wr w') => step_any (f := f) (ls := ls) w' (hu.below hb') (s[k]'hk) (optI o) his)
      obtain ⟨ua, uc, rfl, -⟩ := hu
      have hj0 : (0 : Int) ≤ (j : Int) := by omega
      have hj1 : (j : Int) < (xs.length : Int) := by omega
      clear his hxx ho hb
      cases o with
      | none =>
        have HR := Shh.mk (Gph.after_dead (s.size - (k + 1)) (k + 1) (by rw [HSL.out]; omega) HNX.out)
        rw [optI_none] at HC
        go_wp2
        go_region_with (go_at_call 74; refine (HC.out _ (by first | assumption | exact (Below.refl _ _).drew | exact Below.refl _ _)).mono ?_; rintro e w2 ⟨rfl, hb2⟩)
        all_goals
          go_wp2
          go_ret
          exact ⟨by (rw [HR.out]; try rfl), HB0.out.trans ((HB.out.drew.trans (hb2.mono HB.out.size)).mono HB0.out.size)⟩
      | some m =>
        have hm := HLT.out _ _ HNX.out
        rw [optI_some] at HC
        have hne : ((m : Int) == -1) = false := beq_eq_false_iff_ne.2 (by omega)
        go_wp2
        go_region_with (go_at_call 74; refine (HC.out _ (by first | assumption | exact (Below.refl _ _).drew | exact Below.refl _ _)).mono ?_; rintro e w2 ⟨rfl, hb2⟩)
        all_goals
          have HB2 := Shh.mk (HB.out.drew.trans (hb2.mono HB.out.size))
          clear hb2
          go_wp2
          go_roundw
          case rel => exact ⟨k + 1, m, by omega, by go_num, rfl, hm, HNX, HB2.out⟩
          case measure => simp [intOf]; omega
    · obtain rfl : k = s.size := by omega
      have HR := Shh.mk (show (gphD xs).after i s.data.toList = some j from by rw [← haf.out, List.take_of_length_le (by rw [HSL.out]; exact Nat.le_refl _)])
      clear haf hb
      go_wp2
      go_ret
      exact ⟨by (rw [HR.out]; try rfl), HB0.out.trans (HB.out.mono HB0.out.size)⟩

set_option maxHeartbeats 2000000 in
theorem accepts_any {v : Value} {xs : List Nod} (W : World) (hx : Nds W v xs) (hs : Shp xs) (s : ByteArray) (hsz : s.size ≤ 1048576) :
    Calls Tryd.prog 78 #[.agg #[v], .int .i64 0, .string s] W fun e w' => e = .returned (.bool ((gphD xs).acc 0 s.data.toList)) ∧ Below W.heap.size W w' := by
  have HB0 := Shh.mk (show Below W.heap.size W (W.alloc (.cells #[v] 29)) from (Below.refl _ _).alloc (Nat.le_refl _) _)
  have HBD := Shh.mk (Blk.made W 29 #[v])
  have HX := Shh.mk (hx.alloc (.cells #[v] 29))
  have HA := Shh.mk (after_any (W.alloc (.cells #[v] 29)) HX.out hs 0 hs.pos s hsz)
  have HLT := Shh.mk (fun (j : Nat) (h : (gphD xs).after 0 s.data.toList = some j) => hs.after_lt hs.pos h)
  obtain ⟨o, ho⟩ : ∃ o, (gphD xs).after 0 s.data.toList = o := ⟨_, rfl⟩
  rw [ho] at HA
  have hz : ((0 : Nat) : Int) = 0 := rfl
  rw [hz] at HA
  clear hs hz
  cases o with
  | none =>
    have HR := Shh.mk (show (gphD xs).acc 0 s.data.toList = false from by unfold Gph.acc; rw [ho])
    clear ho
    rw [optI_none] at HA
    go_enter Tryd.func78, Tryd.ntmps78
    go_wp2_with (go_at_call 76; refine (HA.out).mono ?_; rintro e w1 ⟨rfl, hb1⟩)
    go_ret
    exact ⟨by (rw [HR.out]; try rfl), HB0.out.trans (hb1.mono HB0.out.size)⟩
  | some j =>
    have hj := HLT.out j ho
    have HR := Shh.mk (show (gphD xs).acc 0 s.data.toList = (nodG xs j).f from by unfold Gph.acc; rw [ho]; rfl)
    have hne : ((j : Int) != -1) = true := bne_iff_ne.2 (by omega)
    clear ho
    rw [optI_some] at HA
    go_enter Tryd.func78, Tryd.ntmps78
    go_wp2_with (first
      | (go_at_call 76; refine (HA.out).mono ?_; rintro e w1 ⟨rfl, hb1⟩; have d1 : w1.cell? ⟨W.heap.size, 0, none⟩ = some v := (HBD.out.kept hb1 HBD.out.lt).cells 0; have HB1 := Shh.mk (HB0.out.trans (hb1.mono HB0.out.size)); have HFN := Shh.mk (isFinal_any w1 (HX.out.below hb1) j hj); clear hb1)
      | (go_at_call 110; refine (HFN.out).mono ?_; rintro e w2 ⟨rfl, hb2⟩))
    go_ret
    exact ⟨by (rw [HR.out]; try rfl), HB1.out.trans (hb2.mono HB1.out.size)⟩
end Go.Proofs.YtokfkofclpajfaaDoor
