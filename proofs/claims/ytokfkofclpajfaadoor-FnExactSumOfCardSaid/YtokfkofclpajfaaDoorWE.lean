/-
  How many strings lead from each node: the program's counts, in a map that a closure fills.
  How many strings lead from each node: the program's closure, and the map that it leaves.
  How many strings lead from each node: the program's countsFrom, whole.
-/
import Derived.Test.YtokfkofclpajfaaDoorVT
import Derived.Test.YtokfkofclpajfaaDoorVO
import Derived.Maps.OwnOps
import Derived.Maps.OwnSet
import Derived.Maps.RangeWalk
import Derived.Laws.EntriesVeiled
namespace Go.Proofs.YtokfkofclpajfaaDoor
open Go.RowKit Go.Maps

def keyI (j : Nat) : Lit := .int .i64 (j : Int)
theorem keyI_inj {a b : Nat} (h : keyI a = keyI b) : a = b := by
  unfold keyI at h
  simp only [Lit.int.injEq, true_and] at h
  omega
theorem keyOf_i64 {j : Nat} (hj : j ≤ 1000000) : keyOf Tryd.prog 2 (.int .i64 (j : Int)) = some (keyI j) := keyOf_int_mk Tryd.underlying2 (by simp [Lit.wf, IntKind.min, IntKind.max, IntKind.signed, IntKind.bits]; omega)
theorem lawI : Keyed Tryd.prog 2 := int_keyed Tryd.underlying2
theorem zeroI (w : World) : (zeroValue 2).run Tryd.prog w = .ok (.int .i64 0) w := by kernel_rfl
theorem make_mapI (x : Int) (w : World) : (Instr.makeMap 75 (some (.int .i64 x))).run Tryd.prog w = .ok (.map (some w.heap.size)) (w.alloc (.map #[] 0)) := by
  simp [Instr.makeMap, run_underlying Tryd.underlying75, asInt, asIntOf]
/-- The counts of some nodes. -/
structure CMap (c : Nat → Nat) (D : DataW Unit) (ks : List Nat) : Prop where
  isMap : IsMap D
  has : ∀ j : Nat, Maps.has D (keyI j) = decide (j ∈ ks)
  only : ∀ kl, Maps.has D kl = true → ∃ j : Nat, j ∈ ks ∧ kl = keyI j
  val : ∀ j ∈ ks, ∀ z, D.atKey (keyI j) z = .lit (.int .i64 (c j : Int))
theorem CMap.empty (c : Nat → Nat) : CMap c (.map []) [] := ⟨isMap_empty, fun j => by simp [Maps.has], fun kl h => by simp [Maps.has] at h, fun j hj => by simp at hj⟩
theorem CMap.put {c : Nat → Nat} {D : DataW Unit} {ks : List Nat} (h : CMap c D ks) (i : Nat) : CMap c (D.put (keyI i) (.lit (.int .i64 (c i : Int)))) (ks ++ [i]) := by
  refine ⟨h.isMap.put _ _, fun j => ?_, fun kl hk => ?_, fun j hj z => ?_⟩
  · by_cases e : j = i
    · subst e
      rw [has_put_same h.isMap (show WideAt.IsKeyLit (keyI j) from trivial)]
      simp
    · rw [has_put_other (fun h2 => e (keyI_inj h2)), h.has j]
      simp [e]
  · by_cases e : kl = keyI i
    · exact ⟨i, by simp, e⟩
    · rw [has_put_other e] at hk
      obtain ⟨j, hj, he⟩ := h.only kl hk
      exact ⟨j, by simp [hj], he⟩
  · by_cases e : j = i
    · subst e
      exact atKey_put_same h.isMap (show WideAt.IsKeyLit (keyI j) from trivial) _ _
    · rw [atKey_put_other (fun h2 => e (keyI_inj h2))]
      simp [e] at hj
      exact h.val j hj z
structure CV where
  cb : Nat
  db : Nat
  fb : Nat
  mb : Nat
def CV.ptrs (c : CV) : Array Value := #[.pointer (some ⟨c.cb, 0, none⟩), .pointer (some ⟨c.db, 0, none⟩), .pointer (some ⟨c.fb, 0, none⟩)]
/-- The variables of the closure, and the map. -/
structure CMem (W : World) (c : CV) (v : Value) (G : Gph) (n : Nat) (w : World) (ks : List Nat) (D : DataW Unit) : Prop where
  below : Below W.heap.size W w
  base : W.heap.size ≤ c.cb ∧ W.heap.size ≤ c.mb
  counts : Blk w c.cb 75 #[.map (some c.mb)]
  dawg : Blk w c.db 29 #[v]
  self : Blk w c.fb 133 #[.func (.func 109) #[] c.ptrs]
  map : w.ownsMap Tryd.prog 2 (plainElem (H := Unit) Tryd.prog 2) c.mb ks.length D
  cm : CMap G.cnt D ks
  nodup : ks.Nodup
  inr : ∀ j ∈ ks, j < n
  closed : ∀ j ∈ ks, ∀ i ∈ G.N j, i ∈ ks
theorem ownsMap_below {w w2 : World} {b n : Nat} {D : DataW Unit} (h : w.ownsMap Tryd.prog 2 (plainElem (H := Unit) Tryd.prog 2) b n D) (hb : Below w.heap.size w w2) : w2.ownsMap Tryd.prog 2 (plainElem (H := Unit) Tryd.prog 2) b n D :=
  h.kept (row := none) ⟨hb.os, hb.tape, hb.output, hb.size, fun k hk _ => hb.block k hk⟩ (by simp)
theorem map_not_blk {w : World} {b n g : Nat} {t : TypeId} {cs : Array Value} {D : DataW Unit} (h : w.ownsMap Tryd.prog 2 (plainElem (H := Unit) Tryd.prog 2) b n D) (hb : Blk w g t cs) : b ≠ g := by
  intro e
  subst e
  obtain ⟨es, clock, h1, -⟩ := h
  have := (show w.heap[b]? = _ from hb).symm.trans h1
  simp at this
section
variable {W w w2 : World} {c : CV} {v : Value} {G : Gph} {n : Nat} {ks : List Nat} {D : DataW Unit}
theorem CMem.kept (h : CMem W c v G n w ks D) (hb : Below w.heap.size w w2) : CMem W c v G n w2 ks D :=
  ⟨h.below.trans (hb.mono h.below.size), h.base, h.counts.kept hb h.counts.lt, h.dawg.kept hb h.dawg.lt, h.self.kept hb h.self.lt, ownsMap_below h.map hb, h.cm, h.nodup, h.inr, h.closed⟩
theorem CMem.put (h : CMem W c v G n w ks D) {i : Nat} (hi : i < n) (hn : i ∉ ks) (hc : ∀ j ∈ G.N i, j ∈ ks) (hm : w2.ownsMap Tryd.prog 2 (plainElem (H := Unit) Tryd.prog 2) c.mb (ks.length + 1) (D.put (keyI i) (.lit (.int .i64 (G.cnt i : Int))))) (hg : w.grownBy w2 (some c.mb)) :
    CMem W c v G n w2 (ks ++ [i]) (D.put (keyI i) (.lit (.int .i64 (G.cnt i : Int)))) := by
  refine ⟨h.below.grown hg h.below.size (fun k hk => by have e : c.mb = k := by simpa using hk
                                                        subst e
                                                        exact h.base.2), h.base, ?_, ?_, ?_, by simpa using hm, h.cm.put i, ?_, ?_, ?_⟩
  · exact (hg.block _ h.counts.lt (fun e => map_not_blk h.map h.counts (by simpa using e.symm))).trans h.counts
  · exact (hg.block _ h.dawg.lt (fun e => map_not_blk h.map h.dawg (by simpa using e.symm))).trans h.dawg
  · exact (hg.block _ h.self.lt (fun e => map_not_blk h.map h.self (by simpa using e.symm))).trans h.self
  · rw [List.nodup_append]
    exact ⟨h.nodup, by simp, fun a ha b hb => by simp at hb; subst hb; exact fun e => hn (e ▸ ha)⟩
  · intro j hj
    simp at hj
    rcases hj with hj | rfl
    · exact h.inr j hj
    · exact hi
  · intro j hj q hq
    simp at hj
    rcases hj with hj | rfl
    · simp [h.closed j hj q hq]
    · simp [hc q hq]
end
theorem sumOf_snoc (c : Nat → Nat) (l : List Nat) (j : Nat) : sumOf c (l ++ [j]) = sumOf c l + c j := by unfold sumOf; rw [List.foldl_append]; rfl
theorem sumOf_take_le (c : Nat → Nat) : ∀ (l : List Nat) (k : Nat), sumOf c (l.take k) ≤ sumOf c l
  | [], k => by simp
  | a :: l, 0 => by simp [sumOf]
  | a :: l, k + 1 => by
    rw [List.take_succ_cons, sumOf_cons, sumOf_cons]
    have := sumOf_take_le c l k
    omega
/-- Whether a node is final: the program's answer. -/
theorem isFinal_any {v : Value} {xs : List Nod} (W : World) (hx : Nds W v xs) (i : Nat) (hi : i < xs.length) :
    Calls Tryd.prog 110 #[.agg #[v], .int .i64 i] W fun e w' => e = .returned (.bool (nodG xs i).f) ∧ Below W.heap.size W w' := by
  have hxl := hx.len
  obtain ⟨na, nc, rfl, hn1, hn2, hnn⟩ := hx.alloc (.cells #[v] 29)
  obtain ⟨bn, on, rfl, hbn, hcn⟩ := hnn (by omega)
  obtain ⟨f0, -⟩ := hcn i hi
  obtain ⟨F, hF⟩ : ∃ F, (nodG xs i).f = F := ⟨_, rfl⟩
  rw [hF] at f0 ⊢
  clear hcn hnn hF hx
  go_enter Tryd.func110, Tryd.ntmps110
  go_wp2
  go_ret
  exact ⟨rfl, (Below.refl _ _).alloc (Nat.le_refl _) _⟩
/-- What is asked of the closure. -/
def CountDoes (W : World) (c : CV) (v : Value) (xs : List Nod) (rk : Nat → Nat) (f : Nat) : Prop := ∀ (i : Nat) (w : World) (ks : List Nat) (D : DataW Unit), i < xs.length → rk i < f → CMem W c v (gphD xs) xs.length w ks D →
  Calls Tryd.prog 109 #[.int .i64 i, .pointer (some ⟨c.cb, 0, none⟩), .pointer (some ⟨c.db, 0, none⟩), .pointer (some ⟨c.fb, 0, none⟩)] w fun e w' => e = .returned (.int .i64 ((gphD xs).cnt i : Int)) ∧
    ∃ ks' D', CMem W c v (gphD xs) xs.length w' ks' D' ∧ i ∈ ks' ∧ (∀ j ∈ ks, j ∈ ks') ∧ (∀ j ∈ ks', j ∈ ks ∨ rk j ≤ rk i)
end Go.Proofs.YtokfkofclpajfaaDoor

namespace Go.Proofs.YtokfkofclpajfaaDoor
open Go.RowKit Go.Maps

theorem wf_cnt {n : Nat} (h : n ≤ 6502111422497947648) : (Lit.int .i64 (n : Int)).wf = true := by
  simp [Lit.wf, IntKind.min, IntKind.max, IntKind.signed, IntKind.bits]
  omega
theorem lit_int_inj {H : Type} {a b : Int} (h : (DataW.lit (.int .i64 a) : DataW H) = .lit (.int .i64 b)) : a = b := by
  injection h with h
  injection h

set_option maxRecDepth 100000 in
set_option maxHeartbeats 4000000 in
theorem count_step {W : World} {c : CV} {v : Value} {xs : List Nod} {rk : Nat → Nat} (hx : Nds W v xs) (hs : Shp xs) (hok : ∀ i, i < xs.length → (gphD xs).okH 14 i = true) (hrk : ∀ i, i < xs.length → ∀ j ∈ (gphD xs).N i, rk j < rk i) (f : Nat) (hrec : CountDoes W c v xs rk f) : CountDoes W c v xs rk (f + 1) := by
  intro i w ks D hi hf hm
  have HREC := Shh.mk hrec
  have HRK := Shh.mk (hrk i hi)
  have HX := Shh.mk hx
  have hn3 := hs.len
  have HM := Shh.mk hm
  have c0 : w.cell? ⟨c.cb, 0, none⟩ = some (.map (some c.mb)) := hm.counts.cells 0
  have hkey := keyOf_i64 (j := i) (by omega)
  have hown := hm.map
  have hkl : ks.length ≤ xs.length := nodup_len _ _ hm.nodup hm.inr
  have hcn := hs.cnt_small hi
  have HCE := Shh.mk (Gph.cnt_eq (hok i hi))
  obtain ⟨C, hC⟩ : ∃ C, (gphD xs).cnt i = C := ⟨_, rfl⟩
  have HC := Shh.mk hC
  rw [hC] at hcn HCE
  by_cases hik : i ∈ ks
  · have HK := Shh.mk (show Maps.has D (keyI i) = true by rw [hm.cm.has, decide_eq_true hik])
    have HV := Shh.mk (fun z => hm.cm.val i hik z)
    clear hx hs hok hrk hrec hm hC
    go_enter Tryd.func109, Tryd.ntmps109
    go_wp2_with (at_lookup; refine wpList_lookup_own_ok_int _ rfl _ _ 75 rfl 2 2 .i64 lawI Tryd.underlying75 Tryd.underlying2 (zeroI _) c.mb ks.length D rfl hown _ _ rfl hkey ?_; intro cc hat _; rw [HK.out]; have hcc : cc = (C : Int) := (by have h9 := hat.symm.trans (HV.out _); rw [HC.out] at h9; exact lit_int_inj h9); subst hcc; clear hat)
    go_ret
    exact ⟨by rw [HC.out]; rfl, ks, D, HM.out, hik, fun _ h => h, fun _ h => .inl h⟩
  · have HK := Shh.mk (show Maps.has D (keyI i) = false by rw [hm.cm.has, decide_eq_false hik])
    have HFN := Shh.mk (isFinal_any w (hx.below hm.below) i hi)
    have d0 : w.cell? ⟨c.db, 0, none⟩ = some v := hm.dawg.cells 0
    have HNK := Shh.mk (hs.N hi)
    have HSH := Shh.mk (hs.node i hi)
    have HSM := Shh.mk (fun j (hj : j < xs.length) => hs.cnt_small hj)
    have hF : (gphD xs).F i = (nodG xs i).f := rfl
    rw [hF] at HCE
    obtain ⟨F, hFF⟩ : ∃ F, (nodG xs i).f = F := ⟨_, rfl⟩
    rw [hFF] at HCE HFN
    obtain ⟨na, nc, rfl, hn1, hn2, hnn⟩ := hx
    obtain ⟨bn, on, rfl, hbn, hcnn⟩ := hnn (by omega)
    obtain ⟨-, -, u, n2W, hu⟩ := hcnn i hi
    obtain ⟨ns, hns⟩ : ∃ ns, (nodG xs i).ns = ns := ⟨_, rfl⟩
    have HNS := Shh.mk hns
    rw [hns] at hu HNK
    have hul := hu.len
    obtain ⟨ua, uc, rfl, hu1, hu2, hu3, hu4⟩ := hu
    have HU3 := Shh.mk hu3
    clear hs hok hrk hrec hm hC hF hFF hnn hcnn hns hu3 hu4
    cases F
    case' false => obtain ⟨F0, hF0⟩ : ∃ F0 : Nat, F0 = 0 := ⟨_, rfl⟩
    case' true => obtain ⟨F0, hF0⟩ : ∃ F0 : Nat, F0 = 1 := ⟨_, rfl⟩
    all_goals
      have HCE2 := Shh.mk (show C = F0 + sumOf (gphD xs).cnt ((gphD xs).N i) by rw [HCE.out, hF0]; simp)
      have HF0 := Shh.mk hF0
      clear HCE hF0
      go_enter Tryd.func109, Tryd.ntmps109
      go_wp2_with (first
        | (at_lookup; refine wpList_lookup_own_ok_int _ rfl _ _ 75 rfl 2 2 .i64 lawI Tryd.underlying75 Tryd.underlying2 (zeroI _) c.mb ks.length D rfl hown _ _ rfl hkey ?_; intro cc hat _; rw [HK.out]; have hcc : cc = 0 := (by have h9 := hat.symm.trans (atKey_of_not_has HK.out _); exact lit_int_inj h9); subst hcc; clear hat)
        | (go_at_call 110; refine (HFN.out).mono ?_; rintro e w2 ⟨rfl, hb2⟩; have HM2 := Shh.mk (HM.out.kept hb2); clear hb2 c0 d0; have d0 : w2.cell? ⟨c.db, 0, none⟩ = some (.slice (some ⟨bn, on, none⟩) xs.length nc) := HM2.out.dawg.cells 0; have n2 := (HM2.out.below.cell (p := ⟨bn, on + i * 3 + 2, none⟩) hbn).trans n2W))
      go_loopw [6, 9, 28] (fun t _ z wr => ∃ (q : Nat) (ks2 : List Nat) (D2 : DataW Unit), q ≤ ns.length ∧ z = .int .i64 q ∧ t = .int .i64 ((F0 + sumOf (gphD xs).cnt (((gphD xs).N i).take q) : Nat) : Int) ∧ Shh (CMem W c (.slice (some ⟨bn, on, none⟩) xs.length nc) (gphD xs) xs.length wr ks2 D2) ∧ Shh (∀ j ∈ ks, j ∈ ks2) ∧ Shh (∀ j ∈ ks2, j ∈ ks ∨ rk j < rk i) ∧ Shh (∀ j ∈ ((gphD xs).N i).take q, j ∈ ks2)) (fun _ _ z _ => ns.length - (intOf z).toNat)
      case atStart => exact ⟨0, ks, D, Nat.zero_le _, rfl, by rw [HF0.out, List.take_zero]; rfl, HM2, ⟨fun _ h => h⟩, ⟨fun _ h => .inl h⟩, ⟨fun j hj => by simp at hj⟩⟩
      case round =>
        obtain ⟨q, ks2, D2, hql, rfl, rfl, hm2, hsub, hnew, hdone⟩ := hrel
        clear HM2 d0 n2
        have HM3 := hm2
        have hown2 := hm2.out.map
        have c2 : wr.cell? ⟨c.cb, 0, none⟩ = some (.map (some c.mb)) := hm2.out.counts.cells 0
        have s2 : wr.cell? ⟨c.fb, 0, none⟩ = some (.func (.func 109) #[] #[.pointer (some ⟨c.cb, 0, none⟩), .pointer (some ⟨c.db, 0, none⟩), .pointer (some ⟨c.fb, 0, none⟩)]) := hm2.out.self.cells 0
        clear hm2
        have hle := sumOf_take_le (gphD xs).cnt ((gphD xs).N i) q
        obtain ⟨T, hT⟩ : ∃ T, F0 + sumOf (gphD xs).cnt (((gphD xs).N i).take q) = T := ⟨_, rfl⟩
        have HT := Shh.mk hT
        have hTC : T ≤ C := by have := HCE2.out; omega
        rw [hT]
        by_cases hq : q < ns.length
        · obtain ⟨bu, ou, rfl, hbu, hcu⟩ := HU3.out (by omega)
          have cu := (HM3.out.below.cell (p := ⟨bu, ou + q, none⟩) hbu).trans (hcu q hq)
          have hzz : 0 ≤ ns.getD q 0 ∧ ns.getD q 0 < xs.length := by
            rw [List.getD_eq_getElem?_getD, List.getElem?_eq_getElem hq]
            exact HSH.out.next _ (by rw [HNS.out]; exact List.getElem_mem hq)
          obtain ⟨z, hz⟩ : ∃ z, ns.getD q 0 = z := ⟨_, rfl⟩
          have htk : ((gphD xs).N i).take (q + 1) = ((gphD xs).N i).take q ++ [z.toNat] := by
            rw [HNK.out, List.take_add_one, List.getElem?_map, List.getElem?_eq_getElem hq]
            rw [List.getD_eq_getElem?_getD, List.getElem?_eq_getElem hq] at hz
            simp at hz
            rw [← hz]
            rfl
          rw [hz] at cu hzz
          obtain ⟨j, rfl⟩ : ∃ j : Nat, z = (j : Int) := ⟨z.toNat, by omega⟩
          rw [Int.toNat_natCast] at htk
          have hjn : j < xs.length := by omega
          have hjN : j ∈ (gphD xs).N i := List.mem_of_mem_take (i := q + 1) (by rw [htk]; simp)
          have hjr := HRK.out j hjN
          have HCALL := Shh.mk (HREC.out j wr ks2 D2 hjn (by omega) HM3.out)
          have hle2 := sumOf_take_le (gphD xs).cnt ((gphD xs).N i) (q + 1)
          rw [htk, sumOf_snoc] at hle2
          obtain ⟨Cj, hCj⟩ : ∃ x, (gphD xs).cnt j = x := ⟨_, rfl⟩
          have HTN := Shh.mk (show F0 + sumOf (gphD xs).cnt (((gphD xs).N i).take (q + 1)) = T + Cj by rw [htk, sumOf_snoc, hCj]; omega)
          rw [hCj] at HCALL hle2
          have hsum : T + Cj ≤ 6502111422497947648 := by have := HCE2.out; omega
          have HTK := Shh.mk htk
          clear hT hle hle2 htk hz hcu hCj hTC
          go_wp2_with (go_at_call 109; refine (HCALL.out).mono ?_; rintro e w4 ⟨rfl, ks4, D4, hm4, hj4, hs4, hn4⟩; have HM4 := Shh.mk hm4; clear hm4)
          go_roundw
          case rel =>
            refine ⟨q + 1, ks4, D4, by omega, by go_num, by rw [HTN.out]; go_num, HM4, ⟨fun p hp => hs4 p (hsub.out p hp)⟩, ⟨fun p hp => ?_⟩, ⟨fun p hp => ?_⟩⟩
            · rcases hn4 p hp with h | h
              · exact hnew.out p h
              · exact .inr (by omega)
            · rw [HTK.out] at hp
              rcases List.mem_append.1 hp with h | h
              · exact hs4 p (hdone.out p h)
              · simp at h; subst h; exact hj4
          case measure => simp [intOf]; omega
        · obtain rfl : q = ns.length := by omega
          have hTCe : T = C := by
            rw [← hT, HCE2.out, List.take_of_length_le (by rw [HNK.out]; simp)]
          have hall : ∀ j ∈ (gphD xs).N i, j ∈ ks2 := fun j hj => hdone.out j (by rw [List.take_of_length_le (by rw [HNK.out]; simp)]; exact hj)
          have hni : i ∉ ks2 := fun h => by
            rcases hnew.out i h with h2 | h2
            · exact hik h2
            · omega
          have HPUT := Shh.mk (fun w5 hm5 hg5 => HM3.out.put (w2 := w5) hi hni hall hm5 hg5)
          rw [HC.out] at HPUT
          have hkl2 : ks2.length ≤ xs.length := nodup_len _ _ HM3.out.nodup HM3.out.inr
          subst hTCe
          have hwfT := wf_cnt hcn
          clear hT hle hTC hall hni
          go_wp2_with (at_mapUpdate; refine wpList_mapUpdate_own _ rfl _ _ _ 75 rfl 2 2 lawI Tryd.underlying75 (plainElem (H := Unit) Tryd.prog 2) c.mb ks2.length D2 rfl hown2 (by unfold maxLen; omega) _ _ _ rfl rfl hkey _ [] (plainElem_int Tryd.underlying2 hwfT) ?_; intro w5 hm5 hg5; have HM5 := Shh.mk (HPUT.out w5 hm5 hg5); clear hm5 hg5)
          go_ret
          exact ⟨by rw [HC.out]; rfl, _, _, HM5.out, by simp, fun p hp => by simp [hsub.out p hp], fun p hp => by
            simp at hp
            rcases hp with hp | rfl
            · exact (hnew.out p hp).imp id fun h => Nat.le_of_lt h
            · exact .inr (Nat.le_refl _)⟩
theorem count_does {W : World} {c : CV} {v : Value} {xs : List Nod} {rk : Nat → Nat} (hx : Nds W v xs) (hs : Shp xs) (hok : ∀ i, i < xs.length → (gphD xs).okH 14 i = true) (hrk : ∀ i, i < xs.length → ∀ j ∈ (gphD xs).N i, rk j < rk i) : ∀ f, CountDoes W c v xs rk f
  | 0 => fun _ _ _ _ _ h _ => absurd h (by omega)
  | f + 1 => count_step hx hs hok hrk f (count_does hx hs hok hrk f)
end Go.Proofs.YtokfkofclpajfaaDoor

namespace Go.Proofs.YtokfkofclpajfaaDoor
open Go.RowKit Go.Maps

theorem counts_start (W : World) (v : Value) (G : Gph) (n : Nat) : CMem W ⟨W.heap.size + 1 + 1, W.heap.size, W.heap.size + 1 + 1 + 1, W.heap.size + 1⟩ v G n
    ((((W.alloc (.cells #[v] 29)).alloc (.map #[] 0)).alloc (.cells #[.map (some (W.heap.size + 1))] 75)).alloc (.cells #[.func (.func 109) #[] #[.pointer (some ⟨W.heap.size + 1 + 1, 0, none⟩), .pointer (some ⟨W.heap.size, 0, none⟩), .pointer (some ⟨W.heap.size + 1 + 1 + 1, 0, none⟩)]] 133)) [] (.map []) := by
  have h1 := Blk.made ((W.alloc (.cells #[v] 29)).alloc (.map #[] 0)) 75 #[.map (some (W.heap.size + 1))]
  have h2 := Blk.made (((W.alloc (.cells #[v] 29)).alloc (.map #[] 0)).alloc (.cells #[.map (some (W.heap.size + 1))] 75)) 133 #[.func (.func 109) #[] #[.pointer (some ⟨W.heap.size + 1 + 1, 0, none⟩), .pointer (some ⟨W.heap.size, 0, none⟩), .pointer (some ⟨W.heap.size + 1 + 1 + 1, 0, none⟩)]]
  have h3 := World.ownsMap_made (W.alloc (.cells #[v] 29)) Tryd.prog 2 (plainElem (H := Unit) Tryd.prog 2)
  simp only [World.size_alloc] at h1 h2 h3
  refine ⟨((((Below.refl _ _).alloc (Nat.le_refl _) _).alloc (by simp) _).alloc (by simp; omega) _).alloc (by simp; omega) _, ⟨by show W.heap.size ≤ W.heap.size + 1 + 1; omega, by show W.heap.size ≤ W.heap.size + 1; omega⟩, h1.alloc _, (((Blk.made W 29 #[v]).alloc _).alloc _).alloc _, h2, (h3.alloc _).alloc _, CMap.empty _, List.nodup_nil, by simp, by simp⟩

set_option maxRecDepth 100000 in
set_option maxHeartbeats 4000000 in
theorem countsFrom_any {v : Value} {xs : List Nod} {rk : Nat → Nat} (W : World) (hx : Nds W v xs) (hs : Shp xs) (hok : ∀ i, i < xs.length → (gphD xs).okH 14 i = true) (hrk : ∀ i, i < xs.length → ∀ j ∈ (gphD xs).N i, rk j < rk i) (first : Nat) (hf : first < xs.length) :
    Calls Tryd.prog 70 #[.agg #[v], .int .i64 first] W fun e w' => ∃ (b : Nat) (ks : List Nat) (D : DataW Unit), e = .returned (.map (some b)) ∧ W.heap.size ≤ b ∧ w'.ownsMap Tryd.prog 2 (plainElem (H := Unit) Tryd.prog 2) b ks.length D ∧ CMap (gphD xs).cnt D ks ∧ first ∈ ks ∧ ks.Nodup ∧ (∀ j ∈ ks, j < xs.length) ∧ (∀ j ∈ ks, ∀ i ∈ (gphD xs).N j, i ∈ ks) ∧ Below W.heap.size W w' := by
  have hmk := make_mapI
  have HC := Shh.mk (count_does (c := ⟨W.heap.size + 1 + 1, W.heap.size, W.heap.size + 1 + 1 + 1, W.heap.size + 1⟩) hx hs hok hrk (rk first + 1) first _ [] (.map []) hf (by omega) (counts_start W v (gphD xs) xs.length))
  obtain ⟨na, nc, rfl, hn1, hn2, hnn⟩ := hx
  clear hs hok hrk hnn
  go_enter Tryd.func70, Tryd.ntmps70
  go_wp2_with fail
  all_goals
    with_reducible refine (HC.out).mono ?_
    rintro e w2 ⟨rfl, ks, D, hm, hk, -, -⟩
    have HM := Shh.mk hm
    have c0 : w2.cell? ⟨W.heap.size + 1 + 1, 0, none⟩ = some (.map (some (W.heap.size + 1))) := hm.counts.cells 0
    clear hm
    go_wp2
    go_ret
    exact ⟨_, ks, D, rfl, by omega, HM.out.map, HM.out.cm, hk, HM.out.nodup, HM.out.inr, HM.out.closed, HM.out.below⟩
end Go.Proofs.YtokfkofclpajfaaDoor
