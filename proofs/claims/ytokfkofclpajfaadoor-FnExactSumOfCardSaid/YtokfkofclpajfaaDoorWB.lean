/-
  Nodes in the order in which they end: the program's walk along all paths.
  An order in which each node stands behind those to which it leads: the program's answer. The longest paths: the program's lengthsUpward.
-/
import Derived.Test.YtokfkofclpajfaaDoorVT
import Derived.Test.YtokfkofclpajfaaDoorVO
import Derived.Test.YtokfkofclpajfaaDoorVF
import Derived.Deep.OwnRows
import Derived.BigRegion
namespace Go.Proofs.YtokfkofclpajfaaDoor
open Go.RowKit

theorem meetO_mem {N : Nat → List Nat} {f i : Nat} {st st' : Nat × List Nat} (h : meetO N f st i = some st') : i ∈ st'.2 := by
  cases f with
  | zero => cases h
  | succ f =>
    unfold meetO at h
    cases hm : meetL (meetO N f) (N i) (st.1 + 1, st.2) with
    | none => rw [hm] at h; cases h
    | some x =>
      rw [hm] at h
      simp at h
      rw [← h]
      simp
def endsN (n : Nat) (o : List Nat) : List Value := (List.range n).map fun i => .bool (decide (i ∈ o))
theorem endsN_len (n : Nat) (o : List Nat) : (endsN n o).length = n := by simp [endsN]
theorem endsN_at {n i : Nat} (o : List Nat) (h : i < n) : (endsN n o)[i]? = some (.bool (decide (i ∈ o))) := by simp [endsN, h]
theorem endsN_set {n k : Nat} {o : List Nat} : (endsN n o).set k (.bool true) = endsN n (o ++ [k]) := by
  refine List.ext_getElem? fun p => ?_
  rw [List.getElem?_set]
  by_cases hp : p < n
  · rw [endsN_at _ hp, endsN_at _ hp]
    by_cases e : k = p
    · subst e
      rw [if_pos rfl, if_pos (by rw [endsN_len]; exact hp)]
      simp
    · rw [if_neg e]
      have : (p ∈ o ++ [k]) ↔ p ∈ o := by simp; intro h; exact absurd h.symm e
      simp [this]
  · have h1 : (endsN n o)[p]? = none := List.getElem?_eq_none (by rw [endsN_len]; omega)
    have h2 : (endsN n (o ++ [k]))[p]? = none := List.getElem?_eq_none (by rw [endsN_len]; omega)
    rw [h1, h2]
    split
    · rw [if_neg (by rw [endsN_len]; omega)]
    · rfl
/-- The walk's own memory: how many nodes are met, which have ended, in which order. -/
structure WMem (W : World) (gw : Nat) (vold : Value) (n : Nat) (w : World) (m : Nat) (o : List Nat) (ge ce : Nat) (vo : Value) : Prop where
  below : Below W.heap.size W w
  base : W.heap.size ≤ gw
  blk : Blk w gw 131 #[vold, .int .i64 m, .slice (some ⟨ge, 0, none⟩) n ce, vo]
  ends : w.ownsRow W.heap.size 4 1 (.slice (some ⟨ge, 0, none⟩) n ce) n (endsN n o)
  row : RowI W.heap.size w vo (o.map Int.ofNat)
def WkSt (W : World) (gw : Nat) (vold : Value) (n : Nat) (w : World) (m : Nat) (o : List Nat) : Prop := ∃ ge ce vo, WMem W gw vold n w m o ge ce vo
section
variable {W w w2 : World} {gw n m ge ce : Nat} {vold vo : Value} {o : List Nat}
theorem WMem.met (h : WMem W gw vold n w m o ge ce vo) (m2 : Nat) : WMem W gw vold n (w.setCell ⟨gw, 1, none⟩ (.int .i64 m2)) m2 o ge ce vo := by
  have hA : Apart (fun b => b = gw) w (w.setCell ⟨gw, 1, none⟩ (.int .i64 m2)) := (Apart.refl (fun b => b = gw) w).setCell (p := ⟨gw, 1, none⟩) (fun _ => rfl) _
  exact ⟨h.below.setCell (p := ⟨gw, 1, none⟩) h.base _, h.base, h.blk.stored 1 _, row_apart h.ends hA (fun k hk e => row_blk h.blk (by decide) h.ends k hk e), h.row.far hA (fun k hk e => row_blk h.blk (by decide) h.row k hk e)⟩
/-- A node ends: the mark, and the order that is one longer. -/
theorem WMem.done {k g c : Nat} (h : WMem W gw vold n w m o ge ce vo) (hk : Apart (fun b => vo.ownBlock = some b) (w.setCell ⟨ge, k, none⟩ (.bool true)) w2) (hr : RowI W.heap.size w2 (.slice (some ⟨g, 0, none⟩) (o.length + 1) c) (o.map Int.ofNat ++ [(k : Int)])) :
    WMem W gw vold n (w2.setCell ⟨gw, 3, none⟩ (.slice (some ⟨g, 0, none⟩) (o.length + 1) c)) m (o ++ [k]) ge ce (.slice (some ⟨g, 0, none⟩) (o.length + 1) c) := by
  have hge := World.ownsRow.lt h.ends ge rfl
  have hA0 : Apart (fun b => b = ge) w (w.setCell ⟨ge, k, none⟩ (.bool true)) := (Apart.refl (fun b => b = ge) w).setCell (p := ⟨ge, k, none⟩) (fun _ => rfl) _
  have hb1 : Below W.heap.size W (w.setCell ⟨ge, k, none⟩ (.bool true)) := h.below.setCell (p := ⟨ge, k, none⟩) hge.1 _
  have hblk1 := h.blk.apart hA0 (fun e => row_blk h.blk (by decide) h.ends ge rfl e.symm)
  have hst := (World.ownsRow.stored h.ends k (.bool true)).1
  rw [endsN_set] at hst
  have hrow1 := h.row.far hA0 (fun j hj e => by subst e; exact row_row h.row (by decide) h.ends j hj rfl)
  have hA2 : Apart (fun b => b = gw) w2 (w2.setCell ⟨gw, 3, none⟩ (.slice (some ⟨g, 0, none⟩) (o.length + 1) c)) := (Apart.refl (fun b => b = gw) w2).setCell (p := ⟨gw, 3, none⟩) (fun _ => rfl) _
  have hblk2 := hblk1.apart hk (fun e => row_blk hblk1 (by decide) hrow1 gw e rfl)
  have hends2 := row_apart hst hk (fun j hj e => row_row hrow1 (by decide) hst j e hj)
  have hb2 : Below W.heap.size W w2 := hb1.trans (hk.below (fun i hi e => by have := (hrow1.lt e).1; omega) hb1.size)
  refine ⟨hb2.setCell (p := ⟨gw, 3, none⟩) h.base _, h.base, hblk2.stored 3 _, row_apart hends2 hA2 (fun j hj e => row_blk hblk2 (by decide) hends2 j hj e), ?_⟩
  have hr2 := hr.far hA2 (fun j hj e => row_blk hblk2 (by decide) hr j hj e)
  rw [List.map_append]
  exact hr2
theorem WMem.endAt (h : WMem W gw vold n w m o ge ce vo) {k : Nat} (hk : k < n) : w.cell? ⟨ge, k, none⟩ = some (.bool (decide (k ∈ o))) ∧ w.frozen? ⟨ge, k, none⟩ = false := by
  refine ⟨?_, World.ownsRow.frozenAt h.ends k⟩
  rw [World.ownsRow.cellAt h.ends k (by omega), endsN_at o hk]
theorem WMem.orderForm (h : WMem W gw vold n w m o ge ce vo) : ∃ a c, vo = .slice a o.length c := by
  obtain ⟨a, c, e, -⟩ := own_form h.row
  rw [List.length_map] at e
  exact ⟨a, c, e⟩
end
/-- What is asked of meet. -/
def MeetDoes (W : World) (gw : Nat) (vold : Value) (xs : List Nod) (f : Nat) : Prop := ∀ (m : Nat) (o : List Nat) (w : World), m < xs.length → xs.length ≤ m + f → (∀ v ∈ o, v < m) → Topo (gphD xs).N o → o.Nodup → WkSt W gw vold xs.length w m o →
  Calls Tryd.prog 108 #[.pointer (some ⟨gw, 0, none⟩), .int .i64 m] w fun e w' => (∃ v, e = .returned v) ∧
    ((∃ m' o', meetO (gphD xs).N f (m, o) m = some (m', o') ∧ WkSt W gw vold xs.length w' m' o') ∨ (meetO (gphD xs).N f (m, o) m = none ∧ ∃ m' o', Stuck xs.length m o o' ∧ WkSt W gw vold xs.length w' m' o'))

set_option maxRecDepth 100000 in
set_option maxHeartbeats 8000000 in
theorem meet_step {W : World} {gw : Nat} {vold : Value} {xs : List Nod} (hx : Nds W vold xs) (hs : Shp xs) (f : Nat) (hrec : MeetDoes W gw vold xs f) : MeetDoes W gw vold xs (f + 1) := by
  intro m o w hm hf hb ht hd hst
  have HREC := Shh.mk hrec
  have HS := Shh.mk hs
  have HX := Shh.mk hx
  have HT := Shh.mk ht
  have HB := Shh.mk hb
  have HND := Shh.mk hd
  have HMID := fun k mk ok h => Shh.mk (met_mid (n := xs.length) (f := f) (m := m) (k := k) (o := o) (mk := mk) (ok := ok) hs.in hm h hb ht hd)
  have hol : o.length ≤ m := nodup_len m o hd hb
  have hn3 := hs.len
  obtain ⟨ge, ce, vo, hw⟩ := hst
  obtain ⟨oa, oc, rfl⟩ := hw.orderForm
  have HW := Shh.mk hw
  have c1 := hw.blk.cells 1
  have m1 := hw.blk.marks 1
  have HW1 := Shh.mk (hw.met (m + 1))
  have HNK := Shh.mk (hs.N hm)
  have HSH := Shh.mk (hs.node m hm)
  obtain ⟨na, nc, rfl, hn1, hn2, hnn⟩ := hx
  obtain ⟨bn, on, rfl, hbn, hcn⟩ := hnn (by omega)
  obtain ⟨-, -, u, n2, hu⟩ := hcn m hm
  obtain ⟨ns, hns⟩ : ∃ ns, (nodG xs m).ns = ns := ⟨_, rfl⟩
  have HNS := Shh.mk hns
  rw [hns] at hu HNK
  have hul := hu.len
  obtain ⟨ua, uc, rfl, hu1, hu2, hu3, hu4⟩ := hu
  have HU3 := Shh.mk hu3
  have n2w := (hw.below.cell (p := ⟨bn, on + m * 3 + 2, none⟩) hbn).trans n2
  have d0 := HW1.out.blk.cells 0
  have n2x : (w.setCell ⟨gw, 1, none⟩ (.int .i64 ((m + 1 : Nat) : Int))).cell? ⟨bn, on + m * 3 + 2, none⟩ = some (.slice ua ns.length uc) := (HW1.out.below.cell (p := ⟨bn, on + m * 3 + 2, none⟩) hbn).trans n2
  have hmi : ((m + 1 : Nat) : Int) = (m : Int) + 1 := by omega
  rw [hmi] at d0 n2x HW1
  clear hw hs hb ht hd hrec hcn hnn hns hu3 hu4
  go_enter Tryd.func108, Tryd.ntmps108
  go_wp2
  go_loopw [5, 22] (fun _ z wr => ∃ (k mk : Nat) (ok : List Nat), k ≤ ns.length ∧ z = .int .i64 k ∧ Shh (meetL (meetO (gphD xs).N f) (((gphD xs).N m).take k) (m + 1, o) = some (mk, ok)) ∧ Shh (WkSt W gw (.slice (some ⟨bn, on, none⟩) xs.length nc) xs.length wr mk ok)) (fun _ z _ => ns.length - (intOf z).toNat)
  case atStart => exact ⟨0, m + 1, o, Nat.zero_le _, rfl, ⟨by rw [List.take_zero]; rfl⟩, ⟨⟨_, _, _, HW1.out⟩⟩⟩
  case round =>
    obtain ⟨k, mk, ok, hkl, rfl, heq, hst⟩ := hrel
    have HEQ := heq
    have HMET := HMID k mk ok heq.out
    have HST := hst
    obtain ⟨ge2, ce2, vo2, hw2⟩ := hst.out
    obtain ⟨oa2, oc2, rfl⟩ := hw2.orderForm
    have HW2 := Shh.mk hw2
    have hmkn := HMET.out.room
    have hmku := HMET.out.ended.up
    clear heq hst HW1 HW d0 n2x n2w c1 m1
    have e1 := hw2.blk.cells 1
    have e2 := hw2.blk.cells 2
    by_cases hk : k < ns.length
    · obtain ⟨bu, ou, rfl, hbu, hcu⟩ := HU3.out (by omega)
      have cu := (hw2.below.cell (p := ⟨bu, ou + k, none⟩) hbu).trans (hcu k hk)
      have hzz : 0 ≤ ns.getD k 0 ∧ ns.getD k 0 < xs.length := by
        rw [List.getD_eq_getElem?_getD, List.getElem?_eq_getElem hk]
        exact HSH.out.next _ (by rw [HNS.out]; exact List.getElem_mem hk)
      obtain ⟨z, hz⟩ : ∃ z, ns.getD k 0 = z := ⟨_, rfl⟩
      have HTK := Shh.mk (show ((gphD xs).N m).take (k + 1) = ((gphD xs).N m).take k ++ [z.toNat] from by
        rw [HNK.out, List.take_add_one, List.getElem?_map, List.getElem?_eq_getElem hk]
        rw [List.getD_eq_getElem?_getD, List.getElem?_eq_getElem hk] at hz
        simp at hz
        rw [← hz]
        rfl)
      rw [hz] at cu hzz
      obtain ⟨j, rfl⟩ : ∃ j : Nat, z = (j : Int) := ⟨z.toNat, by omega⟩
      rw [Int.toNat_natCast] at HTK
      have hjn : j < xs.length := by omega
      have HSN := Shh.mk (show meetL (meetO (gphD xs).N f) (((gphD xs).N m).take (k + 1)) (m + 1, o) = meetS (meetO (gphD xs).N f) j (mk, ok) from by rw [HTK.out, meetL_snoc, HEQ.out]; rfl)
      have HSTOP := Shh.mk (fun (h : meetS (meetO (gphD xs).N f) j (mk, ok) = none) => show meetO (gphD xs).N (f + 1) (m, o) m = none from by
        have h2 := meetL_stop (((gphD xs).N m).drop (k + 1)) (HSN.out.trans h)
        rw [List.take_append_drop] at h2
        show (meetL (meetO (gphD xs).N f) ((gphD xs).N m) (m + 1, o)).map _ = none
        rw [h2]
        rfl)
      clear hz hcu hw2
      by_cases hjm : j = mk
      · subst hjm
        have hbq : ((j : Int) == (j : Int)) = true := beq_self_eq_true _
        have HCALL := Shh.mk (HREC.out j ok wr hjn (by omega) HMET.out.ended.below HMET.out.ended.topo HMET.out.ended.nodup HST.out)
        go_wp2_with fail
        refine (HCALL.out).mono ?_
        rintro e w3 ⟨⟨vr, rfl⟩, hres⟩
        rcases hres with ⟨m3, o3, h3, hst3⟩ | ⟨h3, m3, o3, h4, hst3⟩
        · have hjo := meetO_mem h3
          have HS3 := Shh.mk (show meetS (meetO (gphD xs).N f) j (j, ok) = some (m3, o3) from by unfold meetS; simp only [if_true]; rw [h3]; simp only [Option.bind_some]; rw [if_pos hjo])
          have HST3 := Shh.mk hst3
          obtain ⟨ge3, ce3, vo3, hw3⟩ := hst3
          have k2 := hw3.blk.cells 2
          have kj := (hw3.endAt hjn).1
          rw [decide_eq_true hjo] at kj
          clear hw3 h3
          go_wp2_with fail
          go_roundw
          case rel => exact ⟨k + 1, m3, o3, by omega, by go_num, ⟨by rw [HSN.out, HS3.out]⟩, HST3⟩
          case measure => simp [intOf]; omega
        · have hjo : j ∉ o3 := h4.out (fun h => by have := HMET.out.ended.below j h; omega)
          have HS3 := Shh.mk (HSTOP.out (by unfold meetS; simp only [if_true]; rw [h3]; rfl))
          have HST3 := Shh.mk hst3
          have H4 := Shh.mk (HMET.out.stuck_in h4)
          obtain ⟨ge3, ce3, vo3, hw3⟩ := hst3
          have k2 := hw3.blk.cells 2
          have kj := (hw3.endAt hjn).1
          rw [decide_eq_false hjo] at kj
          clear hw3 h3 h4
          go_wp2_with fail
          refine bodyPost_ret (results_none rfl _ _ _) rfl ?_
          exact ⟨⟨_, rfl⟩, .inr ⟨HS3.out, m3, o3, H4.out, HST3.out⟩⟩
      · have hbq : ((j : Int) == (mk : Int)) = false := beq_eq_false_iff_ne.2 (by omega)
        have kj := (HW2.out.endAt hjn).1
        by_cases hjo : j ∈ ok
        · rw [decide_eq_true hjo] at kj
          have HS3 := Shh.mk (show meetS (meetO (gphD xs).N f) j (mk, ok) = some (mk, ok) from by unfold meetS; simp only [if_neg hjm, Option.bind_some, if_pos hjo])
          go_wp2_with fail
          go_roundw
          case rel => exact ⟨k + 1, mk, ok, by omega, by go_num, ⟨by rw [HSN.out, HS3.out]⟩, HST⟩
          case measure => simp [intOf]; omega
        · rw [decide_eq_false hjo] at kj
          have HS3 := Shh.mk (HSTOP.out (by unfold meetS; simp only [if_neg hjm, Option.bind_some, if_neg hjo]))
          have H4 := Shh.mk HMET.out.stuck
          go_wp2_with fail
          refine bodyPost_ret (results_none rfl _ _ _) rfl ?_
          exact ⟨⟨_, rfl⟩, .inr ⟨HS3.out, mk, ok, H4.out, HST.out⟩⟩
    · obtain rfl : k = ns.length := by omega
      have HEND := Shh.mk (show meetO (gphD xs).N (f + 1) (m, o) m = some (mk, ok ++ [m]) from by
        have h2 := HEQ.out
        rw [List.take_of_length_le (by rw [HNK.out]; simp)] at h2
        show (meetL (meetO (gphD xs).N f) ((gphD xs).N m) (m + 1, o)).map _ = _
        rw [h2]
        rfl)
      obtain ⟨km, fm⟩ := hw2.endAt hm
      have e3 := hw2.blk.cells 3
      have hge := World.ownsRow.lt hw2.ends ge2 rfl
      have hA0 : Apart (fun b => b = ge2) wr (wr.setCell ⟨ge2, m, none⟩ (.bool true)) := (Apart.refl (fun b => b = ge2) wr).setCell (p := ⟨ge2, m, none⟩) (fun _ => rfl) _
      have HBK := Shh.mk (hw2.blk.apart hA0 (fun e => row_blk hw2.blk (by decide) hw2.ends ge2 rfl e.symm))
      have HRW := Shh.mk (hw2.row.far hA0 (fun j hj e => by subst e; exact row_row hw2.row (by decide) hw2.ends j hj rfl))
      have e3b := HBK.out.cells 3
      have hokl : ok.length ≤ xs.length := by
        have := nodup_len _ _ HMET.out.ended.nodup HMET.out.ended.below
        omega
      have HSZ := Shh.mk hw2.below.size
      have HC0 := Shh.mk (show ((wr.setCell ⟨ge2, m, none⟩ (.bool true)).alloc (.cells #[.int .i64 (m : Int)] 2)).cell? ⟨wr.heap.size, 0, none⟩ = some (.int .i64 (m : Int)) from by
        have h := (Blk.made (wr.setCell ⟨ge2, m, none⟩ (.bool true)) 2 #[.int .i64 (m : Int)]).cells 0
        rw [World.size_setCell] at h
        exact h)
      clear hw2 hA0 HREC HMID
      go_wp2_with (at_builtin; refine wpList_append_int (B := W.heap.size) (H := wr.heap.size) rfl _ _ rfl (.slice oa2 ok.length oc2) (ok.map Int.ofNat) (m : Int) rfl rfl HC0.out (HRW.out.alloc _) ok.length (List.length_map ..) (by omega) (by have h1 := HSZ.out; simp; omega) ?_; intro g7 c7 w7 ho7 hk7 _; have hbl7 := (HBK.out.alloc (.cells #[.int .i64 (m : Int)] 2)).apart hk7 (fun e => row_blk HBK.out (by decide) HRW.out gw e rfl); have n7 : w7.cell? ⟨gw, 3, none⟩ = some (.slice oa2 ok.length oc2) := hbl7.cells 3; have m7 := hbl7.marks 3; have HK7 := Shh.mk (show Apart (fun b => (Value.slice oa2 ok.length oc2).ownBlock = some b) (wr.setCell ⟨ge2, m, none⟩ (.bool true)) w7 from ((Apart.refl _ _).alloc _).trans hk7 (fun _ _ h => h)); have HO7 := Shh.mk ho7; clear ho7 hk7 hbl7)
      have HD7 := Shh.mk (HW2.out.done (k := m) HK7.out HO7.out)
      go_end0
      exact ⟨⟨_, rfl⟩, .inl ⟨mk, ok ++ [m], HEND.out, _, _, _, HD7.out⟩⟩
theorem meet_does {W : World} {gw : Nat} {vold : Value} {xs : List Nod} (hx : Nds W vold xs) (hs : Shp xs) : ∀ f, MeetDoes W gw vold xs f
  | 0 => fun m _ _ h1 h2 _ _ _ _ => absurd h1 (by omega)
  | f + 1 => meet_step hx hs f (meet_does hx hs f)
end Go.Proofs.YtokfkofclpajfaaDoor

namespace Go.Proofs.YtokfkofclpajfaaDoor
open Go.RowKit

theorem ends_lit (w : World) (n B : Nat) (hB : B ≤ w.heap.size) (hn : n ≤ 3000) : (w.alloc (.cells (madeCells #[.bool false] n) 4)).ownsRow B 4 1 (.slice (some ⟨w.heap.size, 0, none⟩) n n) n (endsN n []) := by
  have h := World.ownsRow_lit (base := B) (e := 4) (size := 1) w (madeCells #[.bool false] n) n hB (by unfold maxLen; omega) (by rw [size_madeCells]; omega)
  rw [toList_madeCells_one] at h
  have e : endsN n [] = List.replicate n (.bool false) := by
    refine List.ext_getElem? fun p => ?_
    by_cases hp : p < n
    · rw [endsN_at _ hp]; simp [hp]
    · rw [List.getElem?_eq_none (by rw [endsN_len]; omega), List.getElem?_eq_none (by simp; omega)]
  rw [e]
  exact h
theorem walk_one {W : World} {v : Value} {n : Nat} (hn : n ≤ 3000) : WMem W (W.heap.size + 1) v n ((W.alloc (.cells (madeCells #[.bool false] n) 4)).alloc (.cells #[v, .int .i64 0, .slice (some ⟨W.heap.size, 0, none⟩) n n, .slice none 0 0] 131)).drew 0 [] W.heap.size n (.slice none 0 0) := by
  refine ⟨(((Below.refl _ _).alloc (Nat.le_refl _) _).alloc (by simp) _).drew, by omega, ?_, World.ownsRow.drew (World.ownsRow.alloc (ends_lit W n _ (Nat.le_refl _) hn) _), RowI.nil _ _⟩
  have h := (Blk.made (W.alloc (.cells (madeCells #[.bool false] n) 4)) 131 #[v, .int .i64 0, .slice (some ⟨W.heap.size, 0, none⟩) n n, .slice none 0 0]).drew
  rw [World.size_alloc] at h
  exact h
theorem walk_two {W : World} {v : Value} {n : Nat} (hn : n ≤ 3000) : WMem W W.heap.size v n ((W.alloc (.cells #[v, .int .i64 0, .slice (some ⟨W.heap.size + 1, 0, none⟩) n n, .slice none 0 0] 131)).alloc (.cells (madeCells #[.bool false] n) 4)).drew 0 [] (W.heap.size + 1) n (.slice none 0 0) := by
  refine ⟨(((Below.refl _ _).alloc (Nat.le_refl _) _).alloc (by simp) _).drew, Nat.le_refl _, ((Blk.made W 131 _).alloc _).drew, ?_, RowI.nil _ _⟩
  have h := ends_lit (W.alloc (.cells #[v, .int .i64 0, .slice (some ⟨W.heap.size + 1, 0, none⟩) n n, .slice none 0 0] 131)) n W.heap.size (by simp) hn
  rw [World.size_alloc] at h
  exact World.ownsRow.drew h
/-- What the walk says of an order. -/
theorem order_says {xs : List Nod} (hs : Shp xs) {m' : Nat} {o' : List Nat} (h : (meetO (gphD xs).N xs.length (0, []) 0 = some (m', o')) ∨ (meetO (gphD xs).N xs.length (0, []) 0 = none ∧ Stuck xs.length 0 [] o')) {b : Bool} (hb : decide (o'.length = xs.length) = b) :
    (b = true → o'.length = xs.length ∧ meetO (gphD xs).N xs.length (0, []) 0 = some (xs.length, o')) ∧ (b = false → ∀ o2, meetO (gphD xs).N xs.length (0, []) 0 ≠ some (xs.length, o2)) ∧ o'.length ≤ xs.length := by
  have hpos := hs.pos
  rcases h with h | ⟨h, hst⟩
  · have hE := (meetO_ended (gphD xs).N xs.length 0 [] m' o' h (by simp) (topo_nil _) List.nodup_nil).1
    have hl := hE.len
    simp at hl
    have hfit := dfs_fit hs.in xs.length [] 0 ⟨List.nodup_nil, by simp⟩ hpos (by simp)
    have hrg := (meetO_ended (gphD xs).N xs.length 0 [] m' o' h (by simp) (topo_nil _) List.nodup_nil).2.1
    have hmn : m' ≤ xs.length := by
      have h9 : dfs (gphD xs).N xs.length [] 0 = List.range m' := hrg
      rw [h9] at hfit
      exact range_room hfit
    refine ⟨fun e => ?_, fun e o2 h2 => ?_, by omega⟩
    · rw [e] at hb
      have h3 := of_decide_eq_true hb
      refine ⟨h3, ?_⟩
      rw [h, show m' = xs.length by omega]
    · rw [e] at hb
      have h3 := of_decide_eq_false hb
      rw [h] at h2
      simp only [Option.some.injEq, Prod.mk.injEq] at h2
      omega
  · have hlt := hst.few (by simp) hpos
    refine ⟨fun e => ?_, fun _ o2 h2 => ?_, by omega⟩
    · rw [e] at hb
      have h3 := of_decide_eq_true hb
      omega
    · rw [h] at h2
      cases h2

theorem meet_start {W : World} {gw : Nat} {v : Value} {xs : List Nod} (hx : Nds W v xs) (hs : Shp xs) (w : World) (h : WkSt W gw v xs.length w 0 []) :
    Calls Tryd.prog 108 #[.pointer (some ⟨gw, 0, none⟩), .int .i64 0] w fun e w' => ∃ vr m' o', e = .returned vr ∧ ((meetO (gphD xs).N xs.length (0, []) 0 = some (m', o')) ∨ (meetO (gphD xs).N xs.length (0, []) 0 = none ∧ Stuck xs.length 0 [] o')) ∧ WkSt W gw v xs.length w' m' o' := by
  refine (meet_does (gw := gw) hx hs xs.length 0 [] w hs.pos (by omega) (by simp) (topo_nil _) List.nodup_nil h).mono ?_
  rintro e w' ⟨⟨vr, rfl⟩, hres⟩
  rcases hres with ⟨m', o', h1, h2⟩ | ⟨h1, m', o', h3, h2⟩
  · exact ⟨vr, m', o', rfl, .inl h1, h2⟩
  · exact ⟨vr, m', o', rfl, .inr ⟨h1, h3⟩, h2⟩

set_option maxRecDepth 100000 in
set_option maxHeartbeats 2000000 in
theorem orderUpward_any {v : Value} {xs : List Nod} (W : World) (hx : Nds W v xs) (hs : Shp xs) :
    Calls Tryd.prog 68 #[.agg #[v]] W fun e w' => ∃ (vo : Value) (o : List Nat) (b : Bool), e = .returned (.tuple #[vo, .bool b]) ∧ RowI W.heap.size w' vo (o.map Int.ofNat) ∧ Below W.heap.size W w' ∧
      (b = true → o.length = xs.length ∧ meetO (gphD xs).N xs.length (0, []) 0 = some (xs.length, o)) ∧ (b = false → ∀ o', meetO (gphD xs).N xs.length (0, []) 0 ≠ some (xs.length, o')) := by
  have hmk := run_make_row' (P := Tryd.prog) 129 4 (.bool false) 1 Tryd.underlying129 infoBool rfl .i64 .i64 xs.length (by have := hs.len; omega) (by have := hs.len; omega)
  have hn3 := hs.len
  have hn0 := hs.pos
  have HX := Shh.mk (hx.alloc (.cells #[v] 29))
  have HS := Shh.mk hs
  have HONE := walk_one (W := W.alloc (.cells #[v] 29)) (v := v) hn3
  have HTWO := walk_two (W := W.alloc (.cells #[v] 29)) (v := v) hn3
  rw [World.size_alloc] at HONE HTWO
  have HC1 := Shh.mk (meet_start HX.out hs _ ⟨_, _, _, HONE⟩)
  have HC2 := Shh.mk (meet_start HX.out hs _ ⟨_, _, _, HTWO⟩)
  clear HONE HTWO
  have HBD := Shh.mk (Blk.made W 29 #[v])
  obtain ⟨na, nc, rfl, hn1, hn2, hnn⟩ := hx
  clear hnn hs
  go_enter Tryd.func68, Tryd.ntmps68
  go_wp2
  go_region
  all_goals
    go_wp2_with fail
    first
      | (with_reducible refine (HC1.out).mono ?_)
      | (with_reducible refine (HC2.out).mono ?_)
    rintro e w3 ⟨vr, m', o', rfl, h1, ge, ce, vo, hw⟩
    obtain ⟨b, hb⟩ : ∃ b, decide (o'.length = xs.length) = b := ⟨_, rfl⟩
    obtain ⟨s1, s2, s3⟩ := order_says HS.out h1 hb
    have hbq : ((o'.length : Int) == (xs.length : Int)) = b := by
      rw [← hb]
      rcases Nat.decEq o'.length xs.length with h | h
      · rw [decide_eq_false h]; exact beq_eq_false_iff_ne.2 (by omega)
      · rw [decide_eq_true h]; exact beq_iff_eq.2 (by omega)
    obtain ⟨oa, oc, rfl⟩ := hw.orderForm
    have HW := Shh.mk hw
    have k3 := hw.blk.cells 3
    have kd := (HBD.out.kept hw.below (by simp)).cells 0
    have S1 := Shh.mk s1
    have S2 := Shh.mk s2
    have HB3 := Shh.mk (show Below W.heap.size W w3 from ((Below.refl _ _).alloc (Nat.le_refl _) _).trans (hw.below.mono (by simp)))
    clear hw h1 s1 s2 hb
    go_wp2
    go_region
    go_wp2
    go_ret2
    exact ⟨_, o', b, rfl, Go.Joins.ownsRow_le HW.out.row.drew (by simp), HB3.out.drew, S1.out, S2.out⟩
end Go.Proofs.YtokfkofclpajfaaDoor

namespace Go.Proofs.YtokfkofclpajfaaDoor
open Go.RowKit

def lensN (n : Nat) (h : Nat → Nat) : List Int := (List.range n).map fun i => (h i : Int)
theorem lensN_len (n : Nat) (h : Nat → Nat) : (lensN n h).length = n := by simp [lensN]
theorem lensN_at {n i : Nat} (h : Nat → Nat) (hi : i < n) : (lensN n h)[i]? = some (h i : Int) := by simp [lensN, hi]
theorem lensN_set {n i x : Nat} {h : Nat → Nat} : (lensN n h).set i (x : Int) = lensN n (setF h i x) := by
  refine List.ext_getElem? fun p => ?_
  rw [List.getElem?_set]
  by_cases hp : p < n
  · rw [lensN_at _ hp, lensN_at _ hp]
    by_cases e : i = p
    · subst e
      rw [if_pos rfl, if_pos (by rw [lensN_len]; exact hp), setF_same]
    · rw [if_neg e, setF_other (fun h => e h.symm)]
  · have h1 : (lensN n h)[p]? = none := List.getElem?_eq_none (by rw [lensN_len]; omega)
    have h2 : (lensN n (setF h i x))[p]? = none := List.getElem?_eq_none (by rw [lensN_len]; omega)
    rw [h1, h2]
    split
    · rw [if_neg (by rw [lensN_len]; omega)]
    · rfl
theorem setF_setF (h : Nat → Nat) (i x y : Nat) : setF (setF h i x) i y = setF h i y := by
  funext j
  unfold setF
  split <;> rfl
theorem setF_self {h : Nat → Nat} {i : Nat} : setF h i (h i) = h := by
  funext j
  unfold setF
  split
  · subst_vars; rfl
  · rfl
theorem info_i64D : (Tryd.prog.info? 2).map (fun i => (i.zero, i.size, i.bytes)) = some (some (.int .i64 0), 1, 8) := by kernel_rfl
theorem lens_lit (w : World) (n B : Nat) (hB : B ≤ w.heap.size) (hn : n ≤ 3000) : RowI B (w.alloc (.cells (madeCells #[.int .i64 0] n) 2)) (.slice (some ⟨w.heap.size, 0, none⟩) n n) (lensN n fun _ => 0) := by
  have h := World.ownsRow_lit (base := B) (e := 2) (size := 1) w (madeCells #[.int .i64 0] n) n hB (by unfold maxLen; omega) (by rw [size_madeCells]; omega)
  rw [toList_madeCells_one] at h
  unfold RowI
  rw [lensN_len]
  have e : (lensN n fun _ => 0).map (Value.int .i64) = List.replicate n (.int .i64 0) := by
    unfold lensN
    rw [List.map_map]
    refine List.ext_getElem? fun p => ?_
    by_cases hp : p < n
    · simp [hp]
    · rw [List.getElem?_eq_none (by simp; omega), List.getElem?_eq_none (by simp; omega)]
  rw [e]
  exact h
theorem row_at {B g n : Nat} {w : World} {h : Nat → Nat} (hr : RowI B w (.slice (some ⟨g, 0, none⟩) n n) (lensN n h)) {i : Nat} (hi : i < n) : w.cell? ⟨g, i, none⟩ = some (.int .i64 (h i : Int)) ∧ w.frozen? ⟨g, i, none⟩ = false := by
  unfold RowI at hr
  rw [lensN_len] at hr
  refine ⟨?_, World.ownsRow.frozenAt hr i⟩
  rw [World.ownsRow.cellAt hr i (by omega), List.getElem?_map, lensN_at _ hi]
  rfl
theorem row_put {B g n : Nat} {w : World} {h : Nat → Nat} (hr : RowI B w (.slice (some ⟨g, 0, none⟩) n n) (lensN n h)) (i x : Nat) : RowI B (w.setCell ⟨g, i, none⟩ (.int .i64 (x : Int))) (.slice (some ⟨g, 0, none⟩) n n) (lensN n (setF h i x)) := by
  unfold RowI at hr ⊢
  rw [lensN_len] at hr
  rw [lensN_len, ← lensN_set, List.map_set]
  exact (World.ownsRow.stored hr i (.int .i64 (x : Int))).1

set_option maxRecDepth 100000 in
set_option maxHeartbeats 4000000 in
theorem lengthsUpward_any {v vo : Value} {xs : List Nod} {o : List Nat} {B : Nat} (W : World) (hx : Nds W v xs) (hs : Shp xs) (ho : RowI B W vo (o.map Int.ofNat)) (ht : Topo (gphD xs).N o) (hd : o.Nodup) (hb : ∀ i ∈ o, i < xs.length) :
    Calls Tryd.prog 69 #[.agg #[v], vo] W fun e w' => ∃ (vl : Value) (h : Nat → Nat), e = .returned vl ∧ RowI W.heap.size w' vl (lensN xs.length h) ∧ LenSt (gphD xs).N o h ∧ Below W.heap.size W w' := by
  have hmk := run_make_row' (P := Tryd.prog) 53 2 (.int .i64 0) 8 Tryd.underlying53 info_i64D rfl .i64 .i64 xs.length (by have := hs.len; omega) (by have := hs.len; omega)
  have hn3 := hs.len
  have hol : o.length ≤ xs.length := nodup_len _ _ hd hb
  have HX := Shh.mk (hx.alloc (.cells #[v] 29))
  have HS := Shh.mk hs
  have HT := Shh.mk ht
  have HD := Shh.mk hd
  have HBO := Shh.mk hb
  have HO := Shh.mk (ho.alloc (.cells #[v] 29))
  have HBD := Shh.mk (Blk.made W 29 #[v])
  have h0 := lens_lit (W.alloc (.cells #[v] 29)) xs.length (W.heap.size + 1) (by simp) hn3
  rw [World.size_alloc] at h0
  have H0 := Shh.mk h0
  obtain ⟨na, nc, rfl, hn1, hn2, hnn⟩ := hx
  obtain ⟨oa, oc, e1⟩ : ∃ a c, vo = .slice a o.length c := by
    obtain ⟨a, c, e, -⟩ := own_form ho
    rw [List.length_map] at e
    exact ⟨a, c, e⟩
  subst e1
  clear hnn hs ht hd hb ho h0
  go_enter Tryd.func69, Tryd.ntmps69
  go_wp2
  go_loopw [7, 9, 16, 27] (fun _ _ z _ wr => ∃ (k : Nat) (h : Nat → Nat), k ≤ o.length ∧ z = .int .i64 k ∧ Shh (LenSt (gphD xs).N (o.take k) h) ∧ Shh (∀ i, h i ≤ k) ∧ Shh (RowI (W.heap.size + 1) wr (.slice (some ⟨W.heap.size + 1, 0, none⟩) xs.length xs.length) (lensN xs.length h)) ∧ Below (W.alloc (.cells #[.slice na xs.length nc] 29)).heap.size (W.alloc (.cells #[.slice na xs.length nc] 29)) wr) (fun _ _ z _ _ => o.length - (intOf z).toNat)
  case atStart => exact ⟨0, fun _ => 0, Nat.zero_le _, rfl, ⟨by rw [List.take_zero]; exact LenSt.start _⟩, ⟨fun _ => Nat.le_refl _⟩, H0, (Below.refl _ _).alloc (Nat.le_refl _) _⟩
  case round =>
    obtain ⟨k, h, hkl, rfl, hl, hk9, hrow, hb⟩ := hrel
    obtain ⟨w2, hwe⟩ : ∃ w2 : World, w2 = wr := ⟨_, rfl⟩
    subst hwe
    clear H0
    have d0 := (HBD.out.kept hb (by simp)).cells 0
    by_cases hk : k < o.length
    · obtain ⟨ga, gc, e1, -, -, h3⟩ := own_form (HO.out.below hb)
      rw [List.length_map] at e1 h3
      obtain ⟨gO, rfl, -, hgl⟩ := h3 (by omega)
      have hok : w2.cell? ⟨gO, k, none⟩ = some (.int .i64 ((o[k]'hk : Nat) : Int)) := by
        have h5 := HO.out.below hb
        unfold RowI at h5
        rw [e1, List.length_map] at h5
        rw [World.ownsRow.cellAt h5 k (by omega)]
        simp [hk]
      simp only [Value.slice.injEq] at e1
      obtain ⟨rfl, -, rfl⟩ := e1
      obtain ⟨i, hi⟩ : ∃ i, o[k]'hk = i := ⟨_, rfl⟩
      rw [hi] at hok
      have hin : i < xs.length := HBO.out i (by rw [← hi]; exact List.getElem_mem hk)
      have htk : o.take (k + 1) = o.take k ++ [i] := by rw [List.take_succ_eq_append_getElem hk, hi]
      have hT1 : Topo (gphD xs).N (o.take k ++ [i]) := fun pre x suf e j hj => HT.out pre x (suf ++ o.drop (k + 1)) (by
        have h7 := List.take_append_drop (k + 1) o
        rw [htk, e] at h7
        exact h7.symm.trans (by rw [List.append_assoc, List.cons_append])) j hj
      have hD1 : (o.take k ++ [i]).Nodup := by rw [← htk]; exact List.Nodup.sublist (List.take_sublist _ _) HD.out
      have hip : i ∉ o.take k := fun hm => (List.nodup_append.1 hD1).2.2 i hm i (by simp) rfl
      have HNI := Shh.mk (show ∀ j ∈ (gphD xs).N i, j ∈ o.take k from hT1 (o.take k) i [] rfl)
      have HIP := Shh.mk hip
      have HLS := Shh.mk (hl.out.step hT1 hD1)
      have HHI := Shh.mk (hl.out.out i hip)
      have HTK := Shh.mk htk
      obtain ⟨ad, cd, e2, -, -, hnn⟩ := HX.out
      obtain ⟨bn, on, rfl, hbn, hcn⟩ := hnn (by omega)
      simp only [Value.slice.injEq] at e2
      obtain ⟨rfl, -, rfl⟩ := e2
      obtain ⟨-, -, u, n2, hu⟩ := hcn i hin
      have HNK := Shh.mk (HS.out.N hin)
      have HSH := Shh.mk (HS.out.node i hin)
      obtain ⟨ns, hns⟩ : ∃ ns, (nodG xs i).ns = ns := ⟨_, rfl⟩
      have HNS := Shh.mk hns
      rw [hns] at hu HNK
      have hul := hu.len
      obtain ⟨ua, uc, rfl, hu1, hu2, hu3, hu4⟩ := hu
      have HU3 := Shh.mk hu3
      have n2w := (hb.cell (p := ⟨bn, on + i * 3 + 2, none⟩) hbn).trans n2
      clear hcn hnn hns hu3 hu4 htk hT1 hD1 hip hi
      go_wp2
      go_loopw [9, 27] (fun _ z wr => ∃ q : Nat, q ≤ ns.length ∧ z = .int .i64 q ∧ Shh (RowI (W.heap.size + 1) wr (.slice (some ⟨W.heap.size + 1, 0, none⟩) xs.length xs.length) (lensN xs.length (setF h i (maxOf h (((gphD xs).N i).take q))))) ∧ Below (W.alloc (.cells #[.slice (some ⟨bn, on, none⟩) xs.length nc] 29)).heap.size (W.alloc (.cells #[.slice (some ⟨bn, on, none⟩) xs.length nc] 29)) wr) (fun _ z _ => ns.length - (intOf z).toNat)
      case atStart => exact ⟨0, Nat.zero_le _, rfl, ⟨by rw [List.take_zero, show maxOf h [] = h i from HHI.out.symm, setF_self]; exact hrow.out⟩, hb⟩
      case round =>
        obtain ⟨q, hql, rfl, hrow2, hb2⟩ := hrel
        clear hrow hb d0 n2w hok
        by_cases hq : q < ns.length
        · obtain ⟨bu, ou, rfl, hbu, hcu⟩ := HU3.out (by omega)
          have cu := (hb2.cell (p := ⟨bu, ou + q, none⟩) hbu).trans (hcu q hq)
          have hzz : 0 ≤ ns.getD q 0 ∧ ns.getD q 0 < xs.length := by
            rw [List.getD_eq_getElem?_getD, List.getElem?_eq_getElem hq]
            exact HSH.out.next _ (by rw [HNS.out]; exact List.getElem_mem hq)
          obtain ⟨z, hz⟩ : ∃ z, ns.getD q 0 = z := ⟨_, rfl⟩
          have htk2 : ((gphD xs).N i).take (q + 1) = ((gphD xs).N i).take q ++ [z.toNat] := by
            rw [HNK.out, List.take_add_one, List.getElem?_map, List.getElem?_eq_getElem hq]
            rw [List.getD_eq_getElem?_getD, List.getElem?_eq_getElem hq] at hz
            simp at hz
            rw [← hz]
            rfl
          rw [hz] at cu hzz
          obtain ⟨j, rfl⟩ : ∃ j : Nat, z = (j : Int) := ⟨z.toNat, by omega⟩
          rw [Int.toNat_natCast] at htk2
          have hjn : j < xs.length := by omega
          have hjN : j ∈ (gphD xs).N i := List.mem_of_mem_take (i := q + 1) (by rw [htk2]; simp)
          have hji : j ≠ i := fun e => HIP.out (by have := HNI.out j hjN; rw [e] at this; exact this)
          obtain ⟨ci, fi⟩ := row_at hrow2.out hin
          obtain ⟨cj, -⟩ := row_at hrow2.out hjn
          rw [setF_same] at ci
          rw [setF_other hji] at cj
          obtain ⟨M, hM⟩ : ∃ M, maxOf h (((gphD xs).N i).take q) = M := ⟨_, rfl⟩
          have HPUT := Shh.mk (show RowI (W.heap.size + 1) (wr.setCell ⟨W.heap.size + 1, i, none⟩ (.int .i64 ((max M (h j + 1) : Nat) : Int))) (.slice (some ⟨W.heap.size + 1, 0, none⟩) xs.length xs.length) (lensN xs.length (setF h i (maxOf h (((gphD xs).N i).take (q + 1))))) from by
            have h8 := row_put hrow2.out i (max M (h j + 1))
            rw [setF_setF] at h8
            rw [htk2, maxOf_snoc, hM]
            exact h8)
          rw [hM] at ci
          have hjk := hk9.out j
          obtain ⟨Hj, hHj⟩ : ∃ x, h j = x := ⟨_, rfl⟩
          rw [hHj] at cj HPUT hjk
          have HB9 := Shh.mk (hb2.setCell (p := ⟨W.heap.size + 1, i, none⟩) (by simp) (.int .i64 ((max M (Hj + 1) : Nat) : Int)))
          clear htk2 hz hcu hM hHj
          go_wp2
          go_region
          all_goals
            go_wp2
            go_roundw
            case rel =>
              have e9 : (if (M : Int) < (Hj : Int) + 1 then (Hj : Int) + 1 else (M : Int)) = ((max M (Hj + 1) : Nat) : Int) := by split <;> omega
              exact ⟨q + 1, by omega, by go_num, by rw [e9]; exact ⟨HPUT.out.drew⟩, by rw [e9]; exact HB9.out.drew⟩
            case measure => simp [intOf]; omega
        · obtain rfl : q = ns.length := by omega
          have HR9 := Shh.mk (show RowI (W.heap.size + 1) wr (.slice (some ⟨W.heap.size + 1, 0, none⟩) xs.length xs.length) (lensN xs.length (setF h i (maxOf h ((gphD xs).N i)))) from by
            have := hrow2.out
            rw [List.take_of_length_le (by rw [HNK.out]; simp)] at this
            exact this)
          have HL9 := Shh.mk (show LenSt (gphD xs).N (o.take (k + 1)) (setF h i (maxOf h ((gphD xs).N i))) from by rw [HTK.out]; exact HLS.out)
          have HK9 := Shh.mk (show ∀ p, setF h i (maxOf h ((gphD xs).N i)) p ≤ k + 1 from fun p => by
            unfold setF
            split
            · exact maxOf_le.2 fun j _ => by have := hk9.out j; omega
            · have := hk9.out p; omega)
          go_wp2
          go_roundw
          case rel => exact ⟨k + 1, _, by omega, by go_num, HL9, HK9, HR9, hb2⟩
          case measure => simp [intOf]; omega
    · obtain rfl : k = o.length := by omega
      have HLS := Shh.mk (show LenSt (gphD xs).N o h from by have := hl.out; rw [List.take_length] at this; exact this)
      go_wp2
      go_ret
      exact ⟨_, h, rfl, Go.Joins.ownsRow_le hrow.out (by omega), HLS.out, ((Below.refl _ _).alloc (Nat.le_refl _) _).trans (hb.mono (by simp))⟩
end Go.Proofs.YtokfkofclpajfaaDoor
