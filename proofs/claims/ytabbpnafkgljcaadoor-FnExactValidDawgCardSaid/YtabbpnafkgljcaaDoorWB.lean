/-
  Nodes in the order in which they end: the program's walk along all paths.
-/
import Derived.Test.YtabbpnafkgljcaaDoorVT
import Derived.Test.YtabbpnafkgljcaaDoorVR
namespace Go.Proofs.YtabbpnafkgljcaaDoor
open Go.RowKit

theorem meetO_mem {N : Nat → List Nat} {f i : Nat} {st st' : Nat × List Nat} (h : meetO N f st i = some st') : i ∈ st'.2 := by
  cases f with
  | zero => cases h
  | succ f =>
    unfold meetO at h
    cases hm : meetL (meetO N f) (N i) (st.1 + 1, st.2) with
    | none => rw [hm] at h; cases h
    | some x =>
      rw [hm] at h
      simp at h
      rw [← h]
      simp
def endsN (n : Nat) (o : List Nat) : List Value := (List.range n).map fun i => .bool (decide (i ∈ o))
theorem endsN_len (n : Nat) (o : List Nat) : (endsN n o).length = n := by simp [endsN]
theorem endsN_at {n i : Nat} (o : List Nat) (h : i < n) : (endsN n o)[i]? = some (.bool (decide (i ∈ o))) := by simp [endsN, h]
theorem endsN_set {n k : Nat} {o : List Nat} : (endsN n o).set k (.bool true) = endsN n (o ++ [k]) := by
  refine List.ext_getElem? fun p => ?_
  rw [List.getElem?_set]
  by_cases hp : p < n
  · rw [endsN_at _ hp, endsN_at _ hp]
    by_cases e : k = p
    · subst e
      rw [if_pos rfl, if_pos (by rw [endsN_len]; exact hp)]
      simp
    · rw [if_neg e]
      have : (p ∈ o ++ [k]) ↔ p ∈ o := by simp; intro h; exact absurd h.symm e
      simp [this]
  · have h1 : (endsN n o)[p]? = none := List.getElem?_eq_none (by rw [endsN_len]; omega)
    have h2 : (endsN n (o ++ [k]))[p]? = none := List.getElem?_eq_none (by rw [endsN_len]; omega)
    rw [h1, h2]
    split
    · rw [if_neg (by rw [endsN_len]; omega)]
    · rfl
/-- The walk's own memory: how many nodes are met, which have ended, in which order. -/
structure WMem (W : World) (gw : Nat) (vold : Value) (n : Nat) (w : World) (m : Nat) (o : List Nat) (ge ce : Nat) (vo : Value) : Prop where
  below : Below W.heap.size W w
  base : W.heap.size ≤ gw
  blk : Blk w gw 180 #[vold, .int .i64 m, .slice (some ⟨ge, 0, none⟩) n ce, vo]
  ends : w.ownsRow W.heap.size 4 1 (.slice (some ⟨ge, 0, none⟩) n ce) n (endsN n o)
  row : RowI W.heap.size w vo (o.map Int.ofNat)
def WkSt (W : World) (gw : Nat) (vold : Value) (n : Nat) (w : World) (m : Nat) (o : List Nat) : Prop := ∃ ge ce vo, WMem W gw vold n w m o ge ce vo
section
variable {W w w2 : World} {gw n m ge ce : Nat} {vold vo : Value} {o : List Nat}
theorem WMem.met (h : WMem W gw vold n w m o ge ce vo) (m2 : Nat) : WMem W gw vold n (w.setCell ⟨gw, 1, none⟩ (.int .i64 m2)) m2 o ge ce vo := by
  have hA : Apart (fun b => b = gw) w (w.setCell ⟨gw, 1, none⟩ (.int .i64 m2)) := (Apart.refl (fun b => b = gw) w).setCell (p := ⟨gw, 1, none⟩) (fun _ => rfl) _
  exact ⟨h.below.setCell (p := ⟨gw, 1, none⟩) h.base _, h.base, h.blk.stored 1 _, row_apart h.ends hA (fun k hk e => row_blk h.blk (by decide) h.ends k hk e), h.row.far hA (fun k hk e => row_blk h.blk (by decide) h.row k hk e)⟩
/-- A node ends: the mark, and the order that is one longer. -/
theorem WMem.done {k g c : Nat} (h : WMem W gw vold n w m o ge ce vo) (hk : Apart (fun b => vo.ownBlock = some b) (w.setCell ⟨ge, k, none⟩ (.bool true)) w2) (hr : RowI W.heap.size w2 (.slice (some ⟨g, 0, none⟩) (o.length + 1) c) (o.map Int.ofNat ++ [(k : Int)])) :
    WMem W gw vold n (w2.setCell ⟨gw, 3, none⟩ (.slice (some ⟨g, 0, none⟩) (o.length + 1) c)) m (o ++ [k]) ge ce (.slice (some ⟨g, 0, none⟩) (o.length + 1) c) := by
  have hge := World.ownsRow.lt h.ends ge rfl
  have hA0 : Apart (fun b => b = ge) w (w.setCell ⟨ge, k, none⟩ (.bool true)) := (Apart.refl (fun b => b = ge) w).setCell (p := ⟨ge, k, none⟩) (fun _ => rfl) _
  have hb1 : Below W.heap.size W (w.setCell ⟨ge, k, none⟩ (.bool true)) := h.below.setCell (p := ⟨ge, k, none⟩) hge.1 _
  have hblk1 := h.blk.apart hA0 (fun e => row_blk h.blk (by decide) h.ends ge rfl e.symm)
  have hst := (World.ownsRow.stored h.ends k (.bool true)).1
  rw [endsN_set] at hst
  have hrow1 := h.row.far hA0 (fun j hj e => by subst e; exact row_row h.row (by decide) h.ends j hj rfl)
  have hA2 : Apart (fun b => b = gw) w2 (w2.setCell ⟨gw, 3, none⟩ (.slice (some ⟨g, 0, none⟩) (o.length + 1) c)) := (Apart.refl (fun b => b = gw) w2).setCell (p := ⟨gw, 3, none⟩) (fun _ => rfl) _
  have hblk2 := hblk1.apart hk (fun e => row_blk hblk1 (by decide) hrow1 gw e rfl)
  have hends2 := row_apart hst hk (fun j hj e => row_row hrow1 (by decide) hst j e hj)
  have hb2 : Below W.heap.size W w2 := hb1.trans (hk.below (fun i hi e => by have := (hrow1.lt e).1; omega) hb1.size)
  refine ⟨hb2.setCell (p := ⟨gw, 3, none⟩) h.base _, h.base, hblk2.stored 3 _, row_apart hends2 hA2 (fun j hj e => row_blk hblk2 (by decide) hends2 j hj e), ?_⟩
  have hr2 := hr.far hA2 (fun j hj e => row_blk hblk2 (by decide) hr j hj e)
  rw [List.map_append]
  exact hr2
theorem WMem.endAt (h : WMem W gw vold n w m o ge ce vo) {k : Nat} (hk : k < n) : w.cell? ⟨ge, k, none⟩ = some (.bool (decide (k ∈ o))) ∧ w.frozen? ⟨ge, k, none⟩ = false := by
  refine ⟨?_, World.ownsRow.frozenAt h.ends k⟩
  rw [World.ownsRow.cellAt h.ends k (by omega), endsN_at o hk]
theorem WMem.orderForm (h : WMem W gw vold n w m o ge ce vo) : ∃ a c, vo = .slice a o.length c := by
  obtain ⟨a, c, e, -⟩ := own_form h.row
  rw [List.length_map] at e
  exact ⟨a, c, e⟩
end
/-- What is asked of meet. -/
def MeetDoes (W : World) (gw : Nat) (vold : Value) (xs : List Nod) (f : Nat) : Prop := ∀ (m : Nat) (o : List Nat) (w : World), m < xs.length → xs.length ≤ m + f → (∀ v ∈ o, v < m) → Topo (gphD xs).N o → o.Nodup → WkSt W gw vold xs.length w m o →
  Calls Tryd.prog 144 #[.pointer (some ⟨gw, 0, none⟩), .int .i64 m] w fun e w' => (∃ v, e = .returned v) ∧
    ((∃ m' o', meetO (gphD xs).N f (m, o) m = some (m', o') ∧ WkSt W gw vold xs.length w' m' o') ∨ (meetO (gphD xs).N f (m, o) m = none ∧ ∃ m' o', Stuck xs.length m o o' ∧ WkSt W gw vold xs.length w' m' o'))

set_option maxRecDepth 100000 in
set_option maxHeartbeats 8000000 in
theorem meet_step {W : World} {gw : Nat} {vold : Value} {xs : List Nod} (hx : Nds W vold xs) (hs : Shp xs) (f : Nat) (hrec : MeetDoes W gw vold xs f) : MeetDoes W gw vold xs (f + 1) := by
  intro m o w hm hf hb ht hd hst
  have HREC := Shh.mk hrec
  have HS := Shh.mk hs
  have HX := Shh.mk hx
  have HT := Shh.mk ht
  have HB := Shh.mk hb
  have HND := Shh.mk hd
  have HMID := fun k mk ok h => Shh.mk (met_mid (n := xs.length) (f := f) (m := m) (k := k) (o := o) (mk := mk) (ok := ok) hs.in hm h hb ht hd)
  have hol : o.length ≤ m := nodup_len m o hd hb
  have hn3 := hs.len
  obtain ⟨ge, ce, vo, hw⟩ := hst
  obtain ⟨oa, oc, rfl⟩ := hw.orderForm
  have HW := Shh.mk hw
  have c1 := hw.blk.cells 1
  have m1 := hw.blk.marks 1
  have HW1 := Shh.mk (hw.met (m + 1))
  have HNK := Shh.mk (hs.N hm)
  have HSH := Shh.mk (hs.node m hm)
  obtain ⟨na, nc, rfl, hn1, hn2, hnn⟩ := hx
  obtain ⟨bn, on, rfl, hbn, hcn⟩ := hnn (by omega)
  obtain ⟨-, -, u, n2, hu⟩ := hcn m hm
  obtain ⟨ns, hns⟩ : ∃ ns, (nodG xs m).ns = ns := ⟨_, rfl⟩
  have HNS := Shh.mk hns
  rw [hns] at hu HNK
  have hul := hu.len
  obtain ⟨ua, uc, rfl, hu1, hu2, hu3, hu4⟩ := hu
  have HU3 := Shh.mk hu3
  have n2w := (hw.below.cell (p := ⟨bn, on + m * 3 + 2, none⟩) hbn).trans n2
  have d0 := HW1.out.blk.cells 0
  have n2x : (w.setCell ⟨gw, 1, none⟩ (.int .i64 ((m + 1 : Nat) : Int))).cell? ⟨bn, on + m * 3 + 2, none⟩ = some (.slice ua ns.length uc) := (HW1.out.below.cell (p := ⟨bn, on + m * 3 + 2, none⟩) hbn).trans n2
  have hmi : ((m + 1 : Nat) : Int) = (m : Int) + 1 := by omega
  rw [hmi] at d0 n2x HW1
  clear hw hs hb ht hd hrec hcn hnn hns hu3 hu4
  go_enter Tryd.func144, Tryd.ntmps144
  go_wp2
  go_loopw [5, 22] (fun _ z wr => ∃ (k mk : Nat) (ok : List Nat), k ≤ ns.length ∧ z = .int .i64 k ∧ Shh (meetL (meetO (gphD xs).N f) (((gphD xs).N m).take k) (m + 1, o) = some (mk, ok)) ∧ Shh (WkSt W gw (.slice (some ⟨bn, on, none⟩) xs.length nc) xs.length wr mk ok)) (fun _ z _ => ns.length - (intOf z).toNat)
  case atStart => exact ⟨0, m + 1, o, Nat.zero_le _, rfl, ⟨by rw [List.take_zero]; rfl⟩, ⟨⟨_, _, _, HW1.out⟩⟩⟩
  case round =>
    obtain ⟨k, mk, ok, hkl, rfl, heq, hst⟩ := hrel
    have HEQ := heq
    have HMET := HMID k mk ok heq.out
    have HST := hst
    obtain ⟨ge2, ce2, vo2, hw2⟩ := hst.out
    obtain ⟨oa2, oc2, rfl⟩ := hw2.orderForm
    have HW2 := Shh.mk hw2
    have hmkn := HMET.out.room
    have hmku := HMET.out.ended.up
    clear heq hst HW1 HW d0 n2x n2w c1 m1
    have e1 := hw2.blk.cells 1
    have e2 := hw2.blk.cells 2
    by_cases hk : k < ns.length
    · obtain ⟨bu, ou, rfl, hbu, hcu⟩ := HU3.out (by omega)
      have cu := (hw2.below.cell (p := ⟨bu, ou + k, none⟩) hbu).trans (hcu k hk)
      have hzz : 0 ≤ ns.getD k 0 ∧ ns.getD k 0 < xs.length := by
        rw [List.getD_eq_getElem?_getD, List.getElem?_eq_getElem hk]
        exact HSH.out.next _ (by rw [HNS.out]; exact List.getElem_mem hk)
      obtain ⟨z, hz⟩ : ∃ z, ns.getD k 0 = z := ⟨_, rfl⟩
      have HTK := Shh.mk (show ((gphD xs).N m).take (k + 1) = ((gphD xs).N m).take k ++ [z.toNat] from by
        rw [HNK.out, List.take_add_one, List.getElem?_map, List.getElem?_eq_getElem hk]
        rw [List.getD_eq_getElem?_getD, List.getElem?_eq_getElem hk] at hz
        simp at hz
        rw [← hz]
        rfl)
      rw [hz] at cu hzz
      obtain ⟨j, rfl⟩ : ∃ j : Nat, z = (j : Int) := ⟨z.toNat, by omega⟩
      rw [Int.toNat_natCast] at HTK
      have hjn : j < xs.length := by omega
      have HSN := Shh.mk (show meetL (meetO (gphD xs).N f) (((gphD xs).N m).take (k + 1)) (m + 1, o) = meetS (meetO (gphD xs).N f) j (mk, ok) from by rw [HTK.out, meetL_snoc, HEQ.out]; rfl)
      have HSTOP := Shh.mk (fun (h : meetS (meetO (gphD xs).N f) j (mk, ok) = none) => show meetO (gphD xs).N (f + 1) (m, o) m = none from by
        have h2 := meetL_stop (((gphD xs).N m).drop (k + 1)) (HSN.out.trans h)
        rw [List.take_append_drop] at h2
        show (meetL (meetO (gphD xs).N f) ((gphD xs).N m) (m + 1, o)).map _ = none
        rw [h2]
        rfl)
      clear hz hcu hw2
      by_cases hjm : j = mk
      · subst hjm
        have hbq : ((j : Int) == (j : Int)) = true := beq_self_eq_true _
        have HCALL := Shh.mk (HREC.out j ok wr hjn (by omega) HMET.out.ended.below HMET.out.ended.topo HMET.out.ended.nodup HST.out)
        go_wp2_with fail
        refine (HCALL.out).mono ?_
        rintro e w3 ⟨⟨vr, rfl⟩, hres⟩
        rcases hres with ⟨m3, o3, h3, hst3⟩ | ⟨h3, m3, o3, h4, hst3⟩
        · have hjo := meetO_mem h3
          have HS3 := Shh.mk (show meetS (meetO (gphD xs).N f) j (j, ok) = some (m3, o3) from by unfold meetS; simp only [if_true]; rw [h3]; simp only [Option.bind_some]; rw [if_pos hjo])
          have HST3 := Shh.mk hst3
          obtain ⟨ge3, ce3, vo3, hw3⟩ := hst3
          have k2 := hw3.blk.cells 2
          have kj := (hw3.endAt hjn).1
          rw [decide_eq_true hjo] at kj
          clear hw3 h3
          go_wp2_with fail
          go_roundw
          case rel => exact ⟨k + 1, m3, o3, by omega, by go_num, ⟨by rw [HSN.out, HS3.out]⟩, HST3⟩
          case measure => simp [intOf]; omega
        · have hjo : j ∉ o3 := h4.out (fun h => by have := HMET.out.ended.below j h; omega)
          have HS3 := Shh.mk (HSTOP.out (by unfold meetS; simp only [if_true]; rw [h3]; rfl))
          have HST3 := Shh.mk hst3
          have H4 := Shh.mk (HMET.out.stuck_in h4)
          obtain ⟨ge3, ce3, vo3, hw3⟩ := hst3
          have k2 := hw3.blk.cells 2
          have kj := (hw3.endAt hjn).1
          rw [decide_eq_false hjo] at kj
          clear hw3 h3 h4
          go_wp2_with fail
          refine bodyPost_ret (results_none rfl _ _ _) rfl ?_
          exact ⟨⟨_, rfl⟩, .inr ⟨HS3.out, m3, o3, H4.out, HST3.out⟩⟩
      · have hbq : ((j : Int) == (mk : Int)) = false := beq_eq_false_iff_ne.2 (by omega)
        have kj := (HW2.out.endAt hjn).1
        by_cases hjo : j ∈ ok
        · rw [decide_eq_true hjo] at kj
          have HS3 := Shh.mk (show meetS (meetO (gphD xs).N f) j (mk, ok) = some (mk, ok) from by unfold meetS; simp only [if_neg hjm, Option.bind_some, if_pos hjo])
          go_wp2_with fail
          go_roundw
          case rel => exact ⟨k + 1, mk, ok, by omega, by go_num, ⟨by rw [HSN.out, HS3.out]⟩, HST⟩
          case measure => simp [intOf]; omega
        · rw [decide_eq_false hjo] at kj
          have HS3 := Shh.mk (HSTOP.out (by unfold meetS; simp only [if_neg hjm, Option.bind_some, if_neg hjo]))
          have H4 := Shh.mk HMET.out.stuck
          go_wp2_with fail
          refine bodyPost_ret (results_none rfl _ _ _) rfl ?_
          exact ⟨⟨_, rfl⟩, .inr ⟨HS3.out, mk, ok, H4.out, HST.out⟩⟩
    · obtain rfl : k = ns.length := by omega
      have HEND := Shh.mk (show meetO (gphD xs).N (f + 1) (m, o) m = some (mk, ok ++ [m]) from by
        have h2 := HEQ.out
        rw [List.take_of_length_le (by rw [HNK.out]; simp)] at h2
        show (meetL (meetO (gphD xs).N f) ((gphD xs).N m) (m + 1, o)).map _ = _
        rw [h2]
        rfl)
      obtain ⟨km, fm⟩ := hw2.endAt hm
      have e3 := hw2.blk.cells 3
      have hge := World.ownsRow.lt hw2.ends ge2 rfl
      have hA0 : Apart (fun b => b = ge2) wr (wr.setCell ⟨ge2, m, none⟩ (.bool true)) := (Apart.refl (fun b => b = ge2) wr).setCell (p := ⟨ge2, m, none⟩) (fun _ => rfl) _
      have HBK := Shh.mk (hw2.blk.apart hA0 (fun e => row_blk hw2.blk (by decide) hw2.ends ge2 rfl e.symm))
      have HRW := Shh.mk (hw2.row.far hA0 (fun j hj e => by subst e; exact row_row hw2.row (by decide) hw2.ends j hj rfl))
      have e3b := HBK.out.cells 3
      have hokl : ok.length ≤ xs.length := by
        have := nodup_len _ _ HMET.out.ended.nodup HMET.out.ended.below
        omega
      have HSZ := Shh.mk hw2.below.size
      have HC0 := Shh.mk (show ((wr.setCell ⟨ge2, m, none⟩ (.bool true)).alloc (.cells #[.int .i64 (m : Int)] 2)).cell? ⟨wr.heap.size, 0, none⟩ = some (.int .i64 (m : Int)) from by
        have h := (Blk.made (wr.setCell ⟨ge2, m, none⟩ (.bool true)) 2 #[.int .i64 (m : Int)]).cells 0
        rw [World.size_setCell] at h
        exact h)
      clear hw2 hA0 HREC HMID
      go_wp2_with (at_builtin; refine wpList_append_int (B := W.heap.size) (H := wr.heap.size) rfl _ _ rfl (.slice oa2 ok.length oc2) (ok.map Int.ofNat) (m : Int) rfl rfl HC0.out (HRW.out.alloc _) ok.length (List.length_map ..) (by omega) (by have h1 := HSZ.out; simp; omega) ?_; intro g7 c7 w7 ho7 hk7 _; have hbl7 := (HBK.out.alloc (.cells #[.int .i64 (m : Int)] 2)).apart hk7 (fun e => row_blk HBK.out (by decide) HRW.out gw e rfl); have n7 : w7.cell? ⟨gw, 3, none⟩ = some (.slice oa2 ok.length oc2) := hbl7.cells 3; have m7 := hbl7.marks 3; have HK7 := Shh.mk (show Apart (fun b => (Value.slice oa2 ok.length oc2).ownBlock = some b) (wr.setCell ⟨ge2, m, none⟩ (.bool true)) w7 from ((Apart.refl _ _).alloc _).trans hk7 (fun _ _ h => h)); have HO7 := Shh.mk ho7; clear ho7 hk7 hbl7)
      have HD7 := Shh.mk (HW2.out.done (k := m) HK7.out HO7.out)
      go_end0
      exact ⟨⟨_, rfl⟩, .inl ⟨mk, ok ++ [m], HEND.out, _, _, _, HD7.out⟩⟩
theorem meet_does {W : World} {gw : Nat} {vold : Value} {xs : List Nod} (hx : Nds W vold xs) (hs : Shp xs) : ∀ f, MeetDoes W gw vold xs f
  | 0 => fun m _ _ h1 h2 _ _ _ _ => absurd h1 (by omega)
  | f + 1 => meet_step hx hs f (meet_does hx hs f)
end Go.Proofs.YtabbpnafkgljcaaDoor
