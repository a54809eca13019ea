/-
  How many strings are accepted from each node on, how many come before a string, and the string with a number: the model's answers.
-/
import Derived.Test.YtokfkofclpajfaaDoorYB
import Derived.Test.YtokfkofclpajfaaDoorWE
import Derived.Test.YtokfkofclpajfaaDoorVO
namespace Go.Proofs.YtokfkofclpajfaaDoor
open Go.RowKit

/-- A number of each node, as a row. -/
def rowN (n : Nat) (m : Nat → Int) : List Int := (List.range n).map m
theorem rowN_len (n : Nat) (m : Nat → Int) : (rowN n m).length = n := by simp [rowN]
theorem rowN_at {n i : Nat} (m : Nat → Int) (hi : i < n) : (rowN n m)[i]? = some (m i) := by simp [rowN, hi]
def setI (m : Nat → Int) (i : Nat) (x : Int) : Nat → Int := fun j => if j = i then x else m j
theorem setI_same (m : Nat → Int) (i : Nat) (x : Int) : setI m i x i = x := by unfold setI; rw [if_pos rfl]
theorem setI_other {m : Nat → Int} {i j : Nat} {x : Int} (h : j ≠ i) : setI m i x j = m j := by unfold setI; rw [if_neg h]
theorem rowN_set {n i : Nat} {x : Int} {m : Nat → Int} : (rowN n m).set i x = rowN n (setI m i x) := by
  refine List.ext_getElem? fun j => ?_
  unfold rowN setI
  rw [List.getElem?_set, List.getElem?_map, List.getElem?_map]
  by_cases hj : j < n
  · rw [List.getElem?_range hj]
    by_cases h : i = j
    · subst h
      simp [hj]
    · have h' : ¬ j = i := fun e => h e.symm
      simp [h, h']
  · rw [List.getElem?_eq_none (by simp; omega)]
    by_cases h : i = j
    · subst h
      simp [hj]
    · simp [h]
theorem rowI_at {B g n c : Nat} {w : World} {m : Nat → Int} (hr : RowI B w (.slice (some ⟨g, 0, none⟩) n c) (rowN n m)) {i : Nat} (hi : i < n) : w.cell? ⟨g, i, none⟩ = some (.int .i64 (m i)) ∧ w.frozen? ⟨g, i, none⟩ = false := by
  unfold RowI at hr
  rw [rowN_len] at hr
  refine ⟨?_, World.ownsRow.frozenAt hr i⟩
  rw [World.ownsRow.cellAt hr i (by omega), List.getElem?_map, rowN_at _ hi]
  rfl
theorem rowI_put {B g n c : Nat} {w : World} {m : Nat → Int} (hr : RowI B w (.slice (some ⟨g, 0, none⟩) n c) (rowN n m)) (i : Nat) (x : Int) : RowI B (w.setCell ⟨g, i, none⟩ (.int .i64 x)) (.slice (some ⟨g, 0, none⟩) n c) (rowN n (setI m i x)) := by
  unfold RowI at hr ⊢
  rw [rowN_len] at hr
  rw [rowN_len, ← rowN_set, List.map_set]
  exact (World.ownsRow.stored hr i (.int .i64 x)).1
/-- What is known is right. -/
def Memo (c : Nat → Nat) (m : Nat → Int) : Prop := ∀ i, m i = -1 ∨ m i = (c i : Int)
structure MSt (W : World) (gd cb g n cap : Nat) (w : World) (m : Nat → Int) : Prop where
  below : Below W.heap.size W w
  out : W.heap.size ≤ cb
  blk : Blk w cb 144 #[.pointer (some ⟨gd, 0, none⟩), .slice (some ⟨g, 0, none⟩) n cap]
  row : RowI W.heap.size w (.slice (some ⟨g, 0, none⟩) n cap) (rowN n m)
theorem MSt.put {W w : World} {gd cb g n cap : Nat} {m : Nat → Int} (h : MSt W gd cb g n cap w m) (i : Nat) (x : Int) : MSt W gd cb g n cap (w.setCell ⟨g, i, none⟩ (.int .i64 x)) (setI m i x) := by
  have hne : cb ≠ g := fun e => row_blk h.blk (by decide) h.row g rfl e.symm
  have hg : W.heap.size ≤ g := (World.ownsRow.lt h.row g rfl).1
  exact ⟨h.below.setCell (p := ⟨g, i, none⟩) hg _, h.out, h.blk.other (p := ⟨g, i, none⟩) hne _, rowI_put h.row i x⟩
def SCountDoes (W : World) (gd cb g cap : Nat) (xs : List Nod) (rk : Nat → Nat) (f : Nat) : Prop := ∀ (i : Nat) (w : World) (m : Nat → Int), i < xs.length → rk i < f → MSt W gd cb g xs.length cap w m → Memo (gphD xs).cnt m →
  Calls Tryd.prog 119 #[.pointer (some ⟨cb, 0, none⟩), .int .i64 (i : Int)] w fun e w' => e = .returned (.int .i64 ((gphD xs).cnt i : Int)) ∧
    ∃ m', MSt W gd cb g xs.length cap w' m' ∧ Memo (gphD xs).cnt m' ∧ m' i = ((gphD xs).cnt i : Int) ∧ ∀ j, m j ≠ -1 → m' j = m j

set_option maxRecDepth 100000 in
set_option maxHeartbeats 4000000 in
theorem scount_step {W : World} {gd cb g cap : Nat} {v : Value} {xs : List Nod} {rk : Nat → Nat} (hd : Blk W gd 29 #[v]) (hx : Nds W v xs) (hs : Shp xs) (hok : ∀ i, i < xs.length → (gphD xs).okH 14 i = true) (hrk : ∀ i, i < xs.length → ∀ j ∈ (gphD xs).N i, rk j < rk i) (f : Nat) (hrec : SCountDoes W gd cb g cap xs rk f) : SCountDoes W gd cb g cap xs rk (f + 1) := by
  intro i w m hi hf hm hme
  have HREC := Shh.mk hrec
  have HRK := Shh.mk (hrk i hi)
  have HM := Shh.mk hm
  have HME := Shh.mk hme
  have hn3 := hs.len
  have c0 := hm.blk.cells 0
  have c1 := hm.blk.cells 1
  obtain ⟨ci, fi⟩ := rowI_at hm.row hi
  have hcn := hs.cnt_small hi
  have HCE := Shh.mk (Gph.cnt_eq (hok i hi))
  obtain ⟨C, hC⟩ : ∃ C, (gphD xs).cnt i = C := ⟨_, rfl⟩
  have HC := Shh.mk hC
  rw [hC] at hcn HCE
  rcases hme i with h1 | h1
  · have hgd : ∀ w', Below W.heap.size W w' → w'.cell? ⟨gd, 0, none⟩ = some v := fun w' hb => (hd.kept hb hd.lt).cells 0
    have hF : (gphD xs).F i = (nodG xs i).f := rfl
    rw [hF] at HCE
    have HNK := Shh.mk (hs.N hi)
    have HSH := Shh.mk (hs.node i hi)
    obtain ⟨na, nc, rfl, hn1, hn2, hnn⟩ := hx
    obtain ⟨bn, on, rfl, hbn, hcnn⟩ := hnn (by omega)
    obtain ⟨n0W, -, u, n2W, hu⟩ := hcnn i hi
    obtain ⟨F, hFF⟩ : ∃ F, (nodG xs i).f = F := ⟨_, rfl⟩
    rw [hFF] at HCE n0W
    obtain ⟨ns, hns⟩ : ∃ ns, (nodG xs i).ns = ns := ⟨_, rfl⟩
    have HNS := Shh.mk hns
    rw [hns] at hu HNK
    have hul := hu.len
    obtain ⟨ua, uc, rfl, hu1, hu2, hu3, -⟩ := hu
    have HU3 := Shh.mk hu3
    have HGD := Shh.mk hgd
    have d0 := hgd w hm.below
    have n0 := (hm.below.cell (p := ⟨bn, on + i * 3, none⟩) hbn).trans n0W
    have hci : ¬ (0 : Int) ≤ m i := by omega
    obtain ⟨M, hM⟩ : ∃ M, m i = M := ⟨_, rfl⟩
    rw [hM] at ci hci
    have HMI := Shh.mk h1
    clear hs hok hrk hrec hm hme hC hF hFF hnn hcnn hns hu3 hd hgd h1 hM fi
    cases F
    case' false => obtain ⟨F0, hF0⟩ : ∃ F0 : Nat, F0 = 0 := ⟨_, rfl⟩
    case' true => obtain ⟨F0, hF0⟩ : ∃ F0 : Nat, F0 = 1 := ⟨_, rfl⟩
    all_goals
      have HCE2 := Shh.mk (show C = F0 + sumOf (gphD xs).cnt ((gphD xs).N i) by rw [HCE.out, hF0]; simp)
      have HF0 := Shh.mk hF0
      clear HCE hF0
      go_enter Tryd.func119, Tryd.ntmps119
      go_wp2
      go_loopw [6, 7] (fun t z wr => ∃ (q : Nat) (m2 : Nat → Int), q ≤ ns.length ∧ z = .int .i64 q ∧ t = .int .i64 ((F0 + sumOf (gphD xs).cnt (((gphD xs).N i).take q) : Nat) : Int) ∧ Shh (MSt W gd cb g xs.length cap wr m2) ∧ Shh (Memo (gphD xs).cnt m2) ∧ Shh (∀ j, m j ≠ -1 → m2 j = m j)) (fun _ z _ => ns.length - (intOf z).toNat)
      case atStart => exact ⟨0, m, Nat.zero_le _, rfl, by rw [HF0.out, List.take_zero]; rfl, HM, HME, ⟨fun _ _ => rfl⟩⟩
      case round =>
        obtain ⟨q, m2, hql, rfl, rfl, hm2, hme2, hsub⟩ := hrel
        clear d0 n0 c0 c1 ci
        have HM3 := hm2
        have n2 := (hm2.out.below.cell (p := ⟨bn, on + i * 3 + 2, none⟩) hbn).trans n2W
        clear hm2
        have hle := sumOf_take_le (gphD xs).cnt ((gphD xs).N i) q
        obtain ⟨T, hT⟩ : ∃ T, F0 + sumOf (gphD xs).cnt (((gphD xs).N i).take q) = T := ⟨_, rfl⟩
        have HT := Shh.mk hT
        have hTC : T ≤ C := by have := HCE2.out; omega
        rw [hT]
        by_cases hq : q < ns.length
        · obtain ⟨bu, ou, rfl, hbu, hcu⟩ := HU3.out (by omega)
          have cu := (HM3.out.below.cell (p := ⟨bu, ou + q, none⟩) hbu).trans (hcu q hq)
          have hzz : 0 ≤ ns.getD q 0 ∧ ns.getD q 0 < xs.length := by
            rw [List.getD_eq_getElem?_getD, List.getElem?_eq_getElem hq]
            exact HSH.out.next _ (by rw [HNS.out]; exact List.getElem_mem hq)
          obtain ⟨z, hz⟩ : ∃ z, ns.getD q 0 = z := ⟨_, rfl⟩
          have htk : ((gphD xs).N i).take (q + 1) = ((gphD xs).N i).take q ++ [z.toNat] := by
            rw [HNK.out, List.take_add_one, List.getElem?_map, List.getElem?_eq_getElem hq]
            rw [List.getD_eq_getElem?_getD, List.getElem?_eq_getElem hq] at hz
            simp at hz
            rw [← hz]
            rfl
          rw [hz] at cu hzz
          obtain ⟨j, rfl⟩ : ∃ j : Nat, z = (j : Int) := ⟨z.toNat, by omega⟩
          rw [Int.toNat_natCast] at htk
          have hjn : j < xs.length := by omega
          have hjN : j ∈ (gphD xs).N i := List.mem_of_mem_take (i := q + 1) (by rw [htk]; simp)
          have hjr := HRK.out j hjN
          have HCALL := Shh.mk (HREC.out j wr m2 hjn (by omega) HM3.out hme2.out)
          have hle2 := sumOf_take_le (gphD xs).cnt ((gphD xs).N i) (q + 1)
          rw [htk, sumOf_snoc] at hle2
          obtain ⟨Cj, hCj⟩ : ∃ x, (gphD xs).cnt j = x := ⟨_, rfl⟩
          have HTN := Shh.mk (show F0 + sumOf (gphD xs).cnt (((gphD xs).N i).take (q + 1)) = T + Cj by rw [htk, sumOf_snoc, hCj]; omega)
          rw [hCj] at HCALL hle2
          have hsum : T + Cj ≤ 6502111422497947648 := by have := HCE2.out; omega
          clear hT hle hle2 htk hz hcu hCj hTC
          go_wp2_with (go_at_call 119; refine (HCALL.out).mono ?_; rintro e w4 ⟨rfl, m4, hm4, hme4, -, hs4⟩; have HM4 := Shh.mk hm4; have HE4 := Shh.mk hme4; clear hm4 hme4)
          go_roundw
          case rel =>
            refine ⟨q + 1, m4, by omega, by go_num, by rw [HTN.out]; go_num, HM4, HE4, ⟨fun p hp => ?_⟩⟩
            have h1 := hsub.out p hp
            rw [hs4 p (by rw [h1]; exact hp)]
            exact h1
          case measure => simp [intOf]; omega
        · obtain rfl : q = ns.length := by omega
          have hTCe : T = C := by
            rw [← hT, HCE2.out, List.take_of_length_le (by rw [HNK.out]; simp)]
          subst hTCe
          have e0 := HM3.out.blk.cells 0
          have e1 := HM3.out.blk.cells 1
          obtain ⟨ci2, fi2⟩ := rowI_at HM3.out.row hi
          have HPUT := Shh.mk (HM3.out.put i (T : Int))
          clear hT hle hTC
          go_wp2
          go_ret
          refine ⟨by (rw [HC.out]; try rfl), setI m2 i (T : Int), HPUT.out, fun j => ?_, by rw [setI_same, HC.out], fun j hj => ?_⟩
          · by_cases hji : j = i
            · subst hji
              rw [setI_same, HC.out]
              exact .inr rfl
            · rw [setI_other hji]
              exact hme2.out j
          · have hji : j ≠ i := fun e => by subst e; exact hj HMI.out
            rw [setI_other hji]
            exact hsub.out j hj
  · have hci : (0 : Int) ≤ (C : Int) := by omega
    rw [h1, hC] at ci
    have HMI := Shh.mk (h1.trans (by rw [hC]))
    clear hx hs hok hrk hrec hm hme hC h1 hd
    go_enter Tryd.func119, Tryd.ntmps119
    go_wp2
    go_ret
    exact ⟨by (rw [HC.out]; try rfl), m, HM.out, HME.out, by rw [HMI.out, HC.out], fun _ _ => rfl⟩
theorem scount_does {W : World} {gd cb g cap : Nat} {v : Value} {xs : List Nod} {rk : Nat → Nat} (hd : Blk W gd 29 #[v]) (hx : Nds W v xs) (hs : Shp xs) (hok : ∀ i, i < xs.length → (gphD xs).okH 14 i = true) (hrk : ∀ i, i < xs.length → ∀ j ∈ (gphD xs).N i, rk j < rk i) : ∀ f, SCountDoes W gd cb g cap xs rk f
  | 0 => fun _ _ _ _ h _ _ => absurd h (by omega)
  | f + 1 => scount_step hd hx hs hok hrk f (scount_does hd hx hs hok hrk f)

/-- The model's memory while it lays the row out. -/
structure CSt (W : World) (gd cb : Nat) (w : World) (vp : Value) (i : Nat) : Prop where
  below : Below W.heap.size W w
  out : W.heap.size ≤ cb
  blk : Blk w cb 144 #[.pointer (some ⟨gd, 0, none⟩), vp]
  row : RowI W.heap.size w vp (List.replicate i (-1))
theorem CSt.more {W w w' : World} {gd cb g c i : Nat} {vp : Value} (h : CSt W gd cb w vp i) (hr : RowI W.heap.size w' (.slice (some ⟨g, 0, none⟩) (i + 1) c) (List.replicate i (-1) ++ [-1])) (hk : Apart (fun b => vp.ownBlock = some b) w w') :
    CSt W gd cb (w'.setCell ⟨cb, 1, none⟩ (.slice (some ⟨g, 0, none⟩) (i + 1) c)) (.slice (some ⟨g, 0, none⟩) (i + 1) c) (i + 1) := by
  have hbl := h.blk.apart hk (fun e => row_blk h.blk (by decide) h.row cb e rfl)
  have hb : Below W.heap.size W w' := h.below.trans (hk.below (fun k hk2 e => by have := (World.ownsRow.lt h.row k e).1; omega) h.below.size)
  refine ⟨hb.setCell (p := ⟨cb, 1, none⟩) h.out _, h.out, by simpa using hbl.stored 1 (.slice (some ⟨g, 0, none⟩) (i + 1) c), ?_⟩
  have hr2 : RowI W.heap.size w' (.slice (some ⟨g, 0, none⟩) (i + 1) c) (List.replicate (i + 1) (-1)) := by rw [List.replicate_succ']; exact hr
  have hne : ∀ k, (Value.slice (some ⟨g, 0, none⟩) (i + 1) c).ownBlock = some k → k ≠ cb := row_blk hbl (by decide) hr2
  refine ⟨hr2.1, ?_⟩
  rcases hr2.2 with h2 | ⟨g', cap, cur, e, hB, hg, r⟩
  · exact .inl h2
  · exact .inr ⟨g', cap, cur, e, hB, (Below.heap_setCell w' ⟨cb, 1, none⟩ _ g' (by have := hne g' (by rw [e]; rfl); exact this)).trans hg, r⟩
theorem replicate_row (n : Nat) : List.replicate n (-1 : Int) = rowN n fun _ => -1 := by
  unfold rowN
  rw [List.map_const']
  simp
/-- The numbers of all nodes. -/
def cntL (xs : List Nod) : List Int := rowN xs.length fun i => ((gphD xs).cnt i : Int)
theorem rowN_congr {n : Nat} {m k : Nat → Int} (h : ∀ i, i < n → m i = k i) : rowN n m = rowN n k := List.map_congr_left fun i hi => h i (by simpa using hi)
theorem dawg_rank {xs : List Nod} (h : DawgOk xs) : ∃ rk : Nat → Nat, ∀ i, i < xs.length → ∀ j ∈ (gphD xs).N i, rk j < rk i := by
  obtain ⟨o, ho⟩ := h.order
  obtain ⟨hE, hr, -, -⟩ := meetO_ended (gphD xs).N xs.length 0 [] xs.length o ho (by simp) (topo_nil _) List.nodup_nil
  have hlen : o.length = xs.length := by have := hE.len; simpa using this
  have hfull : ∀ i, i < xs.length → i ∈ o := fun i hi => by
    apply Classical.byContradiction
    intro hni
    have := nodup_room hE.nodup hE.below hi hni
    omega
  refine ⟨fun i => o.idxOf i, fun i hi j hj => ?_⟩
  obtain ⟨a, b, e⟩ := List.append_of_mem (hfull i hi)
  have h1 := hE.topo a i b e j hj
  have hd := hE.nodup
  rw [e] at hd
  have hia : i ∉ a := fun hm => (List.nodup_append.1 hd).2.2 i hm i (by simp) rfl
  have e1 : o.idxOf i = a.length := by rw [e, List.idxOf_append, if_neg hia]; simp
  have e2 : o.idxOf j = a.idxOf j := by rw [e, List.idxOf_append, if_pos h1]
  show o.idxOf j < o.idxOf i
  rw [e1, e2]
  exact List.idxOf_lt_length_of_mem h1

set_option maxRecDepth 100000 in
set_option maxHeartbeats 4000000 in
theorem l07Counts_any {gd : Nat} {v : Value} {xs : List Nod} (W : World) (hd : Blk W gd 29 #[v]) (hx : Nds W v xs) (ho : DawgOk xs) :
    Calls Tryd.prog 90 #[.pointer (some ⟨gd, 0, none⟩)] W fun e w' => ∃ g c, e = .returned (.slice (some ⟨g, 0, none⟩) xs.length c) ∧ RowI W.heap.size w' (.slice (some ⟨g, 0, none⟩) xs.length c) (cntL xs) ∧ Below W.heap.size W w' := by
  have HDB := Shh.mk hd
  have HX := Shh.mk hx
  have HO := Shh.mk ho
  have hpos := ho.shp.pos
  have hlen := ho.shp.len
  obtain ⟨rk, hrk⟩ := dawg_rank ho
  obtain ⟨mx, hmx⟩ : ∃ mx, ∀ i, i < xs.length → rk i < mx := by
    have : ∀ n, ∃ mx, ∀ i, i < n → rk i < mx := by
      intro n
      induction n with
      | zero => exact ⟨0, fun i h => absurd h (by omega)⟩
      | succ n ih =>
        obtain ⟨mx, h⟩ := ih
        refine ⟨mx + rk n + 1, fun i hi => ?_⟩
        rcases Nat.lt_or_ge i n with h1 | h1
        · have := h i h1; omega
        · obtain rfl : i = n := by omega
          omega
    exact this xs.length
  have HS := Shh.mk (show CSt W gd W.heap.size (W.alloc (.cells #[.pointer (some ⟨gd, 0, none⟩), .slice none 0 0] 144)) (.slice none 0 0) 0 from ⟨(Below.refl _ _).alloc (Nat.le_refl _) _, Nat.le_refl _, Blk.made W 144 #[.pointer (some ⟨gd, 0, none⟩), .slice none 0 0], RowI.nil _ _⟩)
  have HGD := Shh.mk (fun w' (hb : Below W.heap.size W w') => show w'.cell? ⟨gd, 0, none⟩ = some v from (hd.kept hb hd.lt).cells 0)
  have HMX := Shh.mk hmx
  have HCD := Shh.mk (fun g cap => scount_does (W := W) (gd := gd) (cb := W.heap.size) (g := g) (cap := cap) hd hx ho.shp (fun i hi => ho.short_all hi) hrk mx)
  have c0 := hd.cells 0
  have d1 := HGD.out _ HS.out.below
  obtain ⟨na, nc, rfl, hn1, hn2, -⟩ := hx
  clear hrk hmx hd ho
  go_enter Tryd.func90, Tryd.ntmps90
  go_wp2
  go_loopw [13] (fun z wr => ∃ (i : Nat) (vp : Value), i ≤ xs.length ∧ z = .int .i64 i ∧ Shh (CSt W gd W.heap.size wr vp i)) (fun z _ => xs.length - (intOf z).toNat)
  case atStart => exact ⟨0, _, Nat.zero_le _, rfl, HS⟩
  case round =>
    obtain ⟨i, vp, hil, rfl, hs⟩ := hrel
    have HS1 := hs
    have c1 := hs.out.blk.cells 1
    have HB1 := Shh.mk hs.out.below.size
    clear hs HS d1 c0
    by_cases hi : i < xs.length
    · go_wp2_with (at_builtin; refine wpList_append_int (B := W.heap.size) (H := wr.heap.size) rfl _ _ rfl vp (List.replicate i (-1)) (-1) rfl rfl ((Blk.made wr 2 #[.int .i64 (-1)]).cells 0) (HS1.out.row.alloc _) i (List.length_replicate ..) (by omega) (by have h1 := HB1.out; simp; omega) ?_; intro g7 c7 w7 ho7 hk7 _; have hbl7 := (HS1.out.blk.alloc (.cells #[.int .i64 (-1)] 2)).apart hk7 (fun e => row_blk HS1.out.blk (by decide) HS1.out.row _ e rfl); have n7 : w7.cell? ⟨W.heap.size, 1, none⟩ = some vp := hbl7.cells 1; have m7 := hbl7.marks 1; have HS2 := Shh.mk (CSt.more ⟨HS1.out.below.alloc HS1.out.below.size (.cells #[.int .i64 (-1)] 2), HS1.out.out, HS1.out.blk.alloc _, HS1.out.row.alloc _⟩ ho7 hk7); clear ho7 hk7 hbl7)
      go_roundw
      case rel => exact ⟨i + 1, _, by omega, by go_num, HS2⟩
      case measure => simp [intOf]; omega
    · obtain rfl : i = xs.length := by omega
      obtain ⟨g, cp, rfl⟩ : ∃ g cp, vp = .slice (some ⟨g, 0, none⟩) xs.length cp := by
        obtain ⟨a, cc, e, -, -, h3⟩ := own_form HS1.out.row
        rw [List.length_replicate] at e h3
        obtain ⟨g, rfl, -⟩ := h3 hpos
        exact ⟨g, cc, e⟩
      have HM0 := Shh.mk (show MSt W gd W.heap.size g xs.length cp wr (fun _ => -1) from ⟨HS1.out.below, Nat.le_refl _, HS1.out.blk, by rw [← replicate_row]; exact HS1.out.row⟩)
      have d1 := HGD.out _ HS1.out.below
      clear HS1 HB1 c1
      go_wp2
      go_loopw [4] (fun z wr => ∃ (k : Nat) (m : Nat → Int), k ≤ xs.length ∧ z = .int .i64 k ∧ Shh (MSt W gd W.heap.size g xs.length cp wr m) ∧ Shh (Memo (gphD xs).cnt m) ∧ Shh (∀ j, j < k → m j = ((gphD xs).cnt j : Int))) (fun z _ => xs.length - (intOf z).toNat)
      case atStart => exact ⟨0, _, Nat.zero_le _, rfl, HM0, ⟨fun _ => .inl rfl⟩, ⟨fun j hj => absurd hj (by omega)⟩⟩
      case round =>
        obtain ⟨w4, hw4⟩ : ∃ w4 : World, w4 = wr := ⟨_, rfl⟩
        subst hw4
        obtain ⟨k, m, hkl, rfl, hm, hme, hdone⟩ := hrel
        have HM := hm
        have HME := hme
        have d4 := HGD.out _ hm.out.below
        have c1 := hm.out.blk.cells 1
        clear HM0 hm hme d1
        by_cases hk : k < xs.length
        · go_wp2_with (go_at_call 119; refine (HCD.out g cp k w4 m hk (HMX.out k hk) HM.out HME.out).mono ?_; rintro e w5 ⟨rfl, m5, hm5, hme5, h5, hk5⟩; have HM5 := Shh.mk hm5; have HE5 := Shh.mk hme5; have HD5 := Shh.mk (show ∀ j, j < k + 1 → m5 j = ((gphD xs).cnt j : Int) from fun j hj => by
            rcases Nat.lt_or_ge j k with h1 | h1
            · have h2 := hdone.out j h1
              rw [hk5 j (by omega), h2]
            · obtain rfl : j = k := by omega
              exact h5); clear hm5 hme5 h5 hk5)
          go_roundw
          case rel => exact ⟨k + 1, m5, by omega, by go_num, HM5, HE5, HD5⟩
          case measure => simp [intOf]; omega
        · obtain rfl : k = xs.length := by omega
          have HR := Shh.mk (show RowI W.heap.size w4 (.slice (some ⟨g, 0, none⟩) xs.length cp) (cntL xs) from by unfold cntL; rw [← rowN_congr hdone.out]; exact HM.out.row)
          go_wp2
          go_ret
          exact ⟨g, cp, rfl, HR.out, HM.out.below⟩
end Go.Proofs.YtokfkofclpajfaaDoor
