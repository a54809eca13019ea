/-
  Nodes in the order in which they are met: the model's visit.
-/
import Derived.Test.YtokfkofclpajfaaDoorVV
import Derived.Test.YtokfkofclpajfaaDoorRM
namespace Go.Proofs.YtokfkofclpajfaaDoor
open Go.RowKit

theorem step_append_nodeN {ops : Array Oper} {o : Oper} {a : Act} {K : Act → World → Prop} {Q : Exit → Act → World → Prop} {E : Prop} {B H : Nat} {W : World} (hgd : o.guard = none) (s x : Operand)
    (ho : o.op = .call { callee := .builtin .append, args := #[s, x], argTypes := #[27, 27] })
    (v u : Value) (us : List Value) (xs : List Nod) (d : Nod) (hs : a.eval s = v) (hx : a.eval x = .slice (some ⟨H, 0, none⟩) 1 1) (hc : Blk W H 71 #[.bool d.f, .string d.ls, u])
    (hown : Nows B W v us xs) (n : Nat) (hn : xs.length = n) (hlen : n ≤ 1100000) (hB : B ≤ W.heap.size) (hu : RowI B W u d.ns) (hd : ∀ z ∈ d.ns, 0 ≤ z ∧ z < (n : Int))
    (h : ∀ g cap w', Nows B w' (.slice (some ⟨g, 0, none⟩) (n + 1) cap) (us ++ [u]) (xs ++ [d]) → Apart (fun b => v.ownBlock = some b) W w' → (v.ownBlock = some g ∨ W.heap.size ≤ g) → K (a.put o.dst (.slice (some ⟨g, 0, none⟩) (n + 1) cap)) w') :
    if Region.wanted o (yielded ops a.tmps) = true then Oper.wp Tryd.prog o a W K Q else E := by
  subst hn
  exact step_append_node hgd s x ho v u us xs d hs hx hc hown hlen hB hu hd h

/-- The memory while nodes are numbered: the places that are told, the nodes that have been met. -/
structure RMem (W : World) (gr : Nat) (vold : Value) (xs : List Nod) (w : World) (vp vo : Value) (us : List Value) (visP visO : List Nat) : Prop where
  below : Below W.heap.size W w
  base : W.heap.size ≤ gr
  blk : Blk w gr 165 #[vold, vp, vo]
  plc : RowI W.heap.size w vp (placesN xs.length visP)
  out : Nows W.heap.size w vo us (bareN xs visO)
  bare : ∀ k, ¬ hasRow us k
def RSt (W : World) (gr : Nat) (vold : Value) (xs : List Nod) (w : World) (vis : List Nat) : Prop := ∃ vp vo us, RMem W gr vold xs w vp vo us vis vis
section
variable {W w w2 : World} {gr : Nat} {vold vp vo : Value} {xs : List Nod} {us : List Value} {visP visO : List Nat}
theorem RMem.drew (h : RMem W gr vold xs w vp vo us visP visO) : RMem W gr vold xs w.drew vp vo us visP visO := ⟨h.below.drew, h.base, h.blk.drew, h.plc.drew, h.out.drew, h.bare⟩
theorem RMem.alloc (h : RMem W gr vold xs w vp vo us visP visO) (o : Obj) : RMem W gr vold xs (w.alloc o) vp vo us visP visO := ⟨h.below.alloc h.below.size o, h.base, h.blk.alloc o, h.plc.alloc o, h.out.alloc o, h.bare⟩
theorem RMem.set {g cap : Nat} (h : RMem W gr vold xs w (.slice (some ⟨g, 0, none⟩) xs.length cap) vo us visP visO) {k : Nat} (hk : k ∉ visP) : RMem W gr vold xs (w.setCell ⟨g, k, none⟩ (.int .i64 (visP.length : Int))) (.slice (some ⟨g, 0, none⟩) xs.length cap) vo us (visP ++ [k]) visO := by
  have hlt := h.plc.lt (k := g) rfl
  have hA : Apart (fun b => b = g) w (w.setCell ⟨g, k, none⟩ (.int .i64 (visP.length : Int))) := (Apart.refl (fun b => b = g) w).setCell (p := ⟨g, k, none⟩) (fun _ => rfl) _
  refine ⟨h.below.setCell (p := ⟨g, k, none⟩) hlt.1 _, h.base, h.blk.apart hA (fun e => row_blk h.blk (by decide) h.plc g rfl e.symm), ?_, h.out.far hA (fun j hj e => by subst e; exact row_row h.plc (by decide) h.out.row j rfl hj) (fun j hj => (h.bare j hj).elim), h.bare⟩
  have hp := h.plc
  unfold RowI at hp ⊢
  rw [placesN_len] at hp
  rw [placesN_len, ← placesN_snoc hk, List.map_set]
  exact (World.ownsRow.stored hp k (.int .i64 (visP.length : Int))).1
theorem RMem.push {g n cap : Nat} {d : Nod} (h : RMem W gr vold xs w vp vo us visP visO) {k : Nat} (hd : (⟨(nodG xs k).f, (nodG xs k).ls, []⟩ : Nod) = d) (hN : Nows W.heap.size w2 (.slice (some ⟨g, 0, none⟩) n cap) (us ++ [.slice none 0 0]) (bareN xs visO ++ [d])) (hk : Apart (fun b => vo.ownBlock = some b) w w2) :
    RMem W gr vold xs (w2.setCell ⟨gr, 2, none⟩ (.slice (some ⟨g, 0, none⟩) n cap)) vp (.slice (some ⟨g, 0, none⟩) n cap) (us ++ [.slice none 0 0]) visP (visO ++ [k]) := by
  subst hd
  have hvo : ∀ b, vo.ownBlock = some b → W.heap.size ≤ b := fun b hb => (World.ownsRow.lt h.out.row b hb).1
  have hA : Apart (fun b => b = gr) w2 (w2.setCell ⟨gr, 2, none⟩ (.slice (some ⟨g, 0, none⟩) n cap)) := (Apart.refl (fun b => b = gr) w2).setCell (p := ⟨gr, 2, none⟩) (fun _ => rfl) _
  have hblk := h.blk.apart hk (fun e => row_blk h.blk (by decide) h.out.row gr e rfl)
  have hpl := h.plc.far hk (fun j hj e => row_row h.plc (by decide) h.out.row j hj e)
  have hbare : ∀ j, ¬ hasRow (us ++ [.slice none 0 0]) j := fun j hj => by
    rcases hasRow_snoc.1 hj with h1 | h1
    · exact h.bare j h1
    · simp [Value.ownBlock] at h1
  have hb2 : Below W.heap.size W w2 := h.below.trans (hk.below (fun i hi e => by have := hvo i e; omega) h.below.size)
  refine ⟨hb2.setCell (p := ⟨gr, 2, none⟩) h.base _, h.base, hblk.stored 2 _, hpl.far hA (fun j hj e => row_blk hblk (by decide) hpl j hj e), ?_, hbare⟩
  rw [bareN_snoc]
  refine hN.far hA (fun j hj e => row_blk hblk (by decide) hN.row j hj e) (fun j hj => (hbare j hj).elim)
theorem RMem.placeAt {g cap : Nat} (h : RMem W gr vold xs w (.slice (some ⟨g, 0, none⟩) xs.length cap) vo us visP visO) {k : Nat} (hk : k < xs.length) : w.cell? ⟨g, k, none⟩ = some (.int .i64 (place visP k)) ∧ w.frozen? ⟨g, k, none⟩ = false := by
  have hp := h.plc
  unfold RowI at hp
  rw [placesN_len] at hp
  refine ⟨?_, World.ownsRow.frozenAt hp k⟩
  rw [World.ownsRow.cellAt hp k (by omega), List.getElem?_map, placesN_at _ hk]
  rfl
theorem RMem.placeForm (h : RMem W gr vold xs w vp vo us visP visO) (h0 : 0 < xs.length) : ∃ g cap, vp = .slice (some ⟨g, 0, none⟩) xs.length cap := by
  obtain ⟨a, cap, rfl, -, -, h3⟩ := own_form h.plc
  rw [placesN_len] at h3 ⊢
  obtain ⟨g, rfl, -⟩ := h3 h0
  exact ⟨g, cap, rfl⟩
theorem RMem.outForm (h : RMem W gr vold xs w vp vo us visP visO) : ∃ a cap, vo = .slice a visO.length cap := by
  obtain ⟨a, cap, e, -⟩ := h.out.nds
  rw [bareN_len] at e
  exact ⟨a, cap, e⟩
end

set_option maxRecDepth 100000 in
set_option maxHeartbeats 8000000 in
theorem visit_any {W : World} {gr : Nat} {vold : Value} {xs : List Nod} (hx : Nds W vold xs) (hsm : xs.length ≤ 1000000) (hdn : ∀ p, p < xs.length → ∀ z ∈ (nodG xs p).ns, 0 ≤ z ∧ z < (p : Int)) :
    ∀ (f k : Nat) (vis : List Nat) (w : World), k < f → k < xs.length → k ∉ vis → Fit xs.length vis → RSt W gr vold xs w vis →
      Calls Tryd.prog 136 #[.pointer (some ⟨gr, 0, none⟩), .int .i64 k] w fun e w' => (∃ v, e = .returned v) ∧ RSt W gr vold xs w' (dfs (stN (xs.map entD)) f vis k)
  | 0, _, _, _, hf, _, _, _, _ => absurd hf (by omega)
  | f + 1, k, vis, w, hf, hk, hkn, hfit, hst => by
    have HREC := Shh.mk (visit_any (gr := gr) hx hsm hdn f)
    obtain ⟨vp, vo, us, hm⟩ := hst
    have HX := Shh.mk hx
    obtain ⟨g, cap, rfl⟩ := hm.placeForm (by omega)
    obtain ⟨oa, oc, rfl⟩ := hm.outForm
    obtain ⟨na, nc, rfl, hn1, hn2, hn3⟩ := hx
    obtain ⟨bn, on, rfl, hbn, hcn⟩ := hn3 (by omega)
    have HM := Shh.mk hm
    have c0 := hm.blk.cells 0
    have c1 := hm.blk.cells 1
    have c2 := hm.blk.cells 2
    have m2 := hm.blk.marks 2
    obtain ⟨p0, q0⟩ := hm.placeAt hk
    have hvl : vis.length ≤ xs.length := nodup_len _ _ hfit.1 hfit.2
    have HDN := Shh.mk (hdn k hk)
    have hNb : ∀ i, i < xs.length → ∀ j ∈ stN (xs.map entD) i, j < xs.length := fun i hi j hj => by
      rw [stN_ent hi] at hj
      obtain ⟨z, hz, rfl⟩ := List.mem_map.1 hj
      have := hdn i hi z hz
      omega
    have HFIT := Shh.mk (fun i => dfsL_fit (dfs_fit hNb f) ((stN (xs.map entD) k).take i) (vis ++ [k]) (fun j hj => hNb k hk j (List.mem_of_mem_take hj)) (hfit.snoc hk hkn))
    have HNK := Shh.mk (stN_ent hk)
    clear hm hcn hn3 hdn hNb
    go_enter Tryd.func136, Tryd.ntmps136
    go_wp2
    go_region
    all_goals
      go_wp2
      have HM1 := Shh.mk (show RMem W gr _ xs (w.setCell ⟨g, k, none⟩ (.int .i64 (vis.length : Int))).drew _ _ us (vis ++ [k]) vis from (HM.out.set hkn).drew)
      obtain ⟨w1, hw1⟩ : ∃ x, (w.setCell ⟨g, k, none⟩ (.int .i64 (vis.length : Int))).drew = x := ⟨_, rfl⟩
      rw [hw1] at HM1 ⊢
      clear c0 c1 c2 m2 p0 q0 hw1
      have c0 := HM1.out.blk.cells 0
      have c2 := HM1.out.blk.cells 2
      obtain ⟨ad, cd, e1, -, -, hc3⟩ := HX.out.below HM1.out.below
      obtain ⟨b3, o3, rfl, hb3, hc4⟩ := hc3 (by omega)
      simp only [Value.slice.injEq, Option.some.injEq, Addr.mk.injEq] at e1
      obtain ⟨⟨rfl, rfl, -⟩, -, rfl⟩ := e1
      obtain ⟨n0, n1, -⟩ := hc4 k hk
      obtain ⟨x, hxx⟩ : ∃ x, nodG xs k = x := ⟨_, rfl⟩
      have HXX := Shh.mk hxx
      rw [hxx] at n0 n1
      obtain ⟨fl, ls, ns⟩ := x
      simp only at n0 n1
      have c2b : (w1.alloc (.cells #[.bool fl, .string ls, .slice none 0 0] 71)).cell? ⟨gr, 2, none⟩ = some (.slice oa vis.length oc) := (HM1.out.blk.alloc _).cells 2
      have HW1 := Shh.mk HM1.out.below.size
      clear hc4 hc3 hxx
      have K1 := Shh.mk (fun wx (hb : Below w1.heap.size w1 wx) => (⟨(HM1.out.blk.kept hb HM1.out.blk.lt).cells 0, (HM1.out.blk.kept hb HM1.out.blk.lt).cells 2, (hb.cell (p := ⟨bn, on + k * 3, none⟩) hb3).trans n0, (hb.cell (p := ⟨bn, on + k * 3 + 1, none⟩) hb3).trans n1⟩ : wx.cell? ⟨gr, 0, none⟩ = some (.slice (some ⟨bn, on, none⟩) xs.length nc) ∧ wx.cell? ⟨gr, 2, none⟩ = some (.slice oa vis.length oc) ∧ wx.cell? ⟨bn, on + k * 3, none⟩ = some (.bool fl) ∧ wx.cell? ⟨bn, on + k * 3 + 1, none⟩ = some (.string ls)))
      clear c0 c2 c2b n0 n1
      refine wp_region_M 24 (fun wx => wx.cell? ⟨gr, 0, none⟩ = some (.slice (some ⟨bn, on, none⟩) xs.length nc) ∧ wx.cell? ⟨gr, 2, none⟩ = some (.slice oa vis.length oc) ∧ wx.cell? ⟨bn, on + k * 3, none⟩ = some (.bool fl) ∧ wx.cell? ⟨bn, on + k * 3 + 1, none⟩ = some (.string ls)) (by kernel_rfl) (K1.out _ (Below.refl _ _).drew) (fun hHeld => ?_)
      refine wpAnyM_take (i := 0) (oi := _) (v := ?v0) rfl (by kernel_rfl) (fun _ _ _ h => h) (Or.inl ⟨by rfl, ?y0⟩) (by assumption) ?r0
      case y0 => (intro wS hSw; obtain ⟨hs0, hs1, hs2, hs3⟩ := hSw; go_simp; try with_reducible rfl)
      simp only [Act.put]
      refine wpAnyM_take (i := 1) (oi := _) (v := ?v1) rfl (by kernel_rfl) (fun _ _ _ h => h) (Or.inl ⟨by rfl, ?y1⟩) (by assumption) ?r1
      case y1 => (intro wS hSw; obtain ⟨hs0, hs1, hs2, hs3⟩ := hSw; go_simp; try with_reducible rfl)
      simp only [Act.put]
      refine wpAnyM_take (i := 2) (oi := _) (v := ?v2) rfl (by kernel_rfl) (fun _ _ _ h => h) (Or.inl ⟨by rfl, ?y2⟩) (by assumption) ?r2
      case y2 => (intro wS hSw; obtain ⟨hs0, hs1, hs2, hs3⟩ := hSw; go_simp; try with_reducible rfl)
      simp only [Act.put]
      refine wpAnyM_take (i := 3) (oi := _) (v := ?v3) rfl (by kernel_rfl) (fun _ _ _ h => h) (Or.inl ⟨by rfl, ?y3⟩) (by assumption) ?r3
      case y3 => (intro wS hSw; obtain ⟨hs0, hs1, hs2, hs3⟩ := hSw; go_simp; try with_reducible rfl)
      simp only [Act.put]
      refine wpAnyM_take (i := 4) (oi := _) (v := ?v4) rfl (by kernel_rfl) (fun _ _ _ h => h) (Or.inl ⟨by rfl, ?y4⟩) (by assumption) ?r4
      case y4 => (intro wS hSw; obtain ⟨hs0, hs1, hs2, hs3⟩ := hSw; go_simp; try with_reducible rfl)
      simp only [Act.put]
      refine wpAnyM_take (i := 5) (oi := _) (v := ?v5) rfl (by kernel_rfl) (fun _ _ _ h => h) (Or.inl ⟨by rfl, ?y5⟩) (by assumption) ?r5
      case y5 => (intro wS hSw; obtain ⟨hs0, hs1, hs2, hs3⟩ := hSw; go_simp; try with_reducible rfl)
      simp only [Act.put]
      refine wpAnyM_take (i := 6) (oi := _) (v := ?v6) rfl (by kernel_rfl) (fun _ _ _ h => h) (Or.inl ⟨by rfl, ?y6⟩) (by assumption) ?r6
      case y6 => (intro wS hSw; obtain ⟨hs0, hs1, hs2, hs3⟩ := hSw; go_simp; try with_reducible rfl)
      simp only [Act.put]
      refine wpAnyM_take (i := 7) (oi := _) (v := ?v7) rfl (by kernel_rfl) (fun _ _ _ h => h) (Or.inl ⟨by rfl, ?y7⟩) (by assumption) ?r7
      case y7 => (intro wS hSw; obtain ⟨hs0, hs1, hs2, hs3⟩ := hSw; go_simp; try with_reducible rfl)
      simp only [Act.put]
      refine wpAnyM_take (i := 8) (oi := _) (v := ?v8) rfl (by kernel_rfl) (fun _ _ _ h => h) (Or.inl ⟨by rfl, ?y8⟩) (by assumption) ?r8
      case y8 => (intro wS hSw; obtain ⟨hs0, hs1, hs2, hs3⟩ := hSw; go_simp; try with_reducible rfl)
      simp only [Act.put]
      refine wpAnyM_take (i := 9) (oi := _) (v := ?v9) rfl (by kernel_rfl) (fun _ _ _ h => h) (Or.inl ⟨by rfl, ?y9⟩) (by assumption) ?r9
      case y9 => (intro wS hSw; obtain ⟨hs0, hs1, hs2, hs3⟩ := hSw; go_simp; try with_reducible rfl)
      simp only [Act.put]
      refine wpAnyM_take (i := 10) (oi := _) (v := ?v10) rfl (by kernel_rfl) (fun _ _ _ h => h) (Or.inl ⟨by rfl, ?y10⟩) (by assumption) ?r10
      case y10 => (intro wS hSw; obtain ⟨hs0, hs1, hs2, hs3⟩ := hSw; go_simp; try with_reducible rfl)
      simp only [Act.put]
      refine wpAnyM_take (i := 11) (oi := _) (v := ?v11) rfl (by kernel_rfl) (fun _ _ _ h => h) (Or.inl ⟨by rfl, ?y11⟩) (by assumption) ?r11
      case y11 => (intro wS hSw; obtain ⟨hs0, hs1, hs2, hs3⟩ := hSw; go_simp; try with_reducible rfl)
      simp only [Act.put]
      refine wpAnyM_take (i := 12) (oi := _) (v := ?v12) rfl (by kernel_rfl) (fun _ _ _ h => h) (Or.inl ⟨by rfl, ?y12⟩) (by assumption) ?r12
      case y12 => (intro wS hSw; obtain ⟨hs0, hs1, hs2, hs3⟩ := hSw; go_simp; try with_reducible rfl)
      simp only [Act.put]
      refine wpAnyM_take (i := 13) (oi := _) (v := ?v13) rfl (by kernel_rfl) (fun _ _ _ h => h) (Or.inl ⟨by rfl, ?y13⟩) (by assumption) ?r13
      case y13 => (intro wS hSw; obtain ⟨hs0, hs1, hs2, hs3⟩ := hSw; go_simp; try with_reducible rfl)
      simp only [Act.put]
      refine wpAnyM_take (i := 14) (oi := _) (v := ?v14) rfl (by kernel_rfl) (fun _ _ _ h => h) (Or.inl ⟨by rfl, ?y14⟩) (by assumption) ?r14
      case y14 => (intro wS hSw; obtain ⟨hs0, hs1, hs2, hs3⟩ := hSw; go_simp; try with_reducible rfl)
      simp only [Act.put]
      refine wpAnyM_take (i := 15) (oi := _) (v := ?v15) rfl (by kernel_rfl) (fun _ _ _ h => h) (Or.inl ⟨by rfl, ?y15⟩) (by assumption) ?r15
      case y15 => (intro wS hSw; obtain ⟨hs0, hs1, hs2, hs3⟩ := hSw; go_simp; try with_reducible rfl)
      simp only [Act.put]
      refine wpAnyM_take (i := 16) (oi := _) (v := ?v16) rfl (by kernel_rfl) (fun _ _ _ h => h) (Or.inl ⟨by rfl, ?y16⟩) (by assumption) ?r16
      case y16 => (intro wS hSw; obtain ⟨hs0, hs1, hs2, hs3⟩ := hSw; go_simp; try with_reducible rfl)
      simp only [Act.put]
      refine wpAnyM_take (i := 17) (oi := _) (v := ?v17) rfl (by kernel_rfl) (fun _ _ _ h => h) (Or.inl ⟨by rfl, ?y17⟩) (by assumption) ?r17
      case y17 => (intro wS hSw; obtain ⟨hs0, hs1, hs2, hs3⟩ := hSw; go_simp; try with_reducible rfl)
      simp only [Act.put]
      refine wpAnyM_take (i := 18) (oi := _) (v := ?v18) rfl (by kernel_rfl) (fun _ _ _ h => h) (Or.inl ⟨by rfl, ?y18⟩) (by assumption) ?r18
      case y18 => (intro wS hSw; obtain ⟨hs0, hs1, hs2, hs3⟩ := hSw; go_simp; try with_reducible rfl)
      simp only [Act.put]
      refine wpAnyM_take (i := 19) (oi := _) (v := ?v19) rfl (by kernel_rfl) (fun _ _ _ h => h) (Or.inl ⟨by rfl, ?y19⟩) (by assumption) ?r19
      case y19 => (intro wS hSw; obtain ⟨hs0, hs1, hs2, hs3⟩ := hSw; go_simp; try with_reducible rfl)
      simp only [Act.put]
      refine wpAnyM_take (i := 20) (oi := _) (v := ?v20) rfl (by kernel_rfl) (fun _ _ _ h => h) (Or.inl ⟨by rfl, ?y20⟩) (by assumption) ?r20
      case y20 => (intro wS hSw; obtain ⟨hs0, hs1, hs2, hs3⟩ := hSw; go_simp; try with_reducible rfl)
      simp only [Act.put]
      refine wpAnyM_take (i := 21) (oi := _) (v := ?v21) rfl (by kernel_rfl) (fun _ _ _ h => h) (Or.inl ⟨by rfl, ?y21⟩) (by assumption) ?r21
      case y21 => (intro wS hSw; obtain ⟨hs0, hs1, hs2, hs3⟩ := hSw; go_simp; try with_reducible rfl)
      simp only [Act.put]
      refine wpAnyM_one (i := 22) (o := _) (by kernel_rfl) rfl (fun K hK => ?_)
      go_simp
      refine hK.out _ _ (fun _ => K1.out _ ((Below.refl _ _).alloc (Nat.le_refl _) _).drew) (fun hHeld2 => ?_)
      (try simp only [Act.put])
      clear hHeld K hK
      refine wpAnyM_one (i := 23) (o := _) (by kernel_rfl) rfl (fun K hK => ?_)
      refine step_append_nodeN (B := W.heap.size) (H := w1.heap.size) (by rfl) _ _ (by rfl) (.slice oa vis.length oc) (.slice none 0 0) us (bareN xs vis) ⟨fl, ls, []⟩ (by rfl) (by rfl) (Blk.made w1 71 #[.bool fl, .string ls, .slice none 0 0]).drew (HM1.out.out.alloc _).drew vis.length (bareN_len xs vis) (by omega) (by have h1 := HW1.out; simp [World.drew]; omega) (RowI.nil _ _) (by simp) ?_
      intro g7 c7 w7 ho7 hk7 _
      have HE7 := Shh.mk ((HM1.out.alloc (.cells #[.bool fl, .string ls, .slice none 0 0] 71)).drew.push (k := k) (by rw [HXX.out]) ho7 hk7)
      have hbl7 := ((HM1.out.blk.alloc (.cells #[.bool fl, .string ls, .slice none 0 0] 71)).drew).apart hk7 (fun e => row_blk HM1.out.blk (by decide) HM1.out.out.row gr e rfl)
      have n7 : w7.cell? ⟨gr, 2, none⟩ = some (.slice oa vis.length oc) := hbl7.cells 2
      have m7 := hbl7.marks 2
      have hbW := (hk7.below (B := W.heap.size) (fun i hi e => by have := (World.ownsRow.lt HM1.out.out.row i e).1; omega) (by have h1 := HW1.out; simp [World.drew]; omega))
      have K7 := Shh.mk (show w7.cell? ⟨gr, 0, none⟩ = some (.slice (some ⟨bn, on, none⟩) xs.length nc) ∧ w7.cell? ⟨gr, 2, none⟩ = some (.slice oa vis.length oc) ∧ w7.cell? ⟨bn, on + k * 3, none⟩ = some (.bool fl) ∧ w7.cell? ⟨bn, on + k * 3 + 1, none⟩ = some (.string ls) from
        ⟨hbl7.cells 0, n7, (hbW.cell (p := ⟨bn, on + k * 3, none⟩) hbn).trans (hHeld2 (by decide)).2.2.1, (hbW.cell (p := ⟨bn, on + k * 3 + 1, none⟩) hbn).trans (hHeld2 (by decide)).2.2.2⟩)
      clear ho7 hk7 hbl7 hbW
      refine hK.out _ _ (fun _ => K7.out) (fun _ => ?_)
      (try simp only [Act.put])
      clear hHeld2 K hK
      refine wpAnyM_one (i := 24) (o := _) (by kernel_rfl) rfl (fun K hK => ?_)
      go_simp
      refine hK.out _ _ (fun h => absurd h (by decide)) (fun _ => ?_)
      (try simp only [Act.put])
      clear K hK
      refine wpAnyM_one (i := 25) (o := _) (by kernel_rfl) rfl (fun K hK => ?_)
      go_simp
      refine hK.out _ _ (fun h => absurd h (by decide)) (fun _ => ?_)
      (try simp only [Act.put])
      clear K hK
      refine wpAnyM_one (i := 26) (o := _) (by kernel_rfl) rfl (fun K hK => ?_)
      go_simp
      refine hK.out _ _ (fun h => absurd h (by decide)) (fun _ => ?_)
      refine wpAnyM_done (by kernel_rfl) ?_ _
      (try simp only [Act.put])
      have HS1 := Shh.mk (show RSt W gr (.slice (some ⟨bn, on, none⟩) xs.length nc) xs (w7.setCell ⟨gr, 2, none⟩ (.slice (some ⟨g7, 0, none⟩) (vis.length + 1) c7)) (vis ++ [k]) from ⟨_, _, _, HE7.out⟩)
      clear m7 n7 K hK
      go_wp2
      have HDN2 := Shh.mk (show ∀ z ∈ ns, 0 ≤ z ∧ z < (k : Int) from fun z hz => HDN.out z (by rw [HXX.out]; exact hz))
      have HNK2 := Shh.mk (show stN (xs.map entD) k = ns.map Int.toNat by rw [HNK.out, HXX.out])
      clear HE7 HM1 HM K1 K7 HW1
      go_loopw [4, 5] (fun z _ wr => ∃ i : Nat, i ≤ ns.length ∧ z = .int .i64 i ∧ Shh (RSt W gr (.slice (some ⟨bn, on, none⟩) xs.length nc) xs wr (dfsL (dfs (stN (xs.map entD)) f) ((stN (xs.map entD) k).take i) (vis ++ [k])))) (fun z _ _ => ns.length - (intOf z).toNat)
      case atStart => exact ⟨0, Nat.zero_le _, rfl, ⟨by rw [List.take_zero]; exact HS1.out⟩⟩
      case round =>
        obtain ⟨i, hil, rfl, hst⟩ := hrel
        obtain ⟨V, hV⟩ : ∃ V, dfsL (dfs (stN (xs.map entD)) f) ((stN (xs.map entD) k).take i) (vis ++ [k]) = V := ⟨_, rfl⟩
        have HFV := Shh.mk (show Fit xs.length V by rw [← hV]; exact HFIT.out i)
        have HVE := Shh.mk hV
        rw [hV] at hst
        clear hV
        have HST := hst
        obtain ⟨vp2, vo2, us2, hm2⟩ := hst.out
        obtain ⟨g2, cap2, rfl⟩ := hm2.placeForm (by omega)
        have HM2 := Shh.mk hm2
        have c0 := hm2.blk.cells 0
        have c1 := hm2.blk.cells 1
        obtain ⟨ad, cd, e1, -, -, hc3⟩ := HX.out.below hm2.below
        obtain ⟨b3, o3, rfl, hb3, hc4⟩ := hc3 (by omega)
        simp only [Value.slice.injEq, Option.some.injEq, Addr.mk.injEq] at e1
        obtain ⟨⟨rfl, rfl, -⟩, -, rfl⟩ := e1
        obtain ⟨-, -, u, n2, hu⟩ := hc4 k hk
        rw [HXX.out] at hu
        simp only at hu
        have hul := hu.len
        obtain ⟨ua, uc, rfl, hu1, hu2, hu3, hu4⟩ := hu
        clear hm2 hc4 hc3 hst hu4
        by_cases hi : i < ns.length
        · obtain ⟨bu, ou, rfl, hbu, hcu⟩ := hu3 (by omega)
          have cu := hcu i hi
          have hzz : 0 ≤ ns.getD i 0 ∧ ns.getD i 0 < (k : Int) := by rw [List.getD_eq_getElem?_getD, List.getElem?_eq_getElem hi]; exact HDN2.out _ (List.getElem_mem hi)
          obtain ⟨z, hz⟩ : ∃ z, ns.getD i 0 = z := ⟨_, rfl⟩
          have HTK := Shh.mk (show (stN (xs.map entD) k).take (i + 1) = (stN (xs.map entD) k).take i ++ [z.toNat] from by
            rw [HNK2.out, List.take_add_one, List.getElem?_map, List.getElem?_eq_getElem hi]
            rw [List.getD_eq_getElem?_getD, List.getElem?_eq_getElem hi] at hz
            simp at hz
            rw [← hz]
            rfl)
          rw [hz] at cu hzz
          obtain ⟨j, rfl⟩ : ∃ j : Nat, z = (j : Int) := ⟨z.toNat, by omega⟩
          rw [Int.toNat_natCast] at HTK
          have hjk : j < k := by omega
          have hjn : j < xs.length := by omega
          obtain ⟨p2, -⟩ := HM2.out.placeAt hjn
          have HSN := Shh.mk (dfsL_snoc (visit := dfs (stN (xs.map entD)) f) ((stN (xs.map entD) k).take i) j (vis ++ [k]))
          rw [HVE.out] at HSN
          clear hcu hz
          by_cases hjv : j ∈ V
          · have HSN2 := Shh.mk (show dfsL (dfs (stN (xs.map entD)) f) ((stN (xs.map entD) k).take (i + 1)) (vis ++ [k]) = V by rw [HTK.out, HSN.out, if_pos hjv])
            rw [place_in hjv] at p2
            obtain ⟨P, hP⟩ : ∃ P : Nat, V.idxOf j = P := ⟨_, rfl⟩
            rw [hP] at p2
            have hPn : ¬ (P : Int) < 0 := by omega
            clear hP
            go_wp2_with fail
            go_roundw
            case rel => exact ⟨i + 1, by omega, by go_num, ⟨by rw [HSN2.out]; exact HST.out⟩⟩
            case measure => simp [intOf]; omega
          · have HSN2 := Shh.mk (show dfsL (dfs (stN (xs.map entD)) f) ((stN (xs.map entD) k).take (i + 1)) (vis ++ [k]) = dfs (stN (xs.map entD)) f V j by rw [HTK.out, HSN.out, if_neg hjv])
            rw [place_out hjv] at p2
            go_wp2_with (go_at_call 136; refine (HREC.out j V wr (by omega) hjn hjv HFV.out HST.out).mono ?_; rintro e w9 ⟨⟨vr, rfl⟩, hst9⟩; have HST9 := Shh.mk hst9; clear hst9)
            go_roundw
            case rel => exact ⟨i + 1, by omega, by go_num, ⟨by rw [HSN2.out]; exact HST9.out⟩⟩
            case measure => simp [intOf]; omega
        · obtain rfl : i = ns.length := by omega
          have HEND := Shh.mk (show V = dfs (stN (xs.map entD)) (f + 1) vis k by
            rw [← HVE.out, List.take_of_length_le (by rw [HNK2.out]; simp)]
            rfl)
          go_wp2_with fail
          go_end0
          exact ⟨⟨_, rfl⟩, by rw [← HEND.out]; exact HST.out⟩
end Go.Proofs.YtokfkofclpajfaaDoor
