/-
  Reading a lexicon: the program's answer.
-/
import Derived.Test.YtagabcddonmdgaaRD
import Derived.Test.YtagabcddonmdgaaRC
namespace Go.Proofs.Ytagabcddonmdgaa
open Go.RowKit Go.Shelf
attribute [local go_sem] Oper.semAt_some

def chopB (x : ByteArray) : ByteArray := txt (chop x.data.toList)
theorem readW_lines (s : ByteArray) : (linesB s).map chopB = readW s := by
  unfold linesB readW
  rw [List.map_map]
  exact List.map_congr_left fun x _ => by show txt (chop (txt x).data.toList) = _; rw [txt_list]
set_option maxHeartbeats 1000000 in
theorem lines_any (s : ByteArray) (W : World) : Calls Try.prog 34 #[.string s] W fun e w' => e = .returned (.func (.func 65) #[] #[.pointer (some ⟨W.heap.size, 0, none⟩)]) ∧ w' = W.alloc (.cells #[.string s] 9) := by
  go_enter Try.func34, Try.ntmps34
  go_wp2
  go_ret
  exact ⟨rfl, rfl⟩
theorem chop_any (x : ByteArray) (W : World) (hx : x.size ≤ 1048576) : Calls Try.prog 35 #[.string x, .string ⟨#[10]⟩] W fun e w' => e = .returned (.string (chopB x)) ∧ w' = W :=
  Try.strings_TrimSuffix x ⟨#[10]⟩ W (by omega)
theorem boxed_off {W : World} {B C : Nat} {t : TypeId} {v u : Value} (h : Boxed W B t v) (hC : B ≠ C) : Boxed (W.setCell ⟨C, 0, none⟩ u) B t v := (Below.heap_setCell W ⟨C, 0, none⟩ u B hC).trans h

/-- One string more on a row of the call's own, at a step of a region that draws, inside a fence. -/
theorem stepIn_append_str {F : Fence} {n : Nat} {ops : Array Oper} {o : Oper} {a : Act} {K : Act → World → Prop} {Q : Exit → Act → World → Prop} {E : Prop} {B G : Nat} {W1 : World} (hgd : o.guard = none) (s x : Operand)
    (ho : o.op = .call { callee := .builtin .append, args := #[s, x], argTypes := #[31, 31] })
    (v : Value) (us : List ByteArray) (y : ByteArray) (hs : a.eval s = v) (hx : a.eval x = .slice (some ⟨G, 0, none⟩) 1 1) (hcell : W1.cell? ⟨G, 0, none⟩ = some (.string y))
    (hown : W1.ownsRow B 9 1 v us.length (us.map Value.string)) (hlen : us.length ≤ 1100000) (hB : B ≤ W1.heap.size)
    (h : ∀ g cap w', w'.ownsRow B 9 1 (.slice (some ⟨g, 0, none⟩) (us.length + 1) cap) (us.length + 1) (us.map Value.string ++ [.string y]) → W1.grownBy w' v.ownBlock → K (a.put o.dst (.slice (some ⟨g, 0, none⟩) (us.length + 1) cap)) w') :
    if Region.wanted o (yielded ops a.tmps) = true then Oper.wpIn F n Try.prog o a W1 K Q else E := by
  obtain ⟨i0, hi, hz0, hz1, hz2⟩ := info_parts info_str
  have hw : Region.wanted o (yielded ops a.tmps) = true := by simp [Region.wanted, hgd]
  rw [if_pos hw]
  obtain ⟨v', w', hrun, r1, r2, -⟩ := run_append_own (P := Try.prog) W1 B 31 o.type 9 i0 (.string ByteArray.empty) 1 16 Try.underlying31 hi hz0 hz1 hz2 rfl (by decide) v us.length (us.map Value.string) hown ⟨G, 0, none⟩ 1 1 [.string y] rfl
    (fun j u hu => by
      cases j with
      | zero => simp at hu; subst hu; simpa [Addr.add] using hcell
      | succ j => simp at hu) (fun u hu => by simp at hu; subst hu; rfl) (by unfold maxLen; omega) (by omega) hB
  obtain ⟨g, cap, rfl⟩ := ownsRow_succ r1
  unfold Oper.wpIn
  refine ⟨?_, ?_⟩
  · simp [Oper.about, ho, resolve, Target.leads, Sem.run_pure]
  · rw [Oper.semAt_plain F _ _ (by rw [ho]; intro c hc'; cases hc')]
    simp [execOp, ho, resolve, invoke, builtin, hs, hx, hrun, Result.andThen]
    exact h g cap w' r1 r2

/-- Between two lines: the answer's box, the lexicon's box with the words that were read, and what lay below. -/
def ReadInv (W : World) (pre : List ByteArray) (W' : World) : Prop :=
  ((∃ v, Boxed W' (W.heap.size + 1) 33 v ∧ W'.ownsRow (W.heap.size + 3) 9 1 v (pre.map chopB).length ((pre.map chopB).map Value.string) ∧ True) ∧ Boxed W' W.heap.size 33 (.slice none 0 0)) ∧ (Below W.heap.size W W' ∧ W.heap.size + 3 ≤ W'.heap.size)
theorem readInv_own (W : World) (B : Nat) (hB : W.heap.size ≤ B) : OwnFrom B (ReadInv W) :=
  OwnFrom.and (Own.from (fun a X Y row hs hg hr => ⟨holdsRow_own (W.heap.size + 3) (W.heap.size + 1) 33 9 1 (fun pre : List ByteArray => (pre.map chopB).length) (fun pre => (pre.map chopB).map Value.string) (fun _ _ => True) a X Y row hs.1 hg hr,
      hs.2.kept hg (fun e => by obtain ⟨o, ho, hc⟩ := hr _ e.symm; rw [show X.heap[W.heap.size]? = _ from hs.2] at ho; cases ho; cases hc)⟩) _) (OwnFrom.and (ownFrom_below (Nat.le_refl _) hB) (fun _ _ _ _ h hg _ => Nat.le_trans h hg.size))
theorem readInv_cell {W X : World} {pre : List ByteArray} (u : Value) (h : ReadInv W pre X) : ReadInv W pre (X.setCell ⟨W.heap.size + 1 + 1, 0, none⟩ u) := by
  obtain ⟨⟨⟨v, hv, hrow, -⟩, hR⟩, hB, hS⟩ := h
  exact ⟨⟨⟨v, boxed_off hv (by omega), ownsRow_setCell_below hrow (by show W.heap.size + 1 + 1 < W.heap.size + 3; omega) _, trivial⟩, boxed_off hR (by omega)⟩, hB.setCell (p := ⟨W.heap.size + 1 + 1, 0, none⟩) (by show W.heap.size ≤ W.heap.size + 1 + 1; omega) _, Nat.le_trans hS (KeepsOthers.setCell X _ _).size⟩
theorem readInv_step {W W' w1 : World} {B : Nat} {pre : List ByteArray} {x : ByteArray} {v : Value} {g cap : Nat} (hv : Boxed W' (W.heap.size + 1) 33 v) (hrow : W'.ownsRow (W.heap.size + 3) 9 1 v (pre.map chopB).length ((pre.map chopB).map Value.string))
    (hR : Boxed W' W.heap.size 33 (.slice none 0 0)) (hB : Below W.heap.size W W') (hS : W.heap.size + 3 ≤ W'.heap.size)
    (hown : w1.ownsRow (W.heap.size + 3) 9 1 (.slice (some ⟨g, 0, none⟩) ((pre.map chopB).length + 1) cap) ((pre.map chopB).length + 1) ((pre.map chopB).map Value.string ++ [.string (chopB x)]))
    (hgrow : (W'.drew.alloc (.cells #[.string (chopB x)] 9)).grownBy w1 v.ownBlock) :
    Boxed w1 (W.heap.size + 1) 33 v ∧ KeepsFrom B W' (w1.setCell ⟨W.heap.size + 1, 0, none⟩ (.slice (some ⟨g, 0, none⟩) ((pre.map chopB).length + 1) cap)) ∧
      (w1.setCell ⟨W.heap.size + 1, 0, none⟩ (.slice (some ⟨g, 0, none⟩) ((pre.map chopB).length + 1) cap)).heap[W.heap.size + 1 + 1]? = W'.heap[W.heap.size + 1 + 1]? ∧
      ReadInv W (pre ++ [x]) (w1.setCell ⟨W.heap.size + 1, 0, none⟩ (.slice (some ⟨g, 0, none⟩) ((pre.map chopB).length + 1) cap)) := by
  have hvd : Boxed W'.drew (W.heap.size + 1) 33 v := hv
  have hrd : W'.drew.ownsRow (W.heap.size + 3) 9 1 v (pre.map chopB).length ((pre.map chopB).map Value.string) := hrow
  have hblk : ∀ k, v.ownBlock = some k → W.heap.size + 3 ≤ k := own_block hrow
  obtain ⟨h1, h2, -, h4, h5⟩ := hvd.appended (n₀ := W.heap.size) (by decide) (own_lower hrd (by omega)) (by show W.heap.size ≤ W'.heap.size; omega) (by omega) (own_lower hown (by omega)) hgrow
  have hk : KeepsOthers W' (w1.setCell ⟨W.heap.size + 1, 0, none⟩ (.slice (some ⟨g, 0, none⟩) ((pre.map chopB).length + 1) cap)) := (KeepsOthers.drew W').trans h4
  have hs2 := hk.size
  have hold : ∀ b, b < W.heap.size + 3 → b ≠ W.heap.size + 1 → (w1.setCell ⟨W.heap.size + 1, 0, none⟩ (.slice (some ⟨g, 0, none⟩) ((pre.map chopB).length + 1) cap)).heap[b]? = W'.heap[b]? := fun b hb hne =>
    (Below.heap_setCell w1 ⟨W.heap.size + 1, 0, none⟩ _ b hne).trans ((hgrow.block b (by rw [World.size_alloc]; show b < W'.heap.size + 1; omega) (fun e => by have := hblk b e.symm; omega)).trans (Below.heap_alloc W'.drew _ b (by show b < W'.heap.size; omega)))
  refine ⟨h1, hk.from _, hold _ (by omega) (by omega), ⟨⟨⟨_, h2, ?_, trivial⟩, (hold _ (by omega) (by omega)).trans hR⟩, (hB.drew).trans h5, by omega⟩⟩
  have e1 : ((pre ++ [x]).map chopB).length = (pre.map chopB).length + 1 := by simp
  have e2 : ((pre ++ [x]).map chopB).map Value.string = (pre.map chopB).map Value.string ++ [.string (chopB x)] := by simp
  rw [e1, e2]
  exact ownsRow_setCell_below hown (by show W.heap.size + 1 < W.heap.size + 3; omega) _

/-- How the program leaves: the answer in its box, the block of deferred calls shut. -/
theorem leaves_read {W w1 : World} {tmps : Array Value} {D n : Nat} {u : Value} {b : Bool} {us : List ByteArray} {R : Ending → World → Prop} (hR : Boxed w1 W.heap.size 33 u) (hK : w1.heap[D]? = some (.deferred (some []))) (hD : W.heap.size < D)
    (ht : tmps[3]?.getD undef = .bool b) (ht2 : tmps[2]?.getD undef = .pointer (some ⟨W.heap.size, 0, none⟩)) (ho : OwnS W.heap.size w1 u us) (hB : Below W.heap.size W w1)
    (h : ∀ w', OwnS W.heap.size w' u us → Below W.heap.size W w' → R (.returned (.tuple #[.agg #[u], .bool b])) w') :
    bodyPostM Fence.wide n Try.prog Try.f12 R .ret { tmps, defers := [{ target := .collected D, args := #[] }] } w1 := by
  have hR2 : Boxed (w1.putObj D (.deferred none)) W.heap.size 33 u := (World.putObj_heap_other (by omega)).trans hR
  have c := hR2.cell
  refine ⟨by simp, .inl ⟨_, _, rfl, run_takeDeferred hK, .tuple #[.agg #[u], .bool b], ?_, ?_⟩⟩
  · simp [results, Try.results12, go_sem, c, ht, ht2]
  · exact h _ (ownsRow_putObj ho _ hK rfl) (hB.trans (belowK_b (w := W) (Nat.le_refl _) w1 D _ _ (by omega) hK rfl rfl))

set_option maxRecDepth 100000 in
set_option maxHeartbeats 4000000 in
theorem implReadLexicon_any (s : ByteArray) (W : World) (hs : s.size ≤ 1048576) :
    Calls Try.prog 12 #[.string s] W fun e w' => ∃ v, e = .returned (.tuple #[.agg #[v], .bool (readOut s).2]) ∧ OwnS W.heap.size w' v (readOut s).1 ∧ Below W.heap.size W w' := by
  refine (callsIn_wide (n := 5)).1 ?_
  refine callsIn_of_wp_marks Try.func12 rfl trivial ?_ rfl
  simp only [Try.ntmps12, List.size_toArray, List.length_cons, List.length_nil, Nat.reduceAdd, Nat.reduceSub, Array.replicate_succ, Array.replicate_zero, List.push_toArray, List.append_toArray, List.nil_append, List.cons_append]
  gi_wp2
  refine ⟨trivial, (callsIn_wide.2 (lines_any s _)).mono ?_⟩
  rintro e w1 ⟨rfl, rfl⟩
  gi_wp2
  have bR := Boxed.new W 33 (.slice none 0 0)
  have bL := Boxed.new (W.alloc (.cells #[.slice none 0 0] 33)) 33 (.slice none 0 0)
  have bC := Boxed.new ((W.alloc (.cells #[.slice none 0 0] 33)).alloc (.cells #[.slice none 0 0] 33)) 9 (.string s)
  have hB0 := (((Below.refl W.heap.size W).alloc (Nat.le_refl _) (.cells #[.slice none 0 0] 33)).alloc (by simp) (.cells #[.slice none 0 0] 33)).alloc (by simp; omega) (.cells #[.string s] 9)
  simp only [World.size_alloc] at bL bC
  have bR2 := (bR.alloc (.cells #[.slice none 0 0] 33)).alloc (.cells #[.string s] 9)
  have bL2 := bL.alloc (.cells #[.string s] 9)
  clear bR bL
  obtain ⟨V, hV⟩ : ∃ V, ((W.alloc (.cells #[.slice none 0 0] 33)).alloc (.cells #[.slice none 0 0] 33)).alloc (.cells #[.string s] 9) = V := ⟨_, rfl⟩
  have hVs : V.heap.size = W.heap.size + 3 := by rw [← hV]; simp
  rw [hV] at bC bR2 bL2 hB0 ⊢
  clear hV
  have hVle : W.heap.size ≤ V.heap.size := by omega
  refine range_cell (F := Fence.wide) rfl (by omega) (gf := 65) (lb := #[.pointer (some ⟨W.heap.size + 1 + 1, 0, none⟩)]) rfl trivial (enters_of Try.func65 (by kernel_rfl) rfl) (C := W.heap.size + 1 + 1) (by omega)
    (lines_iter _ _ s _ hs bC) rfl
    (ReadInv W) (fun _ _ _ => False) (readInv_own W _ hVle) (fun _ _ _ _ _ hs _ _ => hs) (fun _ _ u h => readInv_cell u h) ⟨⟨⟨_, bL2, World.ownsRow_nil _ _ _ _, trivial⟩, bR2⟩, hB0, by omega⟩
    (fun x => { tmps := #[.string s, undef, .pointer (some ⟨W.heap.size, 0, none⟩), .bool false, .pointer (some ⟨W.heap.size + 1, 0, none⟩), .string x, .string s, .func (.func 65) #[] #[.pointer (some ⟨W.heap.size + 1 + 1, 0, none⟩)], .string x, undef, undef, undef, undef, undef, undef, undef, undef, undef, undef, undef, undef, undef, undef, undef, undef, undef, undef], defers := [] })
    ?assign ?body ?done ?stop
  case assign =>
    intro l x W' K hK
    gi_wp2
    exact hK
  case body =>
    rintro l pre x W' ⟨⟨⟨v, hv, hrow, -⟩, hR⟩, hB, hS⟩ hpre
    gi_wp2
    have hc := hv.cell
    have hf := hv.frozen
    have hca := (hv.alloc (.cells #[.string (chopB x)] 9)).cell
    have hx : x.size ≤ 1048576 := by
      have hm : x ∈ linesB s := by
        obtain ⟨r, hr⟩ := hpre
        rw [← hr]
        simp
      unfold linesB at hm
      obtain ⟨y, hy, rfl⟩ := List.mem_map.1 hm
      have := linesL_each hy
      rw [txt_size]
      rw [size_list] at this
      omega
    have hlen : (pre.map chopB).length ≤ 1100000 := by
      have h1 := hpre.length_le
      have h2 := linesL_count _ s.data.toList (Nat.le_refl _)
      have h3 : (linesB s).length = (linesL s.data.toList).length := by unfold linesB; rw [List.length_map]
      rw [size_list] at h2
      rw [List.length_append] at h1
      rw [List.length_map]
      omega
    have HF := Shh.mk (fun (B : Nat) g cap (w1 : World) hown hgrow => readInv_step (B := B) (x := x) (g := g) (cap := cap) (w1 := w1) hv hrow hR hB hS hown hgrow)
    clear hR hB
    refine region_round rfl (by kernel_rfl) (by kernel_rfl) ?_
    refine wpAnyIn_take (i := 0) (v := .pointer (some ⟨W.heap.size + 1, 0, none⟩)) rfl rfl (by kernel_rfl) (by kernel_rfl) (by kernel_rfl) (fun _ _ _ h => h) ⟨Or.inl ⟨by rfl, fun w => by go_simp⟩, fun _ => rfl⟩ ?_
    refine wpAnyIn_take (i := 2) (v := .string x) rfl rfl (by kernel_rfl) (by kernel_rfl) (by kernel_rfl) (fun _ _ _ h => h) ⟨Or.inl ⟨by rfl, fun w => by go_simp⟩, fun _ => rfl⟩ ?_
    refine wpAnyIn_ready (rs := [1, 3]) (by kernel_rfl) (by simp) ?_
    refine AllReadyIn.cons rfl (fun K hK => ?_) (AllReadyIn.cons rfl (fun K hK => ?_) AllReadyIn.nil)
    · go_simp
      refine hK _ _ ?_
      clear hK K
      refine wpAnyIn_ready (rs := [3]) (by kernel_rfl) (by simp) (AllReadyIn.cons rfl (fun K hK => ?_) AllReadyIn.nil)
      go_simp
      refine ⟨trivial, (callsIn_wide.2 (chop_any x _ hx)).mono ?_⟩
      rintro e w1 ⟨rfl, rfl⟩
      refine hK _ _ ?_
      clear hK K
      refine wpAnyIn_ready (rs := [4]) (by kernel_rfl) (by simp) (AllReadyIn.cons rfl (fun K hK => ?_) AllReadyIn.nil)
      go_simp
      refine hK _ _ ?_
      clear hK K
      refine wpAnyIn_ready (rs := [5]) (by kernel_rfl) (by simp) (AllReadyIn.cons rfl (fun K hK => ?_) AllReadyIn.nil)
      refine stepIn_append_str rfl _ _ rfl v (pre.map chopB) (chopB x) rfl rfl (cell_one_new _ _ _ 0 _ rfl) (World.ownsRow.alloc hrow _) hlen (by simp; omega) (fun g cap w1 hown hgrow => ?_)
      refine hK _ _ ?_
      clear hK K
      obtain ⟨q1, q2, q3, q4⟩ := HF.out V.heap.size g cap w1 hown hgrow
      have hc1 := q1.cell
      have hf1 := q1.frozen
      simp only [List.length_map] at q2 q3 q4
      have Q2 := Shh.mk q2
      have Q3 := Shh.mk q3
      have Q4 := Shh.mk q4
      clear q2 q3 q4 hown hgrow
      refine wpAnyIn_take (i := 6) (v := .pointer (some ⟨W.heap.size + 1, 0, none⟩)) rfl rfl (by kernel_rfl) (by kernel_rfl) (by kernel_rfl) (fun _ _ _ h => h) ⟨Or.inl ⟨by rfl, fun w => by go_simp⟩, fun _ => rfl⟩ ?_
      refine wpAnyIn_ready (rs := [7]) (by kernel_rfl) (by simp) (AllReadyIn.cons rfl (fun K hK => ?_) AllReadyIn.nil)
      go_simp
      refine hK _ _ ?_
      clear hK K
      refine wpAnyIn_done (by kernel_rfl) ?_ _
      exact ⟨Q2.out, Q3.out, Q4.out⟩
    · go_simp
      refine ⟨trivial, (callsIn_wide.2 (chop_any x _ hx)).mono ?_⟩
      rintro e w1 ⟨rfl, rfl⟩
      refine hK _ _ ?_
      clear hK K
      refine wpAnyIn_ready (rs := [1, 4]) (by kernel_rfl) (by simp) ?_
      refine AllReadyIn.cons rfl (fun K hK => ?_) (AllReadyIn.cons rfl (fun K hK => ?_) AllReadyIn.nil)
      · go_simp
        refine hK _ _ ?_
        clear hK K
        refine wpAnyIn_ready (rs := [4]) (by kernel_rfl) (by simp) (AllReadyIn.cons rfl (fun K hK => ?_) AllReadyIn.nil)
        go_simp
        refine hK _ _ ?_
        clear hK K
        refine wpAnyIn_ready (rs := [5]) (by kernel_rfl) (by simp) (AllReadyIn.cons rfl (fun K hK => ?_) AllReadyIn.nil)
        refine stepIn_append_str rfl _ _ rfl v (pre.map chopB) (chopB x) rfl rfl (cell_one_new _ _ _ 0 _ rfl) (World.ownsRow.alloc hrow _) hlen (by simp; omega) (fun g cap w1 hown hgrow => ?_)
        refine hK _ _ ?_
        clear hK K
        obtain ⟨q1, q2, q3, q4⟩ := HF.out V.heap.size g cap w1 hown hgrow
        have hc1 := q1.cell
        have hf1 := q1.frozen
        simp only [List.length_map] at q2 q3 q4
        have Q2 := Shh.mk q2
        have Q3 := Shh.mk q3
        have Q4 := Shh.mk q4
        clear q2 q3 q4 hown hgrow
        refine wpAnyIn_take (i := 6) (v := .pointer (some ⟨W.heap.size + 1, 0, none⟩)) rfl rfl (by kernel_rfl) (by kernel_rfl) (by kernel_rfl) (fun _ _ _ h => h) ⟨Or.inl ⟨by rfl, fun w => by go_simp⟩, fun _ => rfl⟩ ?_
        refine wpAnyIn_ready (rs := [7]) (by kernel_rfl) (by simp) (AllReadyIn.cons rfl (fun K hK => ?_) AllReadyIn.nil)
        go_simp
        refine hK _ _ ?_
        clear hK K
        refine wpAnyIn_done (by kernel_rfl) ?_ _
        exact ⟨Q2.out, Q3.out, Q4.out⟩
      · go_simp
        refine hK _ _ ?_
        clear hK K
        refine wpAnyIn_ready (rs := [1]) (by kernel_rfl) (by simp) (AllReadyIn.cons rfl (fun K hK => ?_) AllReadyIn.nil)
        go_simp
        refine hK _ _ ?_
        clear hK K
        refine wpAnyIn_ready (rs := [5]) (by kernel_rfl) (by simp) (AllReadyIn.cons rfl (fun K hK => ?_) AllReadyIn.nil)
        refine stepIn_append_str rfl _ _ rfl v (pre.map chopB) (chopB x) rfl rfl (cell_one_new _ _ _ 0 _ rfl) (World.ownsRow.alloc hrow _) hlen (by simp; omega) (fun g cap w1 hown hgrow => ?_)
        refine hK _ _ ?_
        clear hK K
        obtain ⟨q1, q2, q3, q4⟩ := HF.out V.heap.size g cap w1 hown hgrow
        have hc1 := q1.cell
        have hf1 := q1.frozen
        simp only [List.length_map] at q2 q3 q4
        have Q2 := Shh.mk q2
        have Q3 := Shh.mk q3
        have Q4 := Shh.mk q4
        clear q2 q3 q4 hown hgrow
        refine wpAnyIn_take (i := 6) (v := .pointer (some ⟨W.heap.size + 1, 0, none⟩)) rfl rfl (by kernel_rfl) (by kernel_rfl) (by kernel_rfl) (fun _ _ _ h => h) ⟨Or.inl ⟨by rfl, fun w => by go_simp⟩, fun _ => rfl⟩ ?_
        refine wpAnyIn_ready (rs := [7]) (by kernel_rfl) (by simp) (AllReadyIn.cons rfl (fun K hK => ?_) AllReadyIn.nil)
        go_simp
        refine hK _ _ ?_
        clear hK K
        refine wpAnyIn_done (by kernel_rfl) ?_ _
        exact ⟨Q2.out, Q3.out, Q4.out⟩
  case done =>
    rintro D W' hD ⟨⟨⟨v, hv, hrow, -⟩, hR⟩, hB, hS⟩ hK
    have hown : OwnS (W.heap.size + 3) W' v ((linesB s).map chopB) := hrow
    rw [readW_lines] at hown
    have hz : ∀ u ∈ readW s, u.size ≤ maxLen := fun u hu => by have := readW_each hu; unfold maxLen; omega
    have hDl : D < W'.heap.size := (Array.getElem?_eq_some_iff.1 hK).1
    have hc := hv.cell
    obtain ⟨a, cap, rfl, -⟩ := own_form hown
    cases hok : okL (readW s)
    · have HO := Shh.mk (readOut_bad hok)
      have HK := Shh.mk hok
      clear hok
      gi_wp2
      refine ⟨trivial, (callsIn_wide.2 (valid_on HK.out _ hown.strs hz)).mono ?_⟩
      rintro e w1 ⟨rfl, hb1⟩
      have hR1 : Boxed w1 W.heap.size 33 (.slice none 0 0) := (hb1.block W.heap.size (by omega)).trans hR
      have hK1 : w1.heap[D]? = some (.deferred (some [])) := (hb1.block D hDl).trans hK
      have c1 := hR1.cell
      have f1 := hR1.frozen
      have hK2 : (w1.setCell ⟨W.heap.size, 0, none⟩ (.slice none 0 0)).heap[D]? = some (.deferred (some [])) := (Below.heap_setCell w1 ⟨W.heap.size, 0, none⟩ _ D (by show D ≠ W.heap.size; omega)).trans hK1
      gi_wp2
      refine ⟨trivial, ?_⟩
      gi_wp2
      refine leaves_read (hR1.set _) hK2 (by omega) rfl rfl (show OwnS _ _ _ [] from World.ownsRow_nil _ _ _ _) ((hB.trans (hb1.mono hB.size)).setCell (p := ⟨W.heap.size, 0, none⟩) (Nat.le_refl _) _) ?_
      intro w' ho hb
      rw [HO.out]
      exact ⟨_, rfl, ho, hb⟩
    · have HK := Shh.mk hok
      have hsm := okL_small hok
      clear hok
      gi_wp2
      refine ⟨trivial, (callsIn_wide.2 (valid_on HK.out _ hown.strs hz)).mono ?_⟩
      rintro e w1 ⟨rfl, hb1⟩
      have hv1 : Boxed w1 (W.heap.size + 1) 33 (.slice a (readW s).length cap) := (hb1.block _ (by omega)).trans hv
      have hR1 : Boxed w1 W.heap.size 33 (.slice none 0 0) := (hb1.block W.heap.size (by omega)).trans hR
      have hK1 : w1.heap[D]? = some (.deferred (some [])) := (hb1.block D hDl).trans hK
      have ho1 := OwnS.kept hown hb1
      have hB1 := hB.trans (hb1.mono hB.size)
      have hD1 : D < w1.heap.size := (Array.getElem?_eq_some_iff.1 hK1).1
      have c1 := hv1.cell
      gi_wp2
      refine ⟨trivial, (callsIn_wide.2 (implLexiconText_any _ ho1.strs hz (by omega))).mono ?_⟩
      rw [lexOut_yes HK.out]
      rintro e w2 ⟨rfl, hb2⟩
      have hv2 : Boxed w2 (W.heap.size + 1) 33 (.slice a (readW s).length cap) := (hb2.block _ hv1.lt).trans hv1
      have hR2 : Boxed w2 W.heap.size 33 (.slice none 0 0) := (hb2.block W.heap.size hR1.lt).trans hR1
      have hK2 : w2.heap[D]? = some (.deferred (some [])) := (hb2.block D hD1).trans hK1
      have ho2 := OwnS.kept ho1 hb2
      have hB2 := hB1.trans (hb2.mono hB1.size)
      have c2 := hv2.cell
      have cr := hR2.cell
      have fr := hR2.frozen
      by_cases ht : txt (lexTo (readW s) (readW s).length) = s
      · have HO := Shh.mk (readOut_yes HK.out ht)
        rw [ht]
        have hK3 : (w2.setCell ⟨W.heap.size, 0, none⟩ (.slice a (readW s).length cap)).heap[D]? = some (.deferred (some [])) := (Below.heap_setCell w2 ⟨W.heap.size, 0, none⟩ _ D (by show D ≠ W.heap.size; omega)).trans hK2
        gi_wp2
        refine leaves_read (hR2.set _) hK3 (by omega) rfl rfl ((ho2.off (by omega) _ _).lower (by omega)) (hB2.setCell (p := ⟨W.heap.size, 0, none⟩) (Nat.le_refl _) _) ?_
        intro w' ho hb
        rw [HO.out]
        exact ⟨_, rfl, ho, hb⟩
      · have HO := Shh.mk (readOut_else ht)
        have hne := strNe ht
        have hK3 : (w2.setCell ⟨W.heap.size, 0, none⟩ (.slice none 0 0)).heap[D]? = some (.deferred (some [])) := (Below.heap_setCell w2 ⟨W.heap.size, 0, none⟩ _ D (by show D ≠ W.heap.size; omega)).trans hK2
        generalize txt (lexTo (readW s) (readW s).length) = T at *
        have hne2 : (T.toList == s.toList) = false := hne
        clear ht
        gi_wp2
        refine leaves_read (hR2.set _) hK3 (by omega) rfl rfl (show OwnS _ _ _ [] from World.ownsRow_nil _ _ _ _) (hB2.setCell (p := ⟨W.heap.size, 0, none⟩) (Nat.le_refl _) _) ?_
        intro w' ho hb
        rw [HO.out]
        exact ⟨_, rfl, ho, hb⟩
  case stop =>
    rintro D c pre W' _ _ h _
    exact h.elim
end Go.Proofs.Ytagabcddonmdgaa
