/-
  What a derivation makes of its stem: the program's derive and follow.
-/
import Derived.Test.YtilagppmljpclaaI7
import Derived.Laws.AppendOwn
namespace Go.Proofs.Ytilagppmljpclaa
open Go.RowKit Go.Lib

/-- The steps of some names. -/
def stepsOf (xs : List Aff) (us : List ByteArray) : List Value := us.map fun u => stepV (affG xs (idxOf xs u))
theorem stepsOf_len (xs : List Aff) (us : List ByteArray) : (stepsOf xs us).length = us.length := by simp [stepsOf]
theorem stepsOf_take {xs : List Aff} {us : List ByteArray} {k : Nat} (h : k < us.length) : stepsOf xs (us.take (k + 1)) = stepsOf xs (us.take k) ++ [stepV (affG xs (idxOf xs (strAt us k)))] := by
  unfold stepsOf
  rw [List.take_succ_eq_append_getElem h, List.map_append, List.map_singleton, strAt_eq h]
theorem stepsOf_at {xs : List Aff} {us : List ByteArray} {k : Nat} (h : k < us.length) : (stepsOf xs us)[k]? = some (stepV (affG xs (idxOf xs (strAt us k)))) := by
  unfold stepsOf
  rw [List.getElem?_map, List.getElem?_eq_getElem h, strAt_eq h]
  rfl
theorem info_step : (Try.prog.info? 186).map (fun i => (i.zero, i.size, i.bytes)) = some (some .nilFunc, 1, 8) := by kernel_rfl
/-- All affixes are as long as an affix is. -/
structure Shortish (xs : List Aff) : Prop where
  w : ∀ k, k < xs.length → (affG xs k).w.size ≤ maxLen
  a : ∀ k, k < xs.length → (affG xs k).a.size ≤ 1000

set_option maxRecDepth 100000 in
set_option maxHeartbeats 2000000 in
theorem follow_any {B : Nat} {v : Value} {xs : List Aff} {us : List ByteArray} (word : ByteArray) (W : World) (h : W.ownsRow B 186 1 v us.length (stepsOf xs us)) (hx : Shortish xs) (hi : ∀ u ∈ us, idxOf xs u < xs.length) (hw : word.size ≤ 1000) :
    Calls Try.prog 133 #[.string word, v] W fun e w' => e = .returned (retX (wordX xs us word)) ∧ Below W.heap.size W w' := by
  have HO := Shh.mk h
  have HX := Shh.mk hx
  have HI := Shh.mk hi
  obtain ⟨a, cap, rfl, h1, h2, h3⟩ := own_form h
  have hl : us.length ≤ 9223372036854775807 := by unfold maxLen at h2; omega
  have H3 := Shh.mk h3
  clear h h3 hx hi
  go_enter Try.func133, Try.ntmps133
  go_wp2
  go_loopw [0, 7, 8, 9, 12] (fun t _ _ _ i wr => ∃ (k : Nat) (wd : ByteArray), k ≤ us.length ∧ i = .int .i64 k ∧ t = .string wd ∧ Shh (wordX xs (us.drop k) wd = wordX xs us word) ∧ wd.size ≤ 1000 ∧ Shh (Below W.heap.size W wr)) (fun _ _ _ _ i _ => us.length - (intOf i).toNat)
  case atStart => exact ⟨0, word, Nat.zero_le _, rfl, rfl, ⟨by rw [List.drop_zero]⟩, hw, ⟨Below.refl _ _⟩⟩
  case round =>
    obtain ⟨k, wd, hk, rfl, rfl, he, hwd, hb⟩ := hrel
    by_cases hlt : k < us.length
    · obtain ⟨g, rfl, -, hgl⟩ := H3.out (by omega)
      have ck : wr.cell? ⟨g, k, none⟩ = some (stepV (affG xs (idxOf xs (strAt us k)))) := by
        rw [hb.out.cell (p := ⟨g, k, none⟩) hgl, World.ownsRow.cellAt (size := 1) HO.out k (by omega), stepsOf_at hlt]
      have hz := HI.out _ (strAt_mem hlt)
      have hzw := HX.out.w _ hz
      have hza := HX.out.a _ hz
      have HOK := Shh.mk (fun (nx : ByteArray) h => wordX_ok (xs := xs) (us := us) (word := wd) (nx := nx) hlt h)
      have HBAD := Shh.mk (fun (nx : ByteArray) (c : Int) h hc => wordX_bad (xs := xs) (us := us) (word := wd) (nx := nx) (c := c) hlt h hc)
      obtain ⟨y, hy⟩ : ∃ y, affG xs (idxOf xs (strAt us k)) = y := ⟨_, rfl⟩
      rw [hy] at ck hzw hza HOK HBAD
      obtain ⟨yn, yf, yw, ys, ya⟩ := y
      simp only at hzw hza
      obtain ⟨⟨nx, c⟩, hap⟩ : ∃ p, applyA ⟨yn, yf, yw, ys, ya⟩ wd = p := ⟨_, rfl⟩
      have HAP := Shh.mk (show applyX yf yw ys ya wd = (nx, c) from hap)
      rw [hap] at HOK HBAD
      have ck' : wr.cell? ⟨g, k, none⟩ = some (.func (.func 134) #[.agg #[.string yn, .bool yf, .string yw, .string ys, .string ya]] #[]) := ck
      clear ck hap hy hz
      go_wp2_with fail
      refine (applyI HAP.out _ hzw hza hwd).mono ?_
      rintro e w1 ⟨rfl, hb1⟩
      have HB1 := Shh.mk (hb.out.trans (hb1.mono hb.out.size))
      clear hb1 ck'
      unfold retX
      by_cases hc : c = 0
      · subst hc
        have HN := Shh.mk ((HOK.out nx rfl).symm.trans he.out)
        have hnx : nx.size ≤ 1000 := by have := applyX_ok_size HAP.out; omega
        go_wp2
        go_roundw
        case rel => exact ⟨k + 1, nx, by omega, by go_num, rfl, HN, hnx, HB1⟩
        case measure => simp [intOf]; omega
      · have HR := Shh.mk (he.out.symm.trans (HBAD.out nx c rfl hc))
        have hcb : (c != 0) = true := by simp [hc]
        clear hc
        go_wp2
        go_ret2
        exact ⟨by rw [HR.out]; rfl, HB1.out⟩
    · obtain rfl : k = us.length := by omega
      have HR := Shh.mk (show wordX xs us word = (wd, 0) by
        have := he.out
        rw [List.drop_length] at this
        exact this.symm)
      go_wp2
      go_ret2
      exact ⟨by rw [HR.out]; rfl, hb.out⟩

theorem known_idx {xs : List Aff} {u : ByteArray} (hnm : Names xs) (h : knowsTo xs u xs.length = true) : ∃ j, j < xs.length ∧ (affG xs j).n = u ∧ idxOf xs u = j := by
  obtain ⟨j, hj, e⟩ := knowsTo_at h
  have e2 := bytes_same e
  refine ⟨j, hj, e2, ?_⟩
  unfold idxOf
  rw [← e2, find_fresh (hnm.fresh j hj) hj]
  rfl
theorem append_step {ops : Array Oper} {rest : List Oper} {o : Oper} {a : Act} {Q : Exit → Act → World → Prop} {B : Nat} {W : World} (hgd : o.guard = none) (s x : Operand)
    (ho : o.op = .call { callee := .builtin .append, args := #[s, x], argTypes := #[184, 184] })
    (v : Value) (fs : List Value) (y : Aff) (hs : a.eval s = v) (hx : a.eval x = .slice (some ⟨W.heap.size, 0, none⟩) 1 1)
    (hown : W.ownsRow B 186 1 v fs.length fs) (hlen : fs.length ≤ 1000) (hB : B ≤ W.heap.size)
    (h : ∀ v' w', w'.ownsRow B 186 1 v' (fs ++ [stepV y]).length (fs ++ [stepV y]) → (∀ w0, Below B w0 W → Below B w0 w') → wpList Try.prog ops Q rest (a.put o.dst v') w') :
    wpList Try.prog ops Q (o :: rest) a (W.alloc (.cells #[stepV y] 186)) := by
  obtain ⟨i0, hi, hz0, hz1, hz2⟩ := info_parts info_step
  refine wpList_append_own _ hgd s x 184 ho B 186 i0 .nilFunc 1 8 Try.underlying184 hi hz0 hz1 hz2 rfl (by decide) v fs.length fs hs (World.ownsRow.alloc hown _) ⟨W.heap.size, 0, none⟩ 1 1 [stepV y] hx rfl ?_ ?_ ?_ ?_ ?_ ?_
  · exact cell_one_new _ _ _
  · intro u hu; simp at hu; subst hu; rfl
  · simp [maxLen]; omega
  · omega
  · simp; omega
  · intro v' w' ho' hg _
    refine h v' w' ?_ fun w0 h0 => (h0.alloc hB _).grown hg (by simp; omega) (fun k hk => (World.ownsRow.lt hown k hk).1)
    rw [List.length_append, List.length_singleton]
    exact ho'
set_option maxRecDepth 100000 in
set_option maxHeartbeats 2000000 in
theorem derive_any {b n : Nat} {D : DataW Value} {v : Value} {xs : List Aff} {us : List ByteArray} {stem : ByteArray} (W : World) (hst : Steps W b n D xs xs.length) (hu : Strs W v us) (hx : Shortish xs) (hnm : Names xs)
    (hi : ∀ u ∈ us, knowsTo xs u xs.length = true) (hul : us.length ≤ 2) (hw : stem.size ≤ 1000) :
    Calls Try.prog 76 #[.map (some b), .agg #[.string stem, v]] W fun e w' => e = .returned (retX (wordX xs us stem)) ∧ Below W.heap.size W w' := by
  have hb0 := hst.map.lt
  have HB0 := Shh.mk ((Below.refl W.heap.size W).alloc (Nat.le_refl _) (.cells #[.string stem, v] 50))
  have HQ := Shh.mk (Blk.made W 50 #[.string stem, v])
  have hq0 := HQ.out.cells
  have HST := Shh.mk hst
  have HU := Shh.mk hu
  have HX := Shh.mk hx
  have HNM := Shh.mk hnm
  have HI := Shh.mk hi
  have hw1000 := hw
  obtain ⟨ua, uc, rfl, -, -, huc⟩ := hu
  have HUC := Shh.mk huc
  clear hst huc hx hnm hi
  go_enter Try.func76, Try.ntmps76
  go_wp2
  go_loopw [6, 8, 12] (fun f _ i wr => ∃ (k : Nat), k ≤ us.length ∧ i = .int .i64 k ∧ Shh (wr.ownsRow (W.heap.size + 1) 186 1 f (stepsOf xs (us.take k)).length (stepsOf xs (us.take k))) ∧ Shh (Below W.heap.size W wr) ∧ Shh (Blk wr W.heap.size 50 #[.string stem, .slice ua us.length uc]) ∧ W.heap.size + 1 ≤ wr.heap.size) (fun _ _ i _ => us.length - (intOf i).toNat)
  case atStart => exact ⟨0, Nat.zero_le _, rfl, ⟨World.ownsRow_nil _ _ _ _⟩, HB0, HQ, by simp⟩
  case round =>
    obtain ⟨k, hk, rfl, ho, hb, hq, hsz⟩ := hrel
    by_cases hlt : k < us.length
    · obtain ⟨bu, ou, rfl, hbu, hcc⟩ := HUC.out (by omega)
      have ck := (hb.out.cell (p := ⟨bu, ou + k, none⟩) hbu).trans (hcc k hlt)
      have HTK := Shh.mk (stepsOf_take (xs := xs) hlt)
      obtain ⟨j, hj, hjn, hji⟩ := known_idx HNM.out (HI.out _ (strAt_mem hlt))
      have hsm := HNM.out.small j hj
      have hat := HST.out.here j hj
      rw [hjn] at hat hsm
      rw [hji] at HTK
      obtain ⟨z, hz⟩ : ∃ z, strAt us k = z := ⟨_, rfl⟩
      rw [hz] at ck hat hsm
      have hkey := WideMaps.keyOf_string_mk Try.underlying9 hsm
      have HAT := Shh.mk hat
      have HM := Shh.mk (ownsMap_below HST.out.map hb.out)
      obtain ⟨fs, hfs⟩ : ∃ fs, stepsOf xs (us.take k) = fs := ⟨_, rfl⟩
      rw [hfs] at HTK ho
      have hfl : fs.length ≤ 1000 := by rw [← hfs, stepsOf_len, List.length_take]; omega
      clear hcc hat hz hfs hjn hji
      go_wp2_with (first
        | (at_lookup; refine wpList_lookup_any _ rfl _ _ 104 rfl 9 186 (Maps.string_keyed Try.underlying9) Try.underlying104 .nilFunc (zeroStep _) b n D rfl HM.out _ _ rfl hkey ?_; intro v0 hv0; obtain rfl : (Value.func (.func 134) #[(affG xs j).val] #[]) = v0 := (by rw [HAT.out] at hv0; injection hv0))
        | (at_builtin; (refine append_step rfl _ _ rfl _ fs (affG xs j) rfl rfl ho.out hfl hsz ?_; intro v' w2 ho2 hb2)))
      have HO2 := Shh.mk ho2
      have hbq := Shh.mk (hb2 _ (Below.refl (W.heap.size + 1) wr))
      have HB2 := Shh.mk (hb.out.trans (hbq.out.mono (by omega)))
      have HQ2 := Shh.mk (hq.out.kept hbq.out (by omega))
      have hsz2 : W.heap.size + 1 ≤ w2.heap.size := Nat.le_trans hsz hbq.out.size
      clear ho2 hb2 ck
      go_wp2
      go_roundw
      case rel => exact ⟨k + 1, by omega, by go_num, by rw [HTK.out]; exact HO2, HB2, HQ2, hsz2⟩
      case measure => simp [intOf]; omega
    · obtain rfl : k = us.length := by omega
      have ho := ho.out
      rw [List.take_length, stepsOf_len] at ho
      have HO := Shh.mk ho
      have hq1 := hq.out.cells
      obtain ⟨fa, fc, rfl, -, -, -⟩ := own_form ho
      have HIX := Shh.mk (show ∀ u ∈ us, idxOf xs u < xs.length from fun u hu => by
        obtain ⟨j, hj, -, e⟩ := known_idx HNM.out (HI.out u hu)
        rw [e]
        exact hj)
      clear ho
      go_wp2_with fail
      refine (follow_any stem _ HO.out HX.out HIX.out hw1000).mono ?_
      rintro e w3 ⟨rfl, hb3⟩
      obtain ⟨⟨r, c⟩, hr⟩ : ∃ p, wordX xs us stem = p := ⟨_, rfl⟩
      have HRR := Shh.mk hr
      rw [hr]
      unfold retX
      clear hr
      go_wp2
      go_ret2
      exact ⟨by rw [HRR.out]; rfl, hb.out.trans (hb3.mono hb.out.size)⟩
end Go.Proofs.Ytilagppmljpclaa
